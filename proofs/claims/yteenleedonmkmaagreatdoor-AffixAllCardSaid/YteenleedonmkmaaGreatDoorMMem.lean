/- A range over a function whose body never leaves: what the iterator may write (T), what the rounds keep (R and T): two sets of blocks, whoever laid them and when. -/
import Derived.RangeFuncNested
import Derived.RangeFuncLeaves
import Derived.RangeFuncBound
import Derived.Laws.AppendOwn
import Derived.Test.YteenleedonmkmaaGreatDoorProg
import Derived.Test.YteenleedonmkmaaGreatDoorMPlain
import Derived.Lib.Hide
import Derived.Lib.MapLaws
import Derived.WalkKit
import Derived.WalkSpells
import Derived.WalkLawsBesides
import Derived.IntWalk
import Derived.BigQuiet
import Derived.BigRegion
import Derived.Deep.QuietTactic
import Derived.Deep.LoopGhost
import Derived.Below
import Derived.Outline
import Derived.WalkMore
import Derived.Laws.Rows
namespace Go.Proofs.YteenleedonmkmaaGreatDoor
section
open Go Go.RowKit

/-- W' is W, but for blocks of T and for what is new. -/
structure OnlyAt (T : Nat → Prop) (W W' : World) : Prop where
  os : W'.os = W.os
  tape : W'.tape = W.tape
  output : W'.output = W.output
  size : W.heap.size ≤ W'.heap.size
  block : ∀ k, k < W.heap.size → ¬ T k → W'.heap[k]? = W.heap[k]?

theorem OnlyAt.refl (T : Nat → Prop) (W : World) : OnlyAt T W W := ⟨rfl, rfl, rfl, Nat.le_refl _, fun _ _ _ => rfl⟩
theorem OnlyAt.trans {T : Nat → Prop} {A B C : World} (h : OnlyAt T A B) (k : OnlyAt T B C) : OnlyAt T A C :=
  ⟨k.os.trans h.os, k.tape.trans h.tape, k.output.trans h.output, Nat.le_trans h.size k.size, fun i hi ht => (k.block i (Nat.lt_of_lt_of_le hi h.size) ht).trans (h.block i hi ht)⟩
theorem OnlyAt.mono {T T' : Nat → Prop} {A B : World} (h : OnlyAt T A B) (ht : ∀ k, T k → T' k) : OnlyAt T' A B :=
  ⟨h.os, h.tape, h.output, h.size, fun i hi hn => h.block i hi (fun hh => hn (ht i hh))⟩
theorem OnlyAt.alloc (T : Nat → Prop) (W : World) (o : Obj) : OnlyAt T W (W.alloc o) := ⟨rfl, rfl, rfl, by simp, fun k hk _ => Below.heap_alloc _ _ _ hk⟩
theorem OnlyAt.drew (T : Nat → Prop) (W : World) : OnlyAt T W W.drew := ⟨rfl, rfl, rfl, Nat.le_refl _, fun _ _ _ => rfl⟩
theorem OnlyAt.putObj {T : Nat → Prop} (W : World) (l : Nat) (o : Obj) (h : T l) : OnlyAt T W (W.putObj l o) :=
  ⟨rfl, rfl, rfl, by simp, fun k _ hn => World.putObj_heap_other (fun e => hn (by rw [e]; exact h))⟩
theorem OnlyAt.setCell {T : Nat → Prop} (W : World) (p : Addr) (v : Value) (h : T p.block) : OnlyAt T W (W.setCell p v) :=
  ⟨rfl, rfl, rfl, by simp [World.setCell], fun k _ hn => Below.heap_setCell _ _ _ _ (fun e => hn (by rw [e]; exact h))⟩
theorem OnlyAt.of_below {T : Nat → Prop} {W W' : World} (h : Below W.heap.size W W') : OnlyAt T W W' :=
  ⟨h.os, h.tape, h.output, h.size, fun k hk _ => h.block k hk⟩
theorem OnlyAt.below {T : Nat → Prop} {B : Nat} {a W W' : World} (hb : Below B a W) (h : OnlyAt T W W') (hB : B ≤ W.heap.size) (ht : ∀ k, T k → B ≤ k) : Below B a W' :=
  hb.trans ⟨h.os, h.tape, h.output, h.size, fun k hk => h.block k (by omega) (fun hh => by have := ht k hh; omega)⟩
theorem OnlyAt.of_grown {T : Nat → Prop} {W W' : World} {row : Option Nat} (hg : W.grownBy W' row) (hr : ∀ k, row = some k → T k) : OnlyAt T W W' :=
  ⟨hg.os, hg.tape, hg.output, hg.size, fun k hk hn => hg.block k hk (fun e => hn (hr k e.symm))⟩

/-- Blocks of T lie as they lay. -/
structure KeepsAt (T : Nat → Prop) (W W' : World) : Prop where
  size : W.heap.size ≤ W'.heap.size
  block : ∀ k, k < W.heap.size → T k → W'.heap[k]? = W.heap[k]?
theorem KeepsAt.refl (T : Nat → Prop) (W : World) : KeepsAt T W W := ⟨Nat.le_refl _, fun _ _ _ => rfl⟩
theorem KeepsAt.trans {T : Nat → Prop} {A B C : World} (h : KeepsAt T A B) (k : KeepsAt T B C) : KeepsAt T A C :=
  ⟨Nat.le_trans h.size k.size, fun i hi ht => (k.block i (Nat.lt_of_lt_of_le hi h.size) ht).trans (h.block i hi ht)⟩
theorem KeepsAt.mono {T T' : Nat → Prop} {A B : World} (h : KeepsAt T A B) (ht : ∀ k, T' k → T k) : KeepsAt T' A B := ⟨h.size, fun i hi hn => h.block i hi (ht i hn)⟩
theorem KeepsAt.of_only {S T : Nat → Prop} {A B : World} (h : OnlyAt S A B) (hd : ∀ k, T k → ¬ S k) : KeepsAt T A B := ⟨h.size, fun k hk ht => h.block k hk (hd k ht)⟩

/-- What is said bears the turn of blocks of T, and T may go over to blocks that are new. -/
def Stab {β : Type} (I : (Nat → Prop) → β → World → Prop) : Prop :=
  ∀ T T' s W W', I T s W → OnlyAt T W W' → (∀ k, T' k → T k ∨ (W.heap.size ≤ k ∧ k < W'.heap.size)) → I T' s W'
theorem Stab.same {β : Type} {I : (Nat → Prop) → β → World → Prop} (h : Stab I) {T : Nat → Prop} {s : β} {W W' : World} (hs : I T s W) (ho : OnlyAt T W W') : I T s W' := h T T s W W' hs ho (fun _ hk => .inl hk)

/-- **The contract of an iterator whose rounds always go on: it hands over xs, one behind the other.** R: what it reads; T: what it has laid and still wants. -/
def Gives {α : Type} (P : Program) (g : Nat) (lb : Array Value) (encs : α → Array Value) (xs : List α) (R : Nat → Prop) (W : World) : Prop :=
  ∀ (l : Nat) (J : (Nat → Prop) → List α → World → Prop), Stab J →
    (∀ T pre x W1, (pre ++ [x]) <+: xs → J T pre W1 → YieldAt Fence.wide 0 P l (encs x) W1 fun e W2 => e = .returned (.bool true) ∧ J T (pre ++ [x]) W2 ∧ KeepsAt (fun k => R k ∨ T k) W1 W2) →
    J (fun _ => False) [] W →
    Calls P g (#[.func (.yield l) #[] #[]] ++ lb) W fun e W' => (∃ v, e = .returned v) ∧ ∃ T, J T xs W'

theorem RoundIn.wideIn {n m l0 l : Nat} {P : Program} {f : FuncId} {tmps : Array Value} {assign body : Code} {w : World} {R : Ending → World → Prop} (h : RoundIn Fence.wide n P l f tmps assign body w R) :
    RoundIn (Fence.wide.inRound l0) m P l f tmps assign body w R := ⟨h.1, fun c cs _ => h.2 c cs (room_wide _)⟩
theorem RoundIn.wideOut {n m l : Nat} {P : Program} {f : FuncId} {tmps : Array Value} {assign body : Code} {w : World} {R : Ending → World → Prop} (h : RoundIn Fence.wide n P l f tmps assign body w R) :
    RoundIn Fence.wide m P l f tmps assign body w R := ⟨h.1, fun c cs _ => h.2 c cs (room_wide _)⟩

/-- A new block, written at once. -/
theorem alloc_set (w : World) (cs : Array Value) (t : TypeId) (i : Nat) (v : Value) : (w.alloc (.cells cs t)).setCell ⟨w.heap.size, i, none⟩ v = w.alloc (.cells (cs.setIfInBounds i v) t) := by
  unfold World.setCell World.alloc
  simp only
  congr 1
  apply Array.ext (by simp)
  intro j h1 h2
  simp only [Array.getElem_modify, Array.getElem_push]
  split
  · rename_i h; subst h; simp
  · rename_i h; simp at h1
    rw [dif_pos (by omega)]
    rw [dif_pos (by omega)]

variable {P : Program} {n : Nat}

/-- **'for .. := range g': out of g's contract, the body walked once.** -/
theorem wpIn_gives {α : Type} {g : Operand} {ps : Array Tmp} {assign body : Code} {Q : Exit → Act → World → Prop} {a : Act} {w : World}
    {gf : Nat} {lb : Array Value} (hg : a.eval g = .func (.func gf) #[] lb) (eg : ∀ args w, (callFunc gf args).run P w = .ok (.enter gf args) w) (h1 : 1 ≤ n)
    {encs : α → Array Value} {xs : List α} {R : Nat → Prop} (hseq : ∀ W1, OnlyAt (fun _ => False) w W1 → Gives P gf lb encs xs R W1) (hps : ∀ x, (encs x).size = ps.size) (hR : ∀ k, R k → k < w.heap.size)
    (I : (Nat → Prop) → List α → World → Prop) (hI : Stab I) (h0 : I (fun _ => False) [] w)
    (Ax : (Nat → Prop) → List α → α → Act → World → Prop) (hAx : ∀ pre x a', Stab (fun T (_ : Unit) W => Ax T pre x a' W))
    (hassign : ∀ (l : Nat) (T : Nat → Prop) (pre : List α) (x : α) (W : World) (K : Act → World → Prop), (pre ++ [x]) <+: xs → I T pre W → (∀ k, T k → k < W.heap.size) →
      (∀ a' W', OnlyAt (fun _ => False) W W' → Ax T pre x a' W' → K a' W') →
      assign.wpIn (Fence.wide.inRound l) n P (Exit.then K (fun _ _ _ => False)) { tmps := (ps.zip (encs x)).foldl (fun t (p, v) => t.setIfInBounds p v) a.tmps, defers := [] } W)
    (hbody : ∀ (l : Nat) (T : Nat → Prop) (pre : List α) (x : α) (a' : Act) (W : World), (pre ++ [x]) <+: xs → Ax T pre x a' W → (∀ k, T k → k < W.heap.size) →
      body.wpIn (Fence.wide.inRound l) n P (fun e _ W' => e = .normal ∧ I T (pre ++ [x]) W' ∧ KeepsAt (fun k => R k ∨ T k) W W') a' W)
    (hdone : ∀ (D : Nat) (T : Nat → Prop) (W : World), w.heap.size ≤ D → T D → I T xs W → W.heap[D]? = some (.deferred (some [])) → Q .normal { a with defers := { target := .collected D, args := #[] } :: a.defers } W) :
    (Code.rangeFunc g ps assign body).wpIn Fence.wide n P Q a w := by
  refine wpIn_rangeFunc ?_
  intro fn hfn
  rw [show Fence.wide.round = none from rfl]
  obtain ⟨rec, hrec⟩ : ∃ rec : LoopState → Option Code → Loop, rec = fun st pe => { state := st, pending := pe, fn, tmps := a.tmps, params := ps, assign, body, defers := w.heap.size } := ⟨_, rfl⟩
  obtain ⟨W1, hW1⟩ : ∃ W1, (w.alloc (.deferred (some []))).alloc (.loop (rec .ready none)) = W1 := ⟨_, rfl⟩
  obtain ⟨D, hD⟩ : ∃ D, D = w.heap.size := ⟨_, rfl⟩
  obtain ⟨l, hl⟩ : ∃ l, l = w.heap.size + 1 := ⟨_, rfl⟩
  have hDl : D ≠ l := by omega
  have hs1 : W1.heap.size = w.heap.size + 2 := by rw [← hW1]; simp
  have hL1 : W1.heap[l]? = some (.loop (rec .ready none)) := by
    rw [← hW1, hl]; have := World.alloc_heap_new (w.alloc (.deferred (some []))) (.loop (rec .ready none)); rwa [World.size_alloc] at this
  have hK1 : W1.heap[D]? = some (.deferred (some [])) := by
    rw [← hW1, hD]; exact (Below.heap_alloc _ _ _ (by simp)).trans (World.alloc_heap_new w _)
  have ho1 : OnlyAt (fun _ => False) w W1 := by rw [← hW1]; exact (OnlyAt.alloc _ _ _).trans (OnlyAt.alloc _ _ _)
  refine ⟨l, [{ target := .collected D, args := #[] }], W1, { target := .fn (.func gf) lb, args := #[.func (.yield l) #[] #[]] }, W1, gf,
    #[.func (.yield l) #[] #[]] ++ lb, W1, ?_, ?_, ?_, ?_, fun _ => h1, ?_⟩
  · rw [← hW1, hrec, hl, hD]; exact run_enterLoop_outer _ _ _ _ _
  · simp only [resolve, hg]
    simp [go_sem]
  · intro f' _; trivial
  · simp [invoke, go_sem, eg]
  · refine callsIn_wide.2 ?_
    refine (hseq W1 ho1 l (fun T pre W => I (fun k => T k ∨ k = D ∨ k = l) pre W ∧ (W.heap[l]? = some (.loop (rec .ready none)) ∧ W.heap[D]? = some (.deferred (some []))) ∧ (¬ T l ∧ ¬ T D) ∧ ∀ k, T k → k < W.heap.size) ?_ ?_ ?_).mono ?_
    · -- it bears the iterator's own steps
      rintro T T' s A B ⟨hi, ⟨hl', hk'⟩, ⟨hnl, hnd⟩, hlt⟩ ho ht
      have hlA : l < A.heap.size := (Array.getElem?_eq_some_iff.1 hl').1
      have hDA : D < A.heap.size := (Array.getElem?_eq_some_iff.1 hk').1
      refine ⟨hI _ _ s A B hi (ho.mono (fun k h => .inl h)) ?_, ⟨(ho.block _ hlA hnl).trans hl', (ho.block _ hDA hnd).trans hk'⟩, ⟨fun h => ?_, fun h => ?_⟩, fun k hk => ?_⟩
      · rintro k (hk | hk)
        · rcases ht k hk with h | h
          · exact .inl (.inl h)
          · exact .inr h
        · exact .inl (.inr hk)
      · rcases ht _ h with h | h
        · exact hnl h
        · omega
      · rcases ht _ h with h | h
        · exact hnd h
        · omega
      · rcases ht k hk with h | h
        · have := hlt k h; have := ho.size; omega
        · exact h.2
    · -- one round
      rintro T pre x W hpre ⟨hi, ⟨hl', hk'⟩, ⟨hnl, hnd⟩, hlt⟩
      have hlW : l < W.heap.size := (Array.getElem?_eq_some_iff.1 hl').1
      have hDW : D < W.heap.size := (Array.getElem?_eq_some_iff.1 hk').1
      have hTW : ∀ k, (T k ∨ k = D ∨ k = l) → k < W.heap.size := by
        rintro k (hk | rfl | rfl)
        · exact hlt k hk
        · exact hDW
        · exact hlW
      have hy := run_yield (P := P) (args := encs x) hl' (by rw [hrec]; exact hps x)
      rw [hrec] at hy
      refine ⟨fn, _, assign, body, hy, RoundIn.wideOut (n := n) (roundIn_of_wpIn hfn (hassign l _ pre x W _ hpre hi hTW ?_))⟩
      clear hy
      intro a' Wa hoa hax
      have hla : Wa.heap[l]? = some (.loop (rec .ready none)) := (hoa.block _ hlW id).trans hl'
      have hka : Wa.heap[D]? = some (.deferred (some [])) := (hoa.block _ hDW id).trans hk'
      have hlWa : l < Wa.heap.size := (Array.getElem?_eq_some_iff.1 hla).1
      refine ⟨_, run_beginRound hla (by rw [hrec]), ?_⟩
      have hob : OnlyAt (fun k => T k ∨ k = D ∨ k = l) Wa (Wa.putObj l (.loop { rec .ready none with state := .busy })) := OnlyAt.putObj _ _ _ (.inr (.inr rfl))
      have hlb : (Wa.putObj l (.loop { rec .ready none with state := .busy })).heap[l]? = some (.loop { rec .ready none with state := .busy }) := World.putObj_heap_same hlWa
      have hkb : (Wa.putObj l (.loop { rec .ready none with state := .busy })).heap[D]? = some (.deferred (some [])) := (World.putObj_heap_other hDl).trans hka
      refine wpIn_mono (hbody l _ pre x a' _ hpre ((hAx pre x a').same (s := ()) hax hob) (fun k hk => Nat.lt_of_lt_of_le (hTW k hk) (Nat.le_trans hoa.size hob.size))) ?_
      rintro e a3 W3 ⟨rfl, hi3, hk3⟩
      have hlb' := (Array.getElem?_eq_some_iff.1 hlb).1
      have hkb' := (Array.getElem?_eq_some_iff.1 hkb).1
      have hl3 : W3.heap[l]? = some (.loop { rec .ready none with state := .busy }) := (hk3.block _ hlb' (.inr (.inr (.inr rfl)))).trans hlb
      have hd3 : W3.heap[D]? = some (.deferred (some [])) := (hk3.block _ hkb' (.inr (.inr (.inl rfl)))).trans hkb
      have hl3' := (Array.getElem?_eq_some_iff.1 hl3).1
      have hr := run_endRound (P := P) none hl3
      rw [hrec] at hr
      have hoe : OnlyAt (fun k => T k ∨ k = D ∨ k = l) W3 (W3.putObj l (.loop (rec .ready none))) := OnlyAt.putObj _ _ _ (.inr (.inr rfl))
      refine ⟨_, _, hr, rfl, ?_⟩
      rw [hrec] at hoe
      refine ⟨⟨hI.same hi3 hoe, ⟨?_, (World.putObj_heap_other hDl).trans hd3⟩, ⟨hnl, hnd⟩, fun k hk => ?_⟩, ?_⟩
      · rw [hrec]; exact World.putObj_heap_same hl3'
      · exact Nat.lt_of_lt_of_le (hlt k hk) (Nat.le_trans hoa.size (Nat.le_trans hob.size (Nat.le_trans hk3.size hoe.size)))
      · refine ⟨Nat.le_trans hoa.size (Nat.le_trans hob.size (Nat.le_trans hk3.size hoe.size)), fun k hk hrt => ?_⟩
        have hkl : k ≠ l := by
          rintro rfl
          rcases hrt with h | h
          · have := hR _ h; omega
          · exact hnl h
        refine (World.putObj_heap_other hkl).trans ((hk3.block k ?_ ?_).trans ((World.putObj_heap_other hkl).trans (hoa.block k hk id)))
        · exact Nat.lt_of_lt_of_le hk (Nat.le_trans hoa.size hob.size)
        · rcases hrt with h | h
          · exact .inl h
          · exact .inr (.inl h)
    · refine ⟨hI _ _ [] w W1 h0 ho1 ?_, ⟨hL1, hK1⟩, ⟨id, id⟩, fun _ h => h.elim⟩
      rintro k (h | rfl | rfl)
      · exact h.elim
      · right; omega
      · right; omega
    · -- behind the iterator
      rintro e W2 ⟨⟨v, rfl⟩, T, hi, ⟨hl', hk'⟩, ⟨hnl, hnd⟩, hlt⟩
      refine ⟨none, _, by have := run_endLoop (P := P) hl' (by rw [hrec]; simp); rw [hrec] at this; exact this, ?_⟩
      exact hdone D _ _ (by omega) (.inr (.inl rfl)) (hI.same hi (OnlyAt.putObj _ _ _ (.inr (.inr rfl)))) ((World.putObj_heap_other hDl).trans hk')
end
section
open Go Go.RowKit

/-- Where a row that has grown lies. -/
theorem append_where {P : Program} (w : World) (base : Nat) (t ty e : TypeId) (i : TypeInfo) (z : Value) (size bytes : Nat) (ht : P.underlying t = some (.slice e)) (hi : P.info? e = some i) (hz : i.zero = some z)
    (hsize : i.size = size) (hby : i.bytes = bytes) (hzs : z.cells.size = size) (hsz : 0 < size)
    (v : Value) (n : Nat) (xs : List Value) (hown : w.ownsRow base e size v n xs)
    (a : Addr) (m c : Nat) (news : List Value) (hl : news.length = m * size) (hnews : ∀ j u, news[j]? = some u → w.cell? (a.add j) = some u) (h1 : ∀ u ∈ news, u.oneCell' = true)
    (h63 : n + m ≤ maxLen) (hbytes : (n + m) * bytes ≤ 140737488355328) {v' : Value} {w' : World} (hr : (Builtin.append_ #[t, t] ty #[v, .slice (some a) m c]).run P w = .ok v' w') :
    v'.ownBlock = v.ownBlock ∨ ∀ g, v'.ownBlock = some g → w.heap.size ≤ g := by
  rcases hown.2 with ⟨rfl, rfl⟩ | ⟨g, cap, cur, rfl, hbg, hg, hnc, hcm, hcs, htake⟩
  · right
    have hx : xs = [] := List.eq_nil_of_length_eq_zero (by simpa using hown.1)
    subst hx
    obtain ⟨v2, w2, hr2, ho2, _⟩ := run_append_own (P := P) w w.heap.size t ty e i z size bytes ht hi hz hsize hby hzs hsz (.slice none 0 0) 0 [] (World.ownsRow_nil _ _ _ _) a m c news hl hnews h1 h63 hbytes (Nat.le_refl _)
    rw [hr] at hr2
    cases hr2
    intro g hgb
    exact (ho2.lt g hgb).1
  · subst hsize
    subst hby
    by_cases hroom : n + m ≤ cap
    · left
      have hfit : n * i.size + news.length ≤ cur.size := by rw [hl, hcs, ← Nat.add_mul]; exact Nat.mul_le_mul_right _ hroom
      have hr2 := run_append_room (P := P) w t ty e i ht hi g n cap cur hg a m c news hl hnews h1 hroom hfit
      rw [hr] at hr2
      cases hr2
      rfl
    · right
      have holds : ∀ j u, xs[j]? = some u → w.cell? ((⟨g, 0, none⟩ : Addr).add j) = some u := hown.cells (g := g) rfl
      have hsmall : n + m ≤ 9223372036854775807 := by simp only [maxLen] at h63; omega
      have hr2 := run_append_grow (P := P) w t ty e i z ht hi hz ⟨g, 0, none⟩ n cap xs hown.1 holds a m c news hl hnews (by omega) (by omega) (growslice_fits (by omega) hbytes)
      rw [hr] at hr2
      cases hr2
      intro k hk
      simp [Value.ownBlock] at hk
      omega

theorem wpList_append_where {P : Program} (w : World) {ops : Array Oper} {rest : List Oper} {o : Oper} {a : Act} {Q : Exit → Act → World → Prop} (hgd : o.guard = none) (s x : Operand) (t : TypeId)
    (ho : o.op = .call { callee := .builtin .append, args := #[s, x], argTypes := #[t, t] })
    (base : Nat) (e : TypeId) (i : TypeInfo) (z : Value) (size bytes : Nat) (ht : P.underlying t = some (.slice e)) (hi : P.info? e = some i) (hz : i.zero = some z)
    (hsize : i.size = size) (hby : i.bytes = bytes) (hzs : z.cells.size = size) (hsz : 0 < size)
    (v : Value) (n : Nat) (xs : List Value) (hs : a.eval s = v) (hown : w.ownsRow base e size v n xs)
    (ad : Addr) (m c : Nat) (news : List Value) (hx : a.eval x = .slice (some ad) m c) (hl : news.length = m * size) (hnews : ∀ j u, news[j]? = some u → w.cell? (ad.add j) = some u) (h1 : ∀ u ∈ news, u.oneCell' = true)
    (h63 : n + m ≤ maxLen) (hbytes : (n + m) * bytes ≤ 140737488355328) (hbase : base ≤ w.heap.size)
    (h : ∀ v' w', w'.ownsRow base e size v' (n + m) (xs ++ news) → w.grownBy w' v.ownBlock → (v'.ownBlock = v.ownBlock ∨ ∀ g, v'.ownBlock = some g → w.heap.size ≤ g) → wpList P ops Q rest (a.put o.dst v') w') : wpList P ops Q (o :: rest) a w := by
  refine wpList_plain hgd fun K hK => ?_
  obtain ⟨v', w', hr, h2, h3, _⟩ := run_append_own (P := P) w base t o.type e i z size bytes ht hi hz hsize hby hzs hsz v n xs hown ad m c news hl hnews h1 h63 hbytes hbase
  have h4 := append_where (P := P) w base t o.type e i z size bytes ht hi hz hsize hby hzs hsz v n xs hown ad m c news hl hnews h1 h63 hbytes hr
  unfold Oper.wp execOp
  simp only [ho, resolve, invoke, builtin, Sem.run_bind, Sem.run_pure, Result.andThen_ok, List.map_toArray, List.map_cons, List.map_nil, hs, hx, hr]
  exact hK _ _ (h v' w' h2 h3 h4)
end
section
open Go Go.RowKit

/-- A slice that reads as these numbers. -/
def IntsAt (w : World) (v : Value) (cs : List Int) : Prop :=
  (cs = [] ∧ ∃ a cap, v = .slice a 0 cap) ∨ ∃ b off cap, v = .slice (some ⟨b, off, none⟩) cs.length cap ∧ b < w.heap.size ∧ cs.length ≤ cap ∧ cap ≤ maxLen ∧ ∀ (i : Nat) c, cs[i]? = some c → w.cell? ⟨b, off + i, none⟩ = some (.int .i64 c)
/-- A slice that reads as these items. -/
def ItemsAt (w : World) (v : Value) (l : List It) : Prop :=
  (l = [] ∧ ∃ a cap, v = .slice a 0 cap) ∨ ∃ b off cap, v = .slice (some ⟨b, off, none⟩) l.length cap ∧ b < w.heap.size ∧ l.length ≤ cap ∧ cap ≤ maxLen ∧
    ∀ (i : Nat) it, l[i]? = some it → w.cell? ⟨b, off + i * 3, none⟩ = some (.bool it.any) ∧ w.cell? ⟨b, off + i * 3 + 1, none⟩ = some (.bool it.not) ∧ ∃ sv, w.cell? ⟨b, off + i * 3 + 2, none⟩ = some sv ∧ IntsAt w sv it.set
theorem cell_old {w w' : World} {p : Addr} (hb : Below w.heap.size w w') (hp : p.block < w.heap.size) : w'.cell? p = w.cell? p := by
  unfold World.cell?; rw [hb.block p.block hp]
theorem IntsAt.keep {w w' : World} {v : Value} {cs : List Int} (h : IntsAt w v cs) (hb : Below w.heap.size w w') : IntsAt w' v cs := by
  rcases h with h | ⟨b, off, cap, rfl, h1, h2, h3, h4⟩
  · exact .inl h
  · exact .inr ⟨b, off, cap, rfl, Nat.lt_of_lt_of_le h1 hb.size, h2, h3, fun i c hc => (cell_old (p := ⟨b, off + i, none⟩) hb h1).trans (h4 i c hc)⟩
theorem ItemsAt.keep {w w' : World} {v : Value} {l : List It} (h : ItemsAt w v l) (hb : Below w.heap.size w w') : ItemsAt w' v l := by
  rcases h with h | ⟨b, off, cap, rfl, h1, h2, h3, h4⟩
  · exact .inl h
  · refine .inr ⟨b, off, cap, rfl, Nat.lt_of_lt_of_le h1 hb.size, h2, h3, fun i it hi => ?_⟩
    obtain ⟨k1, k2, sv, k3, k4⟩ := h4 i it hi
    exact ⟨(cell_old (p := ⟨b, off + i * 3, none⟩) hb h1).trans k1, (cell_old (p := ⟨b, off + i * 3 + 1, none⟩) hb h1).trans k2, sv, (cell_old (p := ⟨b, off + i * 3 + 2, none⟩) hb h1).trans k3, k4.keep hb⟩
/-- Numbers in a new block. -/
theorem IntsAt.lit (w : World) (cs : List Int) (xs : Array Value) (t : TypeId) (hx : xs = (cs.map (Value.int .i64)).toArray) (hm : cs.length ≤ 1000) : IntsAt (w.alloc (.cells xs t)) (.slice (some ⟨w.heap.size, 0, none⟩) cs.length cs.length) cs := by
  subst hx
  refine .inr ⟨w.heap.size, 0, cs.length, rfl, by simp, Nat.le_refl _, by unfold maxLen; omega, fun i c hc => ?_⟩
  rw [cell_of_row _ w.heap.size (0 + i) _ t (0, 0) (World.alloc_heap_new w _)]
  simp [hc]

theorem ints_open {w : World} {v : Value} {cs : List Int} (h : IntsAt w v cs) : ∃ A cap, v = .slice A cs.length cap ∧ ∀ (i : Nat) c, cs[i]? = some c → ∃ q o, A = some ⟨q, o, none⟩ ∧ q < w.heap.size ∧ cs.length ≤ cap ∧ w.cell? ⟨q, o + i, none⟩ = some (.int .i64 c) := by
  obtain ⟨rfl, a, cap, rfl⟩ | ⟨b, off, cap, rfl, hlt, hcap, hm, hc⟩ := h
  · exact ⟨a, cap, rfl, fun i c hi => by simp at hi⟩
  · exact ⟨_, cap, rfl, fun i c hi => ⟨b, off, rfl, hlt, hcap, hc i c hi⟩⟩
end
section
open Go Go.RowKit

/-! ### Rows that grow -/
/-- An item's cells, its set in the slice sv. -/
def iCells (it : It) (sv : Value) : List Value := [.bool it.any, .bool it.not, sv]
def ItsRow (w : World) (xs : List Value) (l : List It) (N : Nat → Prop) : Prop :=
  ∀ (i : Nat) it, l[i]? = some it → ∃ sv, xs[i * 3]? = some (.bool it.any) ∧ xs[i * 3 + 1]? = some (.bool it.not) ∧ xs[i * 3 + 2]? = some sv ∧ IntsAt w sv it.set ∧ ∀ b, sv.ownBlock = some b → b < w.heap.size ∧ ¬ N b
structure Grow (w0 w : World) (v vc : Value) (xs : List Value) (l : List It) (cs : List Int) : Prop where
  row : w.ownsRow w0.heap.size 39 3 v l.length xs
  codes : w.ownsRow w0.heap.size 3 1 vc cs.length (cs.map (Value.int .i64))
  sets : ItsRow w xs l (fun b => v.ownBlock = some b ∨ vc.ownBlock = some b)
  below : Below w0.heap.size w0 w
theorem apart {w : World} {B e e' size size' n n' : Nat} {v v' : Value} {xs xs' : List Value} (h : w.ownsRow B e size v n xs) (h' : w.ownsRow B e' size' v' n' xs') (hne : e ≠ e') : v.ownBlock = none ∨ v.ownBlock ≠ v'.ownBlock := by
  rcases h.2 with ⟨rfl, _⟩ | ⟨g, cap, cur, rfl, _, hg, _⟩
  · left; rfl
  · right
    rcases h'.2 with ⟨rfl, _⟩ | ⟨g', cap', cur', rfl, _, hg', _⟩
    · simp [Value.ownBlock]
    · simp only [Value.ownBlock]
      intro e1
      obtain rfl : g = g' := Option.some.inj e1
      rw [hg] at hg'
      simp at hg'
      exact hne hg'.2
/-- Numbers stand where their block does. -/
theorem IntsAt.still {w w' : World} {v : Value} {cs : List Int} (h : IntsAt w v cs) (hs : w.heap.size ≤ w'.heap.size) (hb : ∀ b, v.ownBlock = some b → b < w.heap.size → w'.heap[b]? = w.heap[b]?) : IntsAt w' v cs := by
  rcases h with h | ⟨b, off, cap, rfl, h1, h2, h3, h4⟩
  · exact .inl h
  · exact .inr ⟨b, off, cap, rfl, Nat.lt_of_lt_of_le h1 hs, h2, h3, fun i c hc => (by unfold World.cell?; rw [show (⟨b, off + i, none⟩ : Addr).block = b from rfl, hb b rfl h1]; exact h4 i c hc)⟩
theorem ItsRow.still {w w' : World} {xs : List Value} {l : List It} {N N' : Nat → Prop} (h : ItsRow w xs l N) (hs : w.heap.size ≤ w'.heap.size) (hb : ∀ b, b < w.heap.size → ¬ N b → w'.heap[b]? = w.heap[b]?) (hN : ∀ b, b < w.heap.size → N' b → N b) : ItsRow w' xs l N' := by
  intro i it hi
  obtain ⟨sv, h1, h2, h3, h4, h5⟩ := h i it hi
  exact ⟨sv, h1, h2, h3, h4.still hs fun b hv hlt => hb b hlt (h5 b hv).2, fun b hv => ⟨Nat.lt_of_lt_of_le (h5 b hv).1 hs, fun hn => (h5 b hv).2 (hN b (h5 b hv).1 hn)⟩⟩
theorem ItsRow.snoc {w : World} {xs : List Value} {l : List It} {N : Nat → Prop} (h : ItsRow w xs l N) (hl : xs.length = l.length * 3) {it : It} {sv : Value} (hv : IntsAt w sv it.set) (hb : ∀ b, sv.ownBlock = some b → b < w.heap.size ∧ ¬ N b) : ItsRow w (xs ++ iCells it sv) (l ++ [it]) N := by
  intro i x hi
  rcases Nat.lt_or_ge i l.length with hlt | hge
  · rw [List.getElem?_append_left hlt] at hi
    obtain ⟨s, h1, h2, h3, h4, h5⟩ := h i x hi
    exact ⟨s, by rw [List.getElem?_append_left (by omega)]; exact h1, by rw [List.getElem?_append_left (by omega)]; exact h2, by rw [List.getElem?_append_left (by omega)]; exact h3, h4, h5⟩
  · rw [List.getElem?_append_right hge] at hi
    have h0 : i - l.length = 0 := by
      have := (List.getElem?_eq_some_iff.1 hi).1
      simp at this; omega
    rw [h0] at hi
    obtain rfl : it = x := by simpa using hi
    obtain rfl : i = l.length := by omega
    refine ⟨sv, ?_, ?_, ?_, hv, hb⟩
    · rw [List.getElem?_append_right (by omega), hl, Nat.sub_self]; rfl
    · rw [List.getElem?_append_right (by omega), hl, show l.length * 3 + 1 - l.length * 3 = 1 by omega]; rfl
    · rw [List.getElem?_append_right (by omega), hl, show l.length * 3 + 2 - l.length * 3 = 2 by omega]; rfl
theorem Grow.alloc {w0 w : World} {v vc : Value} {xs : List Value} {l : List It} {cs : List Int} (h : Grow w0 w v vc xs l cs) (o : Obj) : Grow w0 (w.alloc o) v vc xs l cs :=
  ⟨h.row.alloc o, h.codes.alloc o, h.sets.still (by simp) (fun b hb _ => Below.heap_alloc _ _ _ hb) (fun _ _ hn => hn), h.below.alloc h.below.size o⟩
/-- An item more. -/
theorem Grow.item {w0 w w' : World} {v vc v' : Value} {xs : List Value} {l : List It} {cs : List Int} {it : It} {sv : Value} (h : Grow w0 w v vc xs l cs) (hown : w'.ownsRow w0.heap.size 39 3 v' (l.length + 1) (xs ++ iCells it sv)) (hgrow : w.grownBy w' v.ownBlock)
    (hwh : v'.ownBlock = v.ownBlock ∨ ∀ g, v'.ownBlock = some g → w.heap.size ≤ g) (hv : IntsAt w sv it.set) (hb : ∀ b, sv.ownBlock = some b → b < w.heap.size ∧ v.ownBlock ≠ some b ∧ vc.ownBlock ≠ some b) : Grow w0 w' v' vc (xs ++ iCells it sv) (l ++ [it]) cs := by
  have hlo : ∀ z, v.ownBlock = some z → w0.heap.size ≤ z := fun z hz => (h.row.lt z hz).1
  refine ⟨by rw [List.length_append]; exact hown, h.codes.kept hgrow ?_, ?_, h.below.grown hgrow h.below.size hlo⟩
  · rcases apart h.codes h.row (by decide) with e | e
    · exact .inl e
    · exact .inr e
  · have h1 : ItsRow w (xs ++ iCells it sv) (l ++ [it]) (fun b => v.ownBlock = some b ∨ vc.ownBlock = some b) := h.sets.snoc h.row.1 hv fun b hvb => ⟨(hb b hvb).1, fun hn => hn.elim (hb b hvb).2.1 (hb b hvb).2.2⟩
    refine h1.still hgrow.size (fun b hlt hn => hgrow.block b hlt (fun e => hn (.inl e.symm))) (fun b hlt hn => ?_)
    rcases hn with hn | hn
    · rcases hwh with e | e
      · exact .inl (e ▸ hn)
      · have := e b hn; omega
    · exact .inr hn
/-- A code more. -/
theorem Grow.code {w0 w w' : World} {v vc vc' : Value} {xs : List Value} {l : List It} {cs : List Int} {c : Int} (h : Grow w0 w v vc xs l cs) (hown : w'.ownsRow w0.heap.size 3 1 vc' (cs.length + 1) (cs.map (Value.int .i64) ++ [.int .i64 c])) (hgrow : w.grownBy w' vc.ownBlock)
    (hwh : vc'.ownBlock = vc.ownBlock ∨ ∀ g, vc'.ownBlock = some g → w.heap.size ≤ g) : Grow w0 w' v vc' xs l (cs ++ [c]) := by
  have hlo : ∀ z, vc.ownBlock = some z → w0.heap.size ≤ z := fun z hz => (h.codes.lt z hz).1
  refine ⟨h.row.kept hgrow ?_, by rw [List.length_append, List.map_append]; exact hown, ?_, h.below.grown hgrow h.below.size hlo⟩
  · rcases apart h.row h.codes (by decide) with e | e
    · exact .inl e
    · exact .inr e
  · refine h.sets.still hgrow.size (fun b hlt hn => hgrow.block b hlt (fun e => hn (.inr e.symm))) (fun b hlt hn => ?_)
    rcases hn with hn | hn
    · exact .inl hn
    · rcases hwh with e | e
      · exact .inr (e ▸ hn)
      · have := e b hn; omega
theorem Grow.start (w : World) : Grow w w (.slice none 0 0) (.slice none 0 0) [] [] [] :=
  ⟨World.ownsRow_nil _ _ _ _, World.ownsRow_nil _ _ _ _, fun i it h => by simp at h, Below.refl _ _⟩
/-- Rows of our own read as items, as codes. -/
theorem Grow.reads {w0 w : World} {v vc : Value} {xs : List Value} {l : List It} {cs : List Int} (h : Grow w0 w v vc xs l cs) : ItemsAt w v l ∧ IntsAt w vc cs := by
  have hadd : ∀ (g j : Nat), (⟨g, 0, none⟩ : Addr).add j = ⟨g, j, none⟩ := fun g j => by unfold Addr.add; split <;> simp_all
  constructor
  · have hc := @World.ownsRow.cells _ _ _ _ _ _ _ h.row
    rcases h.row.2 with ⟨rfl, h0⟩ | ⟨g, cap, cur, rfl, hb, hg, hnc, hcm, _⟩
    · exact .inl ⟨List.eq_nil_of_length_eq_zero h0, _, _, rfl⟩
    · refine .inr ⟨g, 0, cap, rfl, (Array.getElem?_eq_some_iff.1 hg).1, hnc, hcm, fun i it hi => ?_⟩
      obtain ⟨sv, h1, h2, h3, h4, _⟩ := h.sets i it hi
      rw [Nat.zero_add]
      exact ⟨by rw [← hadd]; exact hc (g := g) rfl _ _ h1, by rw [← hadd]; exact hc (g := g) rfl _ _ h2, sv, by rw [← hadd]; exact hc (g := g) rfl _ _ h3, h4⟩
  · have hc := @World.ownsRow.cells _ _ _ _ _ _ _ h.codes
    rcases h.codes.2 with ⟨rfl, h0⟩ | ⟨g, cap, cur, rfl, hb, hg, hnc, hcm, _⟩
    · exact .inl ⟨List.eq_nil_of_length_eq_zero h0, _, _, rfl⟩
    · refine .inr ⟨g, 0, cap, rfl, (Array.getElem?_eq_some_iff.1 hg).1, hnc, hcm, fun i c hi => ?_⟩
      rw [Nat.zero_add, ← hadd]
      exact hc (g := g) rfl i _ (by rw [List.getElem?_map, hi]; rfl)
/-- A row of our own reads as codes. -/
theorem ints_own {w : World} {B : Nat} {vc : Value} {cs : List Int} (h : w.ownsRow B 3 1 vc cs.length (cs.map (Value.int .i64))) : IntsAt w vc cs := by
  have hadd : ∀ (g j : Nat), (⟨g, 0, none⟩ : Addr).add j = ⟨g, j, none⟩ := fun g j => by unfold Addr.add; split <;> simp_all
  have hc := @World.ownsRow.cells _ _ _ _ _ _ _ h
  rcases h.2 with ⟨rfl, h0⟩ | ⟨g, cap, cur, rfl, hb, hg, hnc, hcm, _⟩
  · exact .inl ⟨List.eq_nil_of_length_eq_zero h0, _, _, rfl⟩
  · refine .inr ⟨g, 0, cap, rfl, (Array.getElem?_eq_some_iff.1 hg).1, hnc, hcm, fun i c hi => ?_⟩
    rw [Nat.zero_add, ← hadd]
    exact hc (g := g) rfl i _ (by rw [List.getElem?_map, hi]; rfl)
theorem Tryz.infosN39 : (Tryz.prog.info? 39).map (fun i => (i.zero, i.size, i.bytes)) = some (some (.agg #[.bool false, .bool false, .slice none 0 0]), 3, 32) := by kernel_rfl
theorem Tryz.infosN3 : (Tryz.prog.info? 3).map (fun i => (i.zero, i.size, i.bytes)) = some (some (.int .i64 0), 1, 8) := by kernel_rfl
theorem news_row (w : World) (cs : Array Value) (t : TypeId) : ∀ j u, cs.toList[j]? = some u → (w.alloc (.cells cs t)).cell? ((⟨w.heap.size, 0, none⟩ : Addr).add j) = some u := by
  intro j u hu
  have hadd : (⟨w.heap.size, 0, none⟩ : Addr).add j = ⟨w.heap.size, j, none⟩ := by unfold Addr.add; split <;> simp_all
  rw [hadd, cell_of_row _ w.heap.size j cs t (0, 0) (World.alloc_heap_new w _)]
  simpa using hu
theorem news_row2 (w : World) (o : Obj) (cs : Array Value) (t : TypeId) : ∀ j u, cs.toList[j]? = some u → ((w.alloc o).alloc (.cells cs t)).cell? ((⟨w.heap.size + 1, 0, none⟩ : Addr).add j) = some u := by
  have := news_row (w.alloc o) cs t
  rwa [World.size_alloc] at this
theorem add9 (g j : Nat) : (⟨g, 0, none⟩ : Addr).add j = ⟨g, j, none⟩ := by unfold Addr.add; split <;> simp_all
theorem own_open9 {w : World} {B e size n : Nat} {v : Value} {xs : List Value} (h : w.ownsRow B e size v n xs) (hn : 0 < n) :
    ∃ g cap, v = .slice (some ⟨g, 0, none⟩) n cap ∧ g < w.heap.size ∧ n ≤ cap ∧ cap ≤ maxLen ∧ ∀ j u, xs[j]? = some u → w.cell? ⟨g, j, none⟩ = some u := by
  have hc := @World.ownsRow.cells _ _ _ _ _ _ _ h
  rcases h.2 with ⟨_, rfl⟩ | ⟨g, cap, cur, rfl, hb, hg, hnc, hcm, _⟩
  · omega
  · refine ⟨g, cap, rfl, (Array.getElem?_eq_some_iff.1 hg).1, hnc, hcm, fun j u hu => ?_⟩
    have hadd : (⟨g, 0, none⟩ : Addr).add j = ⟨g, j, none⟩ := by unfold Addr.add; split <;> simp_all
    rw [← hadd]
    exact hc (g := g) rfl j u hu
theorem own_keep9 {w w' : World} {B : Nat} {e : TypeId} {size n : Nat} {v : Value} {xs : List Value} (h : w.ownsRow B e size v n xs) (hb : Below w.heap.size w w') : w'.ownsRow B e size v n xs := by
  refine ⟨h.1, ?_⟩
  rcases h.2 with h | ⟨g, cap, cur, h1, h2, h3, h4⟩
  · exact .inl h
  · exact .inr ⟨g, cap, cur, h1, h2, (hb.block g (Array.getElem?_eq_some_iff.1 h3).1).trans h3, h4⟩
theorem Grow.keep {w0 w w' : World} {v vc : Value} {xs : List Value} {l : List It} {cs : List Int} (h : Grow w0 w v vc xs l cs) (hb : Below w.heap.size w w') : Grow w0 w' v vc xs l cs :=
  ⟨own_keep9 h.row hb, own_keep9 h.codes hb, h.sets.still hb.size (fun b hlt _ => hb.block b hlt) (fun _ _ hn => hn), h.below.trans (hb.mono h.below.size)⟩
theorem iCells_one (it : It) (a : Option Addr) (n cp : Nat) : ∀ u ∈ iCells it (.slice a n cp), u.oneCell' = true := by
  intro u hu
  unfold iCells at hu
  simp only [List.mem_cons, List.not_mem_nil, or_false] at hu
  rcases hu with rfl | rfl | rfl <;> rfl
end
section
open Go Go.RowKit

/-- A slice that reads as these items, in blocks from B on. -/
def ItemsNew (B : Nat) (w : World) (v : Value) (l : List It) : Prop :=
  (l = [] ∧ ∃ a cap, v = .slice a 0 cap) ∨ ∃ b off cap, v = .slice (some ⟨b, off, none⟩) l.length cap ∧ b < w.heap.size ∧ B ≤ b ∧ l.length ≤ cap ∧ cap ≤ maxLen ∧
    ∀ (i : Nat) it, l[i]? = some it → w.cell? ⟨b, off + i * 3, none⟩ = some (.bool it.any) ∧ w.cell? ⟨b, off + i * 3 + 1, none⟩ = some (.bool it.not) ∧ ∃ sv, w.cell? ⟨b, off + i * 3 + 2, none⟩ = some sv ∧ IntsAt w sv it.set ∧ ∀ g, sv.ownBlock = some g → B ≤ g
theorem ItemsNew.at {B : Nat} {w : World} {v : Value} {l : List It} (h : ItemsNew B w v l) : ItemsAt w v l := by
  rcases h with h | ⟨b, off, cap, h1, h2, _, h4, h5, h6⟩
  · exact .inl h
  · refine .inr ⟨b, off, cap, h1, h2, h4, h5, fun i it hi => ?_⟩
    obtain ⟨k1, k2, sv, k3, k4, _⟩ := h6 i it hi
    exact ⟨k1, k2, sv, k3, k4⟩
theorem ItemsNew.less {B B' : Nat} {w : World} {v : Value} {l : List It} (h : ItemsNew B w v l) (hB : B' ≤ B) : ItemsNew B' w v l := by
  rcases h with h | ⟨b, off, cap, h1, h2, h3, h4, h5, h6⟩
  · exact .inl h
  · refine .inr ⟨b, off, cap, h1, h2, by omega, h4, h5, fun i it hi => ?_⟩
    obtain ⟨k1, k2, sv, k3, k4, k5⟩ := h6 i it hi
    exact ⟨k1, k2, sv, k3, k4, fun g hg => Nat.le_trans hB (k5 g hg)⟩
/-- Only blocks below B are written. -/
theorem ItemsNew.still {B : Nat} {w w' : World} {v : Value} {l : List It} (h : ItemsNew B w v l) (hs : w.heap.size ≤ w'.heap.size) (hb : ∀ b, B ≤ b → b < w.heap.size → w'.heap[b]? = w.heap[b]?) : ItemsNew B w' v l := by
  rcases h with h | ⟨b, off, cap, h1, h2, h3, h4, h5, h6⟩
  · exact .inl h
  · have hc : ∀ o, w'.cell? ⟨b, o, none⟩ = w.cell? ⟨b, o, none⟩ := fun o => by unfold World.cell?; rw [show (⟨b, o, none⟩ : Addr).block = b from rfl, hb b h3 h2]
    refine .inr ⟨b, off, cap, h1, Nat.lt_of_lt_of_le h2 hs, h3, h4, h5, fun i it hi => ?_⟩
    obtain ⟨k1, k2, sv, k3, k4, k5⟩ := h6 i it hi
    refine ⟨(hc _).trans k1, (hc _).trans k2, sv, (hc _).trans k3, ?_, k5⟩
    rcases k4 with k4 | ⟨q, qo, qc, rfl, q1, q2, q3, q4⟩
    · exact .inl k4
    · exact .inr ⟨q, qo, qc, rfl, Nat.lt_of_lt_of_le q1 hs, q2, q3, fun j c hj => by
        have := q4 j c hj
        unfold World.cell? at this ⊢
        rw [show (⟨q, qo + j, none⟩ : Addr).block = q from rfl] at this ⊢
        rw [hb q (k5 q rfl) q1]
        exact this⟩
theorem ItemsNew.keep {B : Nat} {w w' : World} {v : Value} {l : List It} (h : ItemsNew B w v l) (hb : Below w.heap.size w w') : ItemsNew B w' v l :=
  h.still hb.size fun b _ hlt => hb.block b hlt
/-- The sets of a row's items lie in blocks from B on. -/
def FreshX (B : Nat) (xs : List Value) (l : List It) : Prop := ∀ (i : Nat) it, l[i]? = some it → ∀ sv, xs[i * 3 + 2]? = some sv → ∀ b, sv.ownBlock = some b → B ≤ b
theorem FreshX.nil (B : Nat) : FreshX B [] [] := fun i it h => by simp at h
theorem FreshX.snoc {B : Nat} {xs : List Value} {l : List It} {it : It} {a b sv : Value} (h : FreshX B xs l) (hl : xs.length = l.length * 3) (hb : ∀ g, sv.ownBlock = some g → B ≤ g) : FreshX B (xs ++ [a, b, sv]) (l ++ [it]) := by
  intro i x hi s hs
  rcases Nat.lt_or_ge i l.length with hlt | hge
  · rw [List.getElem?_append_left hlt] at hi
    rw [List.getElem?_append_left (by omega)] at hs
    exact h i x hi s hs
  · rw [List.getElem?_append_right hge] at hi
    have h0 : i - l.length = 0 := by
      have := (List.getElem?_eq_some_iff.1 hi).1
      simp at this; omega
    obtain rfl : i = l.length := by omega
    rw [List.getElem?_append_right (by omega), hl, show l.length * 3 + 2 - l.length * 3 = 2 by omega] at hs
    obtain rfl : sv = s := by simpa using hs
    exact hb
end
end Go.Proofs.YteenleedonmkmaaGreatDoor
