/- A range over a function whose body may leave: what the iterator may write (T), what the rounds keep (R and T); in whatever order it hands over. -/
import Derived.Test.YtcbmfkgekhadkaaGreatDoorZGa
import Derived.Maps.RangeWalk
import Derived.Maps.Ext
import Derived.DeepKeys4
namespace Go.Proofs.YtcbmfkgekhadkaaGreatDoor
section
open Go Go.RowKit

/-- **The contract of an iterator whose rounds may say 'no more'.** Adm: what it may hand over next; S: what is said of all that has come; R: what it reads; T: what it has laid and still wants. -/
def Stops {α : Type} (P : Program) (g : Nat) (lb : Array Value) (encs : α → Array Value) (Adm : List α → α → Prop) (S : List α → Prop) (R : Nat → Prop) (W : World) : Prop :=
  ∀ (l : Nat) (J Jx : (Nat → Prop) → List α → World → Prop), Stab J → Stab Jx →
    (∀ T pre x W1, Adm pre x → J T pre W1 → YieldAt Fence.wide 0 P l (encs x) W1 fun e W2 =>
      ((e = .returned (.bool true) ∧ J T (pre ++ [x]) W2) ∨ (e = .returned (.bool false) ∧ Jx T (pre ++ [x]) W2)) ∧ KeepsAt (fun k => R k ∨ T k) W1 W2) →
    J (fun _ => False) [] W →
    Calls P g (#[.func (.yield l) #[] #[]] ++ lb) W fun e W' => (∃ v, e = .returned v) ∧ ∃ T xs, (S xs ∧ J T xs W') ∨ Jx T xs W'

/-- What a round's body owes at its end. -/
def stopPost {α : Type} (I : (Nat → Prop) → List α → World → Prop) (Ix : Code → (Nat → Prop) → List α → World → Prop) (R T : Nat → Prop) (xs : List α) (W : World) : Exit → Act → World → Prop
  | .normal, _, W' => I T xs W' ∧ KeepsAt (fun k => R k ∨ T k) W W'
  | .ret, _, W' => Ix .ret T xs W' ∧ KeepsAt (fun k => R k ∨ T k) W W'
  | .exit id, _, W' => Ix (.exit id) T xs W' ∧ KeepsAt (fun k => R k ∨ T k) W W'
  | .goto t, _, W' => Ix (.goto t) T xs W' ∧ KeepsAt (fun k => R k ∨ T k) W W'
  | _, _, _ => False

variable {P : Program} {n : Nat}

/-- **'for .. := range g': out of g's contract, the body walked once.** -/
theorem wpIn_stops {α : Type} {g : Operand} {ps : Array Tmp} {assign body : Code} {Q : Exit → Act → World → Prop} {a : Act} {w : World}
    {gf : Nat} {lb : Array Value} (hg : a.eval g = .func (.func gf) #[] lb) (eg : ∀ args w, (callFunc gf args).run P w = .ok (.enter gf args) w) (h1 : 1 ≤ n)
    {encs : α → Array Value} {Adm : List α → α → Prop} {S : List α → Prop} {R : Nat → Prop} (hseq : ∀ W1, OnlyAt (fun _ => False) w W1 → Stops P gf lb encs Adm S R W1) (hps : ∀ x, (encs x).size = ps.size) (hR : ∀ k, R k → k < w.heap.size)
    (I : (Nat → Prop) → List α → World → Prop) (hI : Stab I) (Ix : Code → (Nat → Prop) → List α → World → Prop) (hIx : ∀ c, Stab (Ix c)) (h0 : I (fun _ => False) [] w)
    (Ax : (Nat → Prop) → List α → α → Act → World → Prop) (hAx : ∀ pre x a', Stab (fun T (_ : Unit) W => Ax T pre x a' W))
    (hassign : ∀ (l : Nat) (T : Nat → Prop) (pre : List α) (x : α) (W : World) (K : Act → World → Prop), Adm pre x → I T pre W → (∀ k, T k → k < W.heap.size) →
      (∀ a' W', OnlyAt (fun _ => False) W W' → Ax T pre x a' W' → K a' W') →
      assign.wpIn (Fence.wide.inRound l) n P (Exit.then K (fun _ _ _ => False)) { tmps := (ps.zip (encs x)).foldl (fun t (p, v) => t.setIfInBounds p v) a.tmps, defers := [] } W)
    (hbody : ∀ (l : Nat) (T : Nat → Prop) (pre : List α) (x : α) (a' : Act) (W : World), Adm pre x → Ax T pre x a' W → (∀ k, T k → k < W.heap.size) →
      body.wpIn (Fence.wide.inRound l) n P (stopPost I Ix R T (pre ++ [x]) W) a' W)
    (hdone : ∀ (D : Nat) (T : Nat → Prop) (xs : List α) (W : World), w.heap.size ≤ D → T D → S xs → I T xs W → W.heap[D]? = some (.deferred (some [])) → Q .normal { a with defers := { target := .collected D, args := #[] } :: a.defers } W)
    (hstop : ∀ (D : Nat) (T : Nat → Prop) (c : Code) (xs : List α) (W : World), w.heap.size ≤ D → T D → Ix c T xs W → W.heap[D]? = some (.deferred (some [])) → c.wpIn Fence.wide n P Q { a with defers := { target := .collected D, args := #[] } :: a.defers } W) :
    (Code.rangeFunc g ps assign body).wpIn Fence.wide n P Q a w := by
  refine wpIn_rangeFunc ?_
  intro fn hfn
  rw [show Fence.wide.round = none from rfl]
  obtain ⟨rec, hrec⟩ : ∃ rec : LoopState → Option Code → Loop, rec = fun st pe => { state := st, pending := pe, fn, tmps := a.tmps, params := ps, assign, body, defers := w.heap.size } := ⟨_, rfl⟩
  obtain ⟨W1, hW1⟩ : ∃ W1, (w.alloc (.deferred (some []))).alloc (.loop (rec .ready none)) = W1 := ⟨_, rfl⟩
  obtain ⟨D, hD⟩ : ∃ D, D = w.heap.size := ⟨_, rfl⟩
  obtain ⟨l, hl⟩ : ∃ l, l = w.heap.size + 1 := ⟨_, rfl⟩
  have hDl : D ≠ l := by omega
  have hs1 : W1.heap.size = w.heap.size + 2 := by rw [← hW1]; simp
  have hL1 : W1.heap[l]? = some (.loop (rec .ready none)) := by
    rw [← hW1, hl]; have := World.alloc_heap_new (w.alloc (.deferred (some []))) (.loop (rec .ready none)); rwa [World.size_alloc] at this
  have hK1 : W1.heap[D]? = some (.deferred (some [])) := by
    rw [← hW1, hD]; exact (Below.heap_alloc _ _ _ (by simp)).trans (World.alloc_heap_new w _)
  have ho1 : OnlyAt (fun _ => False) w W1 := by rw [← hW1]; exact (OnlyAt.alloc _ _ _).trans (OnlyAt.alloc _ _ _)
  -- whatever speaks of the loop's two blocks bears the iterator's own steps
  have book : ∀ (o : Obj) (I0 : (Nat → Prop) → List α → World → Prop), Stab I0 → Stab (fun T pre W => I0 (fun k => T k ∨ k = D ∨ k = l) pre W ∧ (W.heap[l]? = some o ∧ W.heap[D]? = some (.deferred (some []))) ∧ (¬ T l ∧ ¬ T D) ∧ ∀ k, T k → k < W.heap.size) := by
    rintro o I0 hI0 T T' s A B ⟨hi, ⟨hl', hk'⟩, ⟨hnl, hnd⟩, hlt⟩ ho ht
    have hlA : l < A.heap.size := (Array.getElem?_eq_some_iff.1 hl').1
    have hDA : D < A.heap.size := (Array.getElem?_eq_some_iff.1 hk').1
    refine ⟨hI0 _ _ s A B hi (ho.mono (fun k h => .inl h)) ?_, ⟨(ho.block _ hlA hnl).trans hl', (ho.block _ hDA hnd).trans hk'⟩, ⟨fun h => ?_, fun h => ?_⟩, fun k hk => ?_⟩
    · rintro k (hk | hk)
      · rcases ht k hk with h | h
        · exact .inl (.inl h)
        · exact .inr h
      · exact .inl (.inr hk)
    · rcases ht _ h with h | h
      · exact hnl h
      · omega
    · rcases ht _ h with h | h
      · exact hnd h
      · omega
    · rcases ht k hk with h | h
      · have := hlt k h; have := ho.size; omega
      · exact h.2
  refine ⟨l, [{ target := .collected D, args := #[] }], W1, { target := .fn (.func gf) lb, args := #[.func (.yield l) #[] #[]] }, W1, gf,
    #[.func (.yield l) #[] #[]] ++ lb, W1, ?_, ?_, ?_, ?_, fun _ => h1, ?_⟩
  · rw [← hW1, hrec, hl, hD]; exact run_enterLoop_outer _ _ _ _ _
  · simp only [resolve, hg]
    simp [go_sem]
  · intro f' _; trivial
  · simp [invoke, go_sem, eg]
  · refine callsIn_wide.2 ?_
    refine (hseq W1 ho1 l (fun T pre W => I (fun k => T k ∨ k = D ∨ k = l) pre W ∧ (W.heap[l]? = some (.loop (rec .ready none)) ∧ W.heap[D]? = some (.deferred (some []))) ∧ (¬ T l ∧ ¬ T D) ∧ ∀ k, T k → k < W.heap.size)
      (fun T pre W => ∃ c, Ix c (fun k => T k ∨ k = D ∨ k = l) pre W ∧ (W.heap[l]? = some (.loop (rec .done (some c))) ∧ W.heap[D]? = some (.deferred (some []))) ∧ (¬ T l ∧ ¬ T D) ∧ ∀ k, T k → k < W.heap.size)
      (book _ I hI) ?_ ?_ ?_).mono ?_
    · rintro T T' s A B ⟨c, hc⟩ ho ht
      exact ⟨c, book _ (Ix c) (hIx c) T T' s A B hc ho ht⟩
    · -- one round
      rintro T pre x W hadm ⟨hi, ⟨hl', hk'⟩, ⟨hnl, hnd⟩, hlt⟩
      have hlW : l < W.heap.size := (Array.getElem?_eq_some_iff.1 hl').1
      have hDW : D < W.heap.size := (Array.getElem?_eq_some_iff.1 hk').1
      have hTW : ∀ k, (T k ∨ k = D ∨ k = l) → k < W.heap.size := by
        rintro k (hk | rfl | rfl)
        · exact hlt k hk
        · exact hDW
        · exact hlW
      have hy := run_yield (P := P) (args := encs x) hl' (by rw [hrec]; exact hps x)
      rw [hrec] at hy
      refine ⟨fn, _, assign, body, hy, RoundIn.wideOut (n := n) (roundIn_of_wpIn hfn (hassign l _ pre x W _ hadm hi hTW ?_))⟩
      clear hy
      intro a' Wa hoa hax
      have hla : Wa.heap[l]? = some (.loop (rec .ready none)) := (hoa.block _ hlW id).trans hl'
      have hka : Wa.heap[D]? = some (.deferred (some [])) := (hoa.block _ hDW id).trans hk'
      have hlWa : l < Wa.heap.size := (Array.getElem?_eq_some_iff.1 hla).1
      refine ⟨_, run_beginRound hla (by rw [hrec]), ?_⟩
      have hob : OnlyAt (fun k => T k ∨ k = D ∨ k = l) Wa (Wa.putObj l (.loop { rec .ready none with state := .busy })) := OnlyAt.putObj _ _ _ (.inr (.inr rfl))
      have hlb : (Wa.putObj l (.loop { rec .ready none with state := .busy })).heap[l]? = some (.loop { rec .ready none with state := .busy }) := World.putObj_heap_same hlWa
      have hkb : (Wa.putObj l (.loop { rec .ready none with state := .busy })).heap[D]? = some (.deferred (some [])) := (World.putObj_heap_other hDl).trans hka
      have hlb' := (Array.getElem?_eq_some_iff.1 hlb).1
      have hkb' := (Array.getElem?_eq_some_iff.1 hkb).1
      -- a round's end: off the body's end, or by a jump
      have fin : ∀ (jump : Option Code) (W3 : World), KeepsAt (fun k => R k ∨ T k ∨ k = D ∨ k = l) (Wa.putObj l (.loop { rec .ready none with state := .busy })) W3 →
          ∃ W4, (Instr.endRound l jump).run P W3 = .ok (.bool jump.isNone) W4 ∧ OnlyAt (fun k => T k ∨ k = D ∨ k = l) W3 W4 ∧ W4.heap[l]? = some (.loop (rec (if jump.isNone then .ready else .done) jump)) ∧ W4.heap[D]? = some (.deferred (some [])) ∧
            (∀ k, T k → k < W4.heap.size) ∧ KeepsAt (fun k => R k ∨ T k) W W4 := by
        intro jump W3 hk3
        have hl3 : W3.heap[l]? = some (.loop { rec .ready none with state := .busy }) := (hk3.block _ hlb' (.inr (.inr (.inr rfl)))).trans hlb
        have hd3 : W3.heap[D]? = some (.deferred (some [])) := (hk3.block _ hkb' (.inr (.inr (.inl rfl)))).trans hkb
        have hl3' := (Array.getElem?_eq_some_iff.1 hl3).1
        have hr := run_endRound (P := P) jump hl3
        rw [hrec] at hr
        have hoe : OnlyAt (fun k => T k ∨ k = D ∨ k = l) W3 (W3.putObj l (.loop (rec (if jump.isNone then .ready else .done) jump))) := OnlyAt.putObj _ _ _ (.inr (.inr rfl))
        refine ⟨_, hr, ?_⟩
        rw [hrec] at hoe
        have hsz := Nat.le_trans hoa.size (Nat.le_trans hob.size (Nat.le_trans hk3.size hoe.size))
        refine ⟨hoe, ?_, (World.putObj_heap_other hDl).trans hd3, fun k hk => Nat.lt_of_lt_of_le (hlt k hk) hsz, hsz, fun k hk hrt => ?_⟩
        · rw [hrec]; exact World.putObj_heap_same hl3'
        · have hkl : k ≠ l := by
            rintro rfl
            rcases hrt with h | h
            · have := hR _ h; omega
            · exact hnl h
          refine (World.putObj_heap_other hkl).trans ((hk3.block k ?_ ?_).trans ((World.putObj_heap_other hkl).trans (hoa.block k hk id)))
          · exact Nat.lt_of_lt_of_le hk (Nat.le_trans hoa.size hob.size)
          · rcases hrt with h | h
            · exact .inl h
            · exact .inr (.inl h)
      refine wpIn_mono (hbody l _ pre x a' _ hadm ((hAx pre x a').same (s := ()) hax hob) (fun k hk => Nat.lt_of_lt_of_le (hTW k hk) (Nat.le_trans hoa.size hob.size))) ?_
      rintro e a3 W3 hp
      cases e with
      | normal =>
        obtain ⟨hi3, hk3⟩ := hp
        obtain ⟨W4, hr, hoe, hl4, hd4, hlt4, hk4⟩ := fin none W3 hk3
        exact ⟨_, _, hr, .inl ⟨rfl, hI.same hi3 hoe, ⟨hl4, hd4⟩, ⟨hnl, hnd⟩, hlt4⟩, hk4⟩
      | ret =>
        obtain ⟨hi3, hk3⟩ := hp
        obtain ⟨W4, hr, hoe, hl4, hd4, hlt4, hk4⟩ := fin (some .ret) W3 hk3
        exact ⟨_, _, hr, .inr ⟨rfl, .ret, (hIx _).same hi3 hoe, ⟨hl4, hd4⟩, ⟨hnl, hnd⟩, hlt4⟩, hk4⟩
      | exit id =>
        obtain ⟨hi3, hk3⟩ := hp
        obtain ⟨W4, hr, hoe, hl4, hd4, hlt4, hk4⟩ := fin (some (.exit id)) W3 hk3
        exact ⟨_, _, hr, .inr ⟨rfl, .exit id, (hIx _).same hi3 hoe, ⟨hl4, hd4⟩, ⟨hnl, hnd⟩, hlt4⟩, hk4⟩
      | goto t =>
        obtain ⟨hi3, hk3⟩ := hp
        obtain ⟨W4, hr, hoe, hl4, hd4, hlt4, hk4⟩ := fin (some (.goto t)) W3 hk3
        exact ⟨_, _, hr, .inr ⟨rfl, .goto t, (hIx _).same hi3 hoe, ⟨hl4, hd4⟩, ⟨hnl, hnd⟩, hlt4⟩, hk4⟩
      | panic ch => exact hp.elim
      | outgrown => exact hp.elim
    · refine ⟨hI _ _ [] w W1 h0 ho1 ?_, ⟨hL1, hK1⟩, ⟨id, id⟩, fun _ h => h.elim⟩
      rintro k (h | rfl | rfl)
      · exact h.elim
      · right; omega
      · right; omega
    · -- behind the iterator
      rintro e W2 ⟨⟨v, rfl⟩, T, xs, ⟨hS, hi, ⟨hl', hk'⟩, -, -⟩ | ⟨c, hi, ⟨hl', hk'⟩, -, -⟩⟩
      · refine ⟨none, _, by have := run_endLoop (P := P) hl' (by rw [hrec]; simp); rw [hrec] at this; exact this, ?_⟩
        exact hdone D _ _ _ (by omega) (.inr (.inl rfl)) hS (hI.same hi (OnlyAt.putObj _ _ _ (.inr (.inr rfl)))) ((World.putObj_heap_other hDl).trans hk')
      · refine ⟨some c, _, by have := run_endLoop (P := P) hl' (by rw [hrec]; simp); rw [hrec] at this; exact this, ?_⟩
        exact hstop D _ c _ _ (by omega) (.inr (.inl rfl)) ((hIx c).same hi (OnlyAt.putObj _ _ _ (.inr (.inr rfl)))) ((World.putObj_heap_other hDl).trans hk')
end
section
open Go Go.Lib

/-! ### Lines -/
def linesL : List UInt8 → List (List UInt8)
  | [] => []
  | b :: r => if b = 10 then [] :: linesL r else match linesL r with
    | [] => [[b]]
    | h :: t => (b :: h) :: t
theorem linesL_cons (b : UInt8) (r : List UInt8) : linesL (b :: r) = if b = 10 then [] :: linesL r else match linesL r with
    | [] => [[b]]
    | h :: t => (b :: h) :: t := rfl
/-- A line ahead of its end. -/
theorem linesL_app : ∀ (a r : List UInt8), (10 : UInt8) ∉ a → linesL (a ++ 10 :: r) = a :: linesL r
  | [], r, _ => by simp [linesL]
  | b :: a, r, h => by
    have hb : b ≠ 10 := fun e => h (by rw [e]; exact List.mem_cons_self ..)
    have ih := linesL_app a r fun e => h (List.mem_cons_of_mem _ e)
    show linesL (b :: (a ++ 10 :: r)) = _
    rw [linesL_cons, if_neg hb, ih]
theorem linesL_one : ∀ (a : List UInt8), a ≠ [] → (10 : UInt8) ∉ a → linesL a = [a]
  | [], h, _ => absurd rfl h
  | [b], _, h => by
    have hb : b ≠ 10 := fun e => h (by rw [e]; exact List.mem_cons_self ..)
    rw [linesL_cons, if_neg hb]; rfl
  | b :: c :: a, _, h => by
    have hb : b ≠ 10 := fun e => h (by rw [e]; exact List.mem_cons_self ..)
    have ih := linesL_one (c :: a) (by simp) fun e => h (List.mem_cons_of_mem _ e)
    rw [linesL_cons, if_neg hb, ih]
theorem linesL_flat : ∀ (ls : List (List UInt8)), (∀ l ∈ ls, (10 : UInt8) ∉ l) → linesL ((ls.map fun l => l ++ [10]).flatten) = ls
  | [], _ => rfl
  | l :: ls, h => by
    have ih := linesL_flat ls fun x hx => h x (List.mem_cons_of_mem _ hx)
    rw [List.map_cons, List.flatten_cons, List.append_assoc]
    show linesL (l ++ 10 :: (ls.map fun l => l ++ [10]).flatten) = _
    rw [linesL_app _ _ (h l (List.mem_cons_self ..)), ih]
theorem linesL_mem : ∀ (s l : List UInt8), l ∈ linesL s → (10 : UInt8) ∉ l
  | [], l, h => by simp [linesL] at h
  | b :: r, l, h => by
    rw [linesL_cons] at h
    by_cases hb : b = 10
    · rw [if_pos hb] at h
      rcases List.mem_cons.1 h with rfl | h
      · simp
      · exact linesL_mem r l h
    · rw [if_neg hb] at h
      split at h
      · rw [List.mem_singleton] at h
        subst h
        rw [List.mem_singleton]
        exact fun e => hb e.symm
      · rename_i x t he
        rcases List.mem_cons.1 h with rfl | h
        · intro hm
          rcases List.mem_cons.1 hm with e | e
          · exact hb e.symm
          · exact linesL_mem r x (by rw [he]; exact List.mem_cons_self ..) e
        · exact linesL_mem r l (by rw [he]; exact List.mem_cons_of_mem _ h)
/-- All lines' bytes are the text's. -/
theorem linesL_sum : ∀ (s : List UInt8), ((linesL s).map List.length).sum ≤ s.length
  | [] => Nat.le_refl _
  | b :: r => by
    have ih := linesL_sum r
    rw [linesL_cons]
    by_cases hb : b = 10
    · rw [if_pos hb, List.map_cons, List.sum_cons, List.length_cons]; simp; omega
    · rw [if_neg hb]
      cases he : linesL r with
      | nil => simp
      | cons x t =>
        rw [he, List.map_cons, List.sum_cons] at ih
        rw [List.map_cons, List.sum_cons, List.length_cons, List.length_cons]
        omega

/-! ### What a line says, what a file says -/
def plainC (c : Int) : Bool := decide ((65 ≤ c ∧ c ≤ 90) ∨ (97 ≤ c ∧ c ≤ 122))
def usedP (ps : List (Int × Int)) (c : Int) : Bool := ps.any fun p => p.1 == c || p.2 == c
def caseW : List UInt8 := [67, 65, 83, 69, 32]
/-- Two codes that are a pair behind these pairs. -/
def okPair (ps : List (Int × Int)) (g s : Int) : Bool := !(g == s) && !plainC g && !plainC s && !usedP ps g && !usedP ps s
def pairL (ps : List (Int × Int)) (l : List UInt8) : Option (Int × Int) :=
  if l.take 5 = caseW then match codesB (l.drop 5) with
    | some [g, s] => if okPair ps g s = true then some (g, s) else none
    | _ => none
  else none
structure Af where
  rules : List Ru
  pairs : List (Int × Int)
deriving DecidableEq
def af0 : Af := ⟨[], []⟩
/-- What is read so far: rules, where they stand, pairs, the first line that is none. -/
structure Rd where
  rules : List Ru
  at_ : List Nat
  pairs : List (Int × Int)
  bad : Nat
deriving DecidableEq
def rd0 : Rd := ⟨[], [], [], 0⟩
def stepA (d : Rd) (n : Nat) (l : List UInt8) : Rd :=
  if l = [] ∨ l.head? = some 35 then d
  else match pairL d.pairs l with
    | some p => { d with pairs := d.pairs ++ [p] }
    | none => match parseR ⟨l.toArray⟩ with
      | some r => { d with rules := d.rules ++ [r], at_ := d.at_ ++ [n] }
      | none => { d with bad := if d.bad = 0 then n else d.bad }
def readA : Rd → Nat → List (List UInt8) → Rd
  | d, _, [] => d
  | d, n, l :: r => readA (stepA d n l) (n + 1) r
/-- A rule of the other end ahead has its flag. -/
def clash (seen : List Ru) (r : Ru) : Bool := seen.any fun q => q.flag == r.flag && !(q.pre == r.pre)
def flagA : List Ru → List Ru → List Nat → Nat
  | _, [], _ => 0
  | seen, r :: rs, at_ => if clash seen r = true then at_.headD 0 else flagA (seen ++ [r]) rs at_.tail
def endA (d : Rd) : Af × Nat × Int :=
  if 200 < d.rules.length ∨ 200 < d.pairs.length then (af0, 0, 3)
  else if 0 < d.bad then (af0, d.bad, 5)
  else if 0 < flagA [] d.rules d.at_ then (af0, flagA [] d.rules d.at_, 6)
  else (⟨d.rules, d.pairs⟩, 0, 0)
def parseA (s : ByteArray) : Af × Nat × Int :=
  if 65536 < s.size then (af0, 0, 3) else endA (readA rd0 1 (linesL s.data.toList))
def pairT (p : Int × Int) : List UInt8 := caseW ++ ptL [p.1, p.2]
def fileL (a : Af) : List UInt8 := ((a.rules.map fun r => (textR r).data.toList) ++ a.pairs.map pairT).flatMap fun l => l ++ [10]
def textA (a : Af) : ByteArray :=
  if (parseA ⟨(fileL a).toArray⟩).1 = a ∧ (parseA ⟨(fileL a).toArray⟩).2.2 = 0 then ⟨(fileL a).toArray⟩ else ⟨#[]⟩

/-! ### What is read -/
/-- Pairs, each right behind those ahead. -/
def PairsOk (ps : List (Int × Int)) : Prop := ∀ (a : List (Int × Int)) p b, ps = a ++ p :: b → okPair a p.1 p.2 = true ∧ Pt p.1 ∧ Pt p.2 ∧ p.1 ≠ 10 ∧ p.2 ≠ 10
theorem PairsOk.nil : PairsOk [] := fun a p b h => by simp at h
theorem PairsOk.snoc {ps : List (Int × Int)} {p : Int × Int} (h : PairsOk ps) (hp : okPair ps p.1 p.2 = true ∧ Pt p.1 ∧ Pt p.2 ∧ p.1 ≠ 10 ∧ p.2 ≠ 10) : PairsOk (ps ++ [p]) := by
  intro a q b e
  rcases List.append_eq_append_iff.1 e with ⟨c, e1, e2⟩ | ⟨c, e1, e2⟩
  · cases c with
    | nil =>
      rw [List.append_nil] at e1
      rw [List.nil_append] at e2
      obtain ⟨e3, -⟩ := List.cons.inj e2
      rw [e1, ← e3]; exact hp
    | cons x c =>
      rw [List.cons_append] at e2
      have := (List.cons.inj e2).2
      simp at this
  · cases c with
    | nil =>
      rw [List.nil_append] at e2
      obtain ⟨e3, -⟩ := List.cons.inj e2
      rw [List.append_nil] at e1
      rw [← e1, e3]; exact hp
    | cons x c =>
      rw [List.cons_append] at e2
      obtain ⟨e3, e4⟩ := List.cons.inj e2
      rw [← e3] at e1
      exact h a q c e1
/-- A rule that a line says. -/
def FromLine (r : Ru) (k : Nat) : Prop := ∃ l : List UInt8, (10 : UInt8) ∉ l ∧ l.length ≤ k ∧ parseR ⟨l.toArray⟩ = some r
/-- What holds of what is read: behind m bytes of lines. -/
structure RdOk (d : Rd) (k m : Nat) : Prop where
  rules : ∀ r ∈ d.rules, FromLine r k
  pairs : PairsOk d.pairs
  len : d.at_.length = d.rules.length
  pos : ∀ n ∈ d.at_, 0 < n
  sum : (d.rules.map fun r => (textC r.cond).length).sum ≤ m
theorem RdOk.start (k : Nat) : RdOk rd0 k 0 := ⟨fun r h => by simp [rd0] at h, PairsOk.nil, rfl, fun n h => by simp [rd0] at h, Nat.le_refl _⟩
theorem pairL_says {ps : List (Int × Int)} {l : List UInt8} {p : Int × Int} (h : pairL ps l = some p) (h10 : (10 : UInt8) ∉ l) : okPair ps p.1 p.2 = true ∧ Pt p.1 ∧ Pt p.2 ∧ p.1 ≠ 10 ∧ p.2 ≠ 10 := by
  unfold pairL at h
  split at h
  · split at h
    · rename_i g s hc
      split at h
      · rename_i hok
        obtain rfl := Option.some.inj h
        obtain ⟨hp, -⟩ := codesB_says hc
        have he := encL_codesB hc
        have hn : ∀ c ∈ [g, s], c ≠ 10 := fun c hcm e => h10 (List.mem_of_mem_drop (i := 5) (by
          rw [← he]
          exact (encL_mem hp (b := 10) (by decide)).2 (by rw [show ((10 : UInt8).toNat : Int) = 10 from rfl, ← e]; exact hcm)))
        exact ⟨hok, hp g (by simp), hp s (by simp), hn g (by simp), hn s (by simp)⟩
      · cases h
    · cases h
  · cases h
theorem parseR_textC {s : ByteArray} {r : Ru} (h : parseR s = some r) (hs : s.size ≤ 1200) : (textC r.cond).length ≤ s.size := (parseR_back h hs).2.2.2.2.2.2
theorem RdOk.step {d : Rd} {k m n : Nat} {l : List UInt8} (h : RdOk d k m) (hk : l.length ≤ k) (hk2 : k ≤ 1200) (h10 : (10 : UInt8) ∉ l) (hn : 0 < n) : RdOk (stepA d n l) k (m + l.length) := by
  obtain ⟨h1, h2, h3, h4, h5⟩ := h
  unfold stepA
  split
  · exact ⟨h1, h2, h3, h4, by omega⟩
  · split
    · rename_i p hp
      exact ⟨h1, h2.snoc (pairL_says hp h10), h3, h4, Nat.le_trans h5 (Nat.le_add_right _ _)⟩
    · split
      · rename_i r hr
        have hsz : (⟨l.toArray⟩ : ByteArray).size = l.length := by show l.toArray.size = _; rw [List.size_toArray]
        refine ⟨fun q hq => ?_, h2, by simp [h3], fun q hq => ?_, ?_⟩
        · rcases List.mem_append.1 hq with hq | hq
          · exact h1 q hq
          · rw [List.mem_singleton] at hq
            subst hq
            exact ⟨l, h10, hk, hr⟩
        · rcases List.mem_append.1 hq with hq | hq
          · exact h4 q hq
          · rw [List.mem_singleton] at hq
            subst hq
            exact hn
        · have := parseR_textC hr (by omega)
          rw [List.map_append, List.sum_append]
          simp
          omega
      · exact ⟨h1, h2, h3, h4, Nat.le_trans h5 (Nat.le_add_right _ _)⟩
theorem RdOk.read {k : Nat} (hk2 : k ≤ 1200) : ∀ (ls : List (List UInt8)) (d : Rd) (m n : Nat), RdOk d k m → 0 < n → (∀ l ∈ ls, (10 : UInt8) ∉ l ∧ l.length ≤ k) → RdOk (readA d n ls) k (m + (ls.map List.length).sum)
  | [], d, m, n, h, _, _ => by simpa [readA] using h
  | l :: ls, d, m, n, h, hn, hl => by
    have h1 := hl l (List.mem_cons_self ..)
    have := RdOk.read hk2 ls (stepA d n l) (m + l.length) (n + 1) (h.step h1.2 hk2 h1.1 hn) (Nat.succ_pos _) fun x hx => hl x (List.mem_cons_of_mem _ hx)
    rw [List.map_cons, List.sum_cons, ← Nat.add_assoc]
    exact this

/-! ### What is read has a text that is read as that -/
theorem rule_line {r : Ru} {k : Nat} (h : FromLine r k) (hk : k ≤ 1200) : parseR (textR r) = some r ∧ (10 : UInt8) ∉ (textR r).data.toList ∧ (textR r).data.toList ≠ [] ∧ (textR r).data.toList.head? ≠ some 35 ∧ (∀ ps, pairL ps (textR r).data.toList = none) ∧ (textR r).data.toList.length ≤ 51 + 4 * (textC r.cond).length := by
  obtain ⟨l, h10, hlk, hp⟩ := h
  have hsz : (⟨l.toArray⟩ : ByteArray).size ≤ 1200 := by show l.toArray.size ≤ _; rw [List.size_toArray]; omega
  obtain ⟨b1, b2, b3, b4, b5, b6, b7⟩ := parseR_back hp hsz
  obtain ⟨t1, t2⟩ := textR_back hp hsz
  have hL : (textR r).data.toList = lineL r (textS r.cond).data.toList := by rw [t1]
  have hhead : ∃ b t, lineL r (textS r.cond).data.toList = b :: t ∧ (b = 80 ∨ b = 83) := by
    unfold lineL
    cases r.pre
    · exact ⟨83, _, rfl, .inr rfl⟩
    · exact ⟨80, _, rfl, .inl rfl⟩
  obtain ⟨b, t, hbt, hb⟩ := hhead
  refine ⟨t2, ?_, by rw [hL, hbt]; simp, ?_, ?_, ?_⟩
  · rw [hL]
    have hw := hp
    unfold parseR at hw
    have hll : (⟨l.toArray⟩ : ByteArray).data.toList = l := by simp
    rw [hll] at hw
    split at hw
    · rename_i a f c x y z hws
      have hmem : ∀ w ∈ [a, f, c, x, y, z], (10 : UInt8) ∉ w := fun w hm he => by
        have key : ∀ (s w : List UInt8), w ∈ wordsL s → ∀ u ∈ w, u ∈ s := by
          intro s
          induction s with
          | nil => intro w hw u hu; simp [wordsL] at hw; subst hw; cases hu
          | cons c s ih =>
            intro w hw u hu
            rw [wordsL_cons] at hw
            by_cases hc : c = 32
            · rw [if_pos hc] at hw
              rcases List.mem_cons.1 hw with rfl | hw
              · cases hu
              · exact List.mem_cons_of_mem _ (ih w hw u hu)
            · rw [if_neg hc] at hw
              split at hw
              · rename_i e; exact absurd e (wordsL_ne s)
              · rename_i h0 t0 e
                rcases List.mem_cons.1 hw with rfl | hw
                · rcases List.mem_cons.1 hu with rfl | hu
                  · exact List.mem_cons_self ..
                  · exact List.mem_cons_of_mem _ (ih h0 (by rw [e]; exact List.mem_cons_self ..) u hu)
                · exact List.mem_cons_of_mem _ (ih w (by rw [e]; exact List.mem_cons_of_mem _ hw) u hu)
        exact h10 (key l w (by rw [hws]; exact hm) 10 he)
      unfold parse6 at hw
      split at hw
      · rename_i hc
        split at hw
        · rename_i u v it hx hy hz
          obtain rfl := Option.some.inj hw
          obtain ⟨hf1, hf2, hf3, hf4⟩ := flagL_says hc.2.1
          have hpart : ∀ (w : List UInt8) (q : ByteArray), partL w = some q → (10 : UInt8) ∉ w → (10 : UInt8) ∉ or0L q := by
            intro w q hq hw10
            unfold partL at hq
            split at hq
            · obtain rfl := Option.some.inj hq; decide
            · split at hq
              · rename_i hc2
                obtain rfl := Option.some.inj hq
                unfold or0L
                rw [if_neg (by simpa using hc2.1)]
                simpa using hw10
              · cases hq
          have hnx := hpart x u hx (hmem x (by simp))
          have hny := hpart y v hy (hmem y (by simp))
          have hnt : (10 : UInt8) ∉ (textS it).data.toList := by
            unfold parseS at hz
            split at hz
            · cases hz
            · rename_i cs hcs
              have hpt := (codesB_says hcs).1
              have he := encL_codesB hcs
              have hz10 : (10 : Int) ∉ cs := fun hm => hmem z (by simp) (by
                have := (encL_mem hpt (b := 10) (by decide)).2 hm
                rw [he] at this
                simpa using this)
              have hall := (parseC_says hz).1
              intro hm
              have hpc : ∀ c ∈ textC it, Pt c := textC_mem b4.pts rfl rfl rfl rfl
              have h1 := (encL_mem hpc (b := 10) (by decide)).1 hm
              exact textC_mem (P := fun c => c ≠ 10) (fun i hi c hc e => hz10 (e ▸ (hall i hi).2.1 c hc)) (by decide) (by decide) (by decide) (by decide) _ h1 rfl
          have hpre : (10 : UInt8) ∉ (if decide (a = pfx) = true then pfx else sfx) := by split <;> decide
          have hcr : (10 : UInt8) ∉ (if decide (c = [89]) = true then [89] else [78] : List UInt8) := by split <;> decide
          have hfl : (10 : UInt8) ∉ [UInt8.ofNat (flagL f).toNat] := by rw [← hf1]; exact hmem f (by simp)
          unfold lineL
          dsimp only
          simp only [List.mem_append, List.mem_cons, not_or]
          exact ⟨hpre, by decide, by simpa using hfl, by decide, hcr, by decide, hnx, by decide, hny, by decide, hnt⟩
        · cases hw
      · cases hw
    · cases hw
  · rw [hL, hbt, List.head?_cons]
    intro e
    have := Option.some.inj e
    rcases hb with rfl | rfl <;> cases this
  · intro ps
    rw [hL, hbt]
    unfold pairL
    rw [if_neg]
    intro e
    have h1 : (b :: t).take 5 = b :: t.take 4 := rfl
    rw [h1] at e
    have := (List.cons.inj (e.trans (show caseW = 67 :: [65, 83, 69, 32] from rfl))).1
    rcases hb with rfl | rfl <;> cases this
  · rw [hL]
    have hs := (parseS_text b4).2
    rw [Lib.size_eq] at hs
    have ho : ∀ q : ByteArray, q.size ≤ 20 → (or0L q).length ≤ 20 := fun q hq => by
      have hq2 := hq; rw [Lib.size_eq] at hq2; unfold or0L; split <;> simp <;> omega
    have h1 := ho _ b5
    have h2 := ho _ b6
    unfold lineL
    have h3 : (if r.pre = true then pfx else sfx).length = 3 := by split <;> rfl
    have h4 : (if r.cross = true then [89] else [78] : List UInt8).length = 1 := by split <;> rfl
    simp only [List.length_append, List.length_cons, List.length_nil, h3, h4]
    omega
theorem stepA_rule {d : Rd} {n k : Nat} {r : Ru} (h : FromLine r k) (hk : k ≤ 1200) : stepA d n (textR r).data.toList = { d with rules := d.rules ++ [r], at_ := d.at_ ++ [n] } := by
  obtain ⟨h1, h2, h3, h4, h5, _⟩ := rule_line h hk
  unfold stepA
  rw [if_neg (by rintro (e | e); exact h3 e; exact h4 e), h5]
  dsimp only
  rw [show (⟨(textR r).data.toList.toArray⟩ : ByteArray) = textR r by simp, h1]
theorem stepA_pair {d : Rd} {n : Nat} {p : Int × Int} (h : okPair d.pairs p.1 p.2 = true ∧ Pt p.1 ∧ Pt p.2 ∧ p.1 ≠ 10 ∧ p.2 ≠ 10) : stepA d n (pairT p) = { d with pairs := d.pairs ++ [p] } := by
  have hpt : ∀ c ∈ [p.1, p.2], Pt c := fun c hc => by
    simp only [List.mem_cons, List.not_mem_nil, or_false] at hc
    rcases hc with rfl | rfl
    · exact h.2.1
    · exact h.2.2.1
  have hd : (pairT p).drop 5 = ptL [p.1, p.2] := rfl
  have ht : (pairT p).take 5 = caseW := rfl
  have hpl : pairL d.pairs (pairT p) = some p := by
    unfold pairL
    rw [if_pos ht, hd, ptL_enc hpt, codesB_enc _ hpt]
    dsimp only
    rw [if_pos h.1]
  unfold stepA
  rw [if_neg (by rintro (e | e); exact absurd e (by unfold pairT caseW; simp); exact absurd e (by unfold pairT caseW; simp)), hpl]
theorem readA_rules {k : Nat} (hk : k ≤ 1200) : ∀ (rs : List Ru) (d : Rd) (n : Nat) (ls : List (List UInt8)), (∀ r ∈ rs, FromLine r k) → ∃ at_, at_.length = rs.length ∧ readA d n ((rs.map fun r => (textR r).data.toList) ++ ls) = readA { d with rules := d.rules ++ rs, at_ := d.at_ ++ at_ } (n + rs.length) ls
  | [], d, n, ls, _ => ⟨[], rfl, by simp⟩
  | r :: rs, d, n, ls, h => by
    obtain ⟨at_, h1, h2⟩ := readA_rules hk rs { d with rules := d.rules ++ [r], at_ := d.at_ ++ [n] } (n + 1) ls fun x hx => h x (List.mem_cons_of_mem _ hx)
    refine ⟨n :: at_, by simp [h1], ?_⟩
    rw [List.map_cons, List.cons_append]
    show readA (stepA d n _) (n + 1) _ = _
    rw [stepA_rule (h r (List.mem_cons_self ..)) hk, h2]
    simp only [List.append_assoc, List.cons_append, List.nil_append, List.length_cons]
    rw [show n + 1 + rs.length = n + (rs.length + 1) by omega]
theorem readA_pairs : ∀ (ps : List (Int × Int)) (d : Rd) (n : Nat), PairsOk (d.pairs ++ ps) → readA d n (ps.map pairT) = { d with pairs := d.pairs ++ ps }
  | [], d, n, _ => by simp [readA]
  | p :: ps, d, n, h => by
    have h1 := h d.pairs p ps rfl
    have ih := readA_pairs ps { d with pairs := d.pairs ++ [p] } (n + 1) (by simpa using h)
    rw [List.map_cons]
    show readA (stepA d n _) (n + 1) _ = _
    rw [stepA_pair h1, ih]
    simp
theorem pairT_none {p : Int × Int} (h1 : Pt p.1) (h2 : Pt p.2) (h3 : p.1 ≠ 10) (h4 : p.2 ≠ 10) : (10 : UInt8) ∉ pairT p ∧ (pairT p).length ≤ 13 := by
  have hpt : ∀ c ∈ [p.1, p.2], Pt c := fun c hc => by
    simp only [List.mem_cons, List.not_mem_nil, or_false] at hc
    rcases hc with rfl | rfl
    · exact h1
    · exact h2
  unfold pairT
  rw [ptL_enc hpt]
  constructor
  · rw [List.mem_append, not_or]
    refine ⟨by decide, fun hm => ?_⟩
    have := (encL_mem hpt (b := 10) (by decide)).1 hm
    simp only [List.mem_cons, List.not_mem_nil, or_false] at this
    rcases this with e | e
    · exact h3 e.symm
    · exact h4 e.symm
  · have := encL_len [p.1, p.2]
    rw [List.length_append]
    simp [caseW] at this ⊢
    omega
theorem flagA_any : ∀ (rs seen : List Ru) (a b : List Nat), a.length = rs.length → (∀ n ∈ a, 0 < n) → flagA seen rs a = 0 → flagA seen rs b = 0
  | [], _, _, _, _, _, _ => rfl
  | r :: rs, seen, a, b, hl, hp, h => by
    match a, hl with
    | n :: a, hl =>
      unfold flagA at h ⊢
      by_cases hc : clash seen r = true
      · rw [if_pos hc] at h
        have := hp n (List.mem_cons_self ..)
        simp at h
        omega
      · rw [if_neg hc] at h ⊢
        exact flagA_any rs _ a b.tail (by simpa using hl) (fun x hx => hp x (List.mem_cons_of_mem _ hx)) h
theorem sum_lines : ∀ (ls : List (List UInt8)), (ls.flatMap fun l => l ++ [10]).length = (ls.map List.length).sum + ls.length
  | [] => rfl
  | l :: ls => by
    have ih := sum_lines ls
    rw [List.flatMap_cons, List.length_append, ih, List.map_cons, List.sum_cons, List.length_cons]
    simp
    omega
theorem sum_rules {k : Nat} (hk : k ≤ 1200) : ∀ (rs : List Ru), (∀ r ∈ rs, FromLine r k) → ((rs.map fun r => (textR r).data.toList).map List.length).sum ≤ 51 * rs.length + 4 * (rs.map fun r => (textC r.cond).length).sum
  | [], _ => Nat.le_refl _
  | r :: rs, h => by
    have ih := sum_rules hk rs fun x hx => h x (List.mem_cons_of_mem _ hx)
    have h1 := (rule_line (h r (List.mem_cons_self ..)) hk).2.2.2.2.2
    simp only [List.map_cons, List.sum_cons, List.length_cons] at ih ⊢
    omega
theorem sum_pairs : ∀ (ps : List (Int × Int)), (∀ p ∈ ps, (pairT p).length ≤ 13) → ((ps.map pairT).map List.length).sum ≤ 13 * ps.length
  | [], _ => Nat.le_refl _
  | p :: ps, h => by
    have ih := sum_pairs ps fun x hx => h x (List.mem_cons_of_mem _ hx)
    have h1 := h p (List.mem_cons_self ..)
    simp only [List.map_cons, List.sum_cons, List.length_cons] at ih ⊢
    omega
theorem mem_sum : ∀ (ls : List (List UInt8)) l, l ∈ ls → l.length ≤ (ls.map List.length).sum
  | [], l, h => by cases h
  | x :: ls, l, h => by
    rw [List.map_cons, List.sum_cons]
    rcases List.mem_cons.1 h with rfl | h
    · omega
    · have := mem_sum ls l h; omega
/-- What is read has a text that is read as that. -/
theorem textA_back {s : ByteArray} {a : Af} {n : Nat} (h : parseA s = (a, n, 0)) (hs : s.size ≤ 1200) : n = 0 ∧ textA a = ⟨(fileL a).toArray⟩ ∧ parseA (textA a) = (a, 0, 0) := by
  have hsl : s.data.toList.length = s.size := (Lib.size_eq s).symm
  unfold parseA at h
  rw [if_neg (by omega)] at h
  have hlen : ∀ l ∈ linesL s.data.toList, (10 : UInt8) ∉ l ∧ l.length ≤ 1200 := fun l hl => ⟨linesL_mem _ l hl, by
    have h1 := linesL_sum s.data.toList
    have h2 : l.length ≤ ((linesL s.data.toList).map List.length).sum := mem_sum _ l hl
    omega⟩
  have hok := RdOk.read (k := 1200) (Nat.le_refl _) (linesL s.data.toList) rd0 0 1 (RdOk.start _) (by decide) hlen
  have hsum := linesL_sum s.data.toList
  obtain ⟨d, hd⟩ : ∃ d, d = readA rd0 1 (linesL s.data.toList) := ⟨_, rfl⟩
  rw [← hd] at h hok
  unfold endA at h
  split at h
  · simp at h
  · rename_i hc
    split at h
    · simp at h
    · split at h
      · simp at h
      · rename_i hb hf
        simp only [Prod.mk.injEq, and_true] at h
        obtain ⟨rfl, rfl⟩ := h
        obtain ⟨k1, k2, k3, k4, k5⟩ := hok
        have hfl : flagA [] d.rules d.at_ = 0 := by omega
        have hpp : ∀ p ∈ d.pairs, (10 : UInt8) ∉ pairT p ∧ (pairT p).length ≤ 13 := fun p hp => by
          obtain ⟨x, y, e⟩ := List.append_of_mem hp
          obtain ⟨_, p1, p2, p3, p4⟩ := k2 x p y e
          exact pairT_none p1 p2 p3 p4
        have hl10 : ∀ l ∈ (d.rules.map fun r => (textR r).data.toList) ++ d.pairs.map pairT, (10 : UInt8) ∉ l := fun l hl => by
          rcases List.mem_append.1 hl with hl | hl
          · obtain ⟨r, hr, rfl⟩ := List.mem_map.1 hl
            exact (rule_line (k1 r hr) (Nat.le_refl _)).2.1
          · obtain ⟨p, hp, rfl⟩ := List.mem_map.1 hl
            exact (hpp p hp).1
        have hfz : (fileL ⟨d.rules, d.pairs⟩).length ≤ 65536 := by
          unfold fileL
          rw [sum_lines, List.map_append, List.sum_append, List.length_append, List.length_map, List.length_map]
          have q1 := sum_rules (Nat.le_refl 1200) d.rules k1
          have q2 := sum_pairs d.pairs fun p hp => (hpp p hp).2
          dsimp only
          omega
        have hlines : linesL (fileL ⟨d.rules, d.pairs⟩) = (d.rules.map fun r => (textR r).data.toList) ++ d.pairs.map pairT := by
          unfold fileL
          rw [List.flatMap_def]
          exact linesL_flat _ hl10
        have hpa : parseA ⟨(fileL ⟨d.rules, d.pairs⟩).toArray⟩ = (⟨d.rules, d.pairs⟩, 0, 0) := by
          unfold parseA
          rw [if_neg (by show ¬ 65536 < (fileL _).toArray.size; rw [List.size_toArray]; omega)]
          have hl2 : (⟨(fileL ⟨d.rules, d.pairs⟩).toArray⟩ : ByteArray).data.toList = fileL ⟨d.rules, d.pairs⟩ := by simp
          rw [hl2, hlines]
          obtain ⟨at_, e1, e2⟩ := readA_rules (Nat.le_refl 1200) d.rules rd0 1 (d.pairs.map pairT) k1
          rw [e2, readA_pairs _ _ _ (by simpa [rd0] using k2)]
          unfold endA
          simp only [rd0, List.nil_append]
          have hf0 : flagA [] d.rules at_ = 0 := flagA_any d.rules [] d.at_ at_ k3 k4 hfl
          refine (if_neg hc).trans ?_
          refine (if_neg (by omega)).trans ?_
          exact if_neg (by rw [hf0]; omega)
        have ht : textA ⟨d.rules, d.pairs⟩ = ⟨(fileL ⟨d.rules, d.pairs⟩).toArray⟩ := by
          unfold textA
          rw [hpa]
          exact if_pos ⟨rfl, rfl⟩
        exact ⟨rfl, ht, by rw [ht]; exact hpa⟩
end
section
open Go Go.Lib

structure En where
  word : ByteArray
  flags : List Int
deriving DecidableEq
def isLet (b : UInt8) : Bool := decide ((97 ≤ b.toNat ∧ b.toNat ≤ 122) ∨ (65 ≤ b.toNat ∧ b.toNat ≤ 90))
/-- Letters, none twice. -/
def flagsL : List Int → List UInt8 → Option (List Int)
  | acc, [] => some acc
  | acc, b :: r => if isLet b = true ∧ (b.toNat : Int) ∉ acc then flagsL (acc ++ [(b.toNat : Int)]) r else none
def wordOk (w : List UInt8) : Bool := decide (w ≠ []) && w.all (fun b => decide (33 ≤ b.toNat ∧ b ≠ 47 ∧ b ≠ 35)) && validD w
def flagsO (l : List UInt8) : Option (List Int) := match l with
  | [] => some []
  | _ :: fs => if fs = [] then none else flagsL [] fs
/-- What a line says. -/
def entryL (l : List UInt8) : Option En :=
  if wordOk (l.takeWhile (· ≠ 47)) = true then (flagsO (l.dropWhile (· ≠ 47))).map fun f => ⟨⟨(l.takeWhile (· ≠ 47)).toArray⟩, f⟩ else none
/-- It may not be there. -/
def noneL (l : List UInt8) : Bool := decide (l ≠ []) && !decide (l.head? = some 35) && (entryL l).isNone
def badE : Nat → List (List UInt8) → Nat
  | _, [] => 0
  | n, l :: r => if noneL l = true then n else badE (n + 1) r
def esOf (ls : List (List UInt8)) : List En := ls.filterMap entryL
def endE (ls : List (List UInt8)) : List En × Nat × Int :=
  if 2000 < (esOf ls).length then ([], 0, 3) else if 0 < badE 1 ls then ([], badE 1 ls, 5) else (esOf ls, 0, 0)
def parseE (s : ByteArray) : List En × Nat × Int :=
  if 65536 < s.size then ([], 0, 3) else endE (linesL s.data.toList)
/-- An entry's line. -/
def lineE (e : En) : List UInt8 := e.word.data.toList ++ (if e.flags = [] then [] else 47 :: ptL e.flags)
def fileE (l : List En) : List UInt8 := l.flatMap fun e => lineE e ++ [10]
def textE (l : List En) : ByteArray :=
  if (parseE ⟨(fileE l).toArray⟩).1 = l ∧ (parseE ⟨(fileE l).toArray⟩).2.2 = 0 then ⟨(fileE l).toArray⟩ else ⟨#[]⟩

/-! ### Lines -/
theorem badE_app : ∀ (a b : List (List UInt8)) (n : Nat), 0 < n → badE n (a ++ b) = if badE n a = 0 then badE (n + a.length) b else badE n a
  | [], b, n, _ => by simp [badE]
  | l :: a, b, n, h => by
    have ih := badE_app a b (n + 1) (Nat.succ_pos _)
    show (if noneL l = true then n else badE (n + 1) (a ++ b)) = if (if noneL l = true then n else badE (n + 1) a) = 0 then badE (n + (a.length + 1)) b else (if noneL l = true then n else badE (n + 1) a)
    by_cases hl : noneL l = true
    · rw [if_pos hl, if_neg (by rw [if_pos hl]; omega), if_pos hl]
    · rw [if_neg hl, if_neg hl, ih, show n + 1 + a.length = n + (a.length + 1) by omega]
theorem badE_zero : ∀ (a : List (List UInt8)) (n : Nat), 0 < n → (badE n a = 0 ↔ ∀ l ∈ a, noneL l = false)
  | [], n, _ => by simp [badE]
  | l :: a, n, h => by
    have ih := badE_zero a (n + 1) (Nat.succ_pos _)
    show (if noneL l = true then n else badE (n + 1) a) = 0 ↔ _
    by_cases hl : noneL l = true
    · rw [if_pos hl]
      constructor
      · intro e; omega
      · intro e
        have := e l (List.mem_cons_self ..)
        rw [hl] at this; cases this
    · rw [if_neg hl, ih]
      constructor
      · intro e x hx
        rcases List.mem_cons.1 hx with rfl | hx
        · simpa using hl
        · exact e x hx
      · exact fun e x hx => e x (List.mem_cons_of_mem _ hx)
theorem badE_le : ∀ (a : List (List UInt8)) (n : Nat), badE n a = 0 ∨ (n ≤ badE n a ∧ badE n a < n + a.length)
  | [], n => by simp [badE]
  | l :: a, n => by
    have ih := badE_le a (n + 1)
    show (if noneL l = true then n else badE (n + 1) a) = 0 ∨ (n ≤ (if noneL l = true then n else badE (n + 1) a) ∧ (if noneL l = true then n else badE (n + 1) a) < n + (a.length + 1))
    by_cases hl : noneL l = true
    · rw [if_pos hl]; right; omega
    · rw [if_neg hl]; omega
theorem esOf_app (a b : List (List UInt8)) : esOf (a ++ b) = esOf a ++ esOf b := by simp [esOf]
theorem esOf_take {ls : List (List UInt8)} {k : Nat} {l : List UInt8} (h : ls[k]? = some l) : esOf (ls.take (k + 1)) = esOf (ls.take k) ++ (match entryL l with | some e => [e] | none => []) := by
  obtain ⟨hlt, he⟩ := List.getElem?_eq_some_iff.1 h
  rw [List.take_succ_eq_append_getElem hlt, he, esOf_app]
  congr 1
  unfold esOf
  rw [List.filterMap_cons]
  cases entryL l <;> rfl
theorem badE_take {ls : List (List UInt8)} {k : Nat} {l : List UInt8} (h : ls[k]? = some l) : badE 1 (ls.take (k + 1)) = if badE 1 (ls.take k) = 0 then (if noneL l = true then k + 1 else 0) else badE 1 (ls.take k) := by
  obtain ⟨hk, he⟩ := List.getElem?_eq_some_iff.1 h
  rw [List.take_succ_eq_append_getElem hk, he, badE_app _ _ 1 (by decide), List.length_take, Nat.min_eq_left (by omega), show 1 + k = k + 1 by omega]
  rfl
theorem esOf_le (ls : List (List UInt8)) : (esOf ls).length ≤ ls.length := List.length_filterMap_le _ _
theorem esOf_pre (ls : List (List UInt8)) (k : Nat) : (esOf (ls.take k)).length ≤ (esOf ls).length := by
  conv => rhs; rw [← List.take_append_drop k ls, esOf_app, List.length_append]
  omega
theorem skip_entry {l : List UInt8} (h : l = [] ∨ l.head? = some 35) : entryL l = none := by
  unfold entryL
  rw [if_neg]
  rcases h with rfl | h
  · simp [wordOk]
  · match l, h with
    | b :: t, h =>
      obtain rfl : b = 35 := by simpa using h
      intro e
      rw [List.takeWhile_cons, if_pos (by decide)] at e
      unfold wordOk at e
      simp at e
theorem noneL_eq (l : List UInt8) : noneL l = true ↔ ¬ (l = [] ∨ l.head? = some 35) ∧ entryL l = none := by
  unfold noneL
  simp [and_assoc, not_or]

/-! ### What is read -/
theorem flagsL_says : ∀ (fs : List UInt8) (acc f : List Int), flagsL acc fs = some f → (∀ b ∈ fs, isLet b = true) ∧ f = acc ++ fs.map fun b => (b.toNat : Int)
  | [], acc, f, h => by simp [flagsL] at h; simp [h]
  | b :: r, acc, f, h => by
    unfold flagsL at h
    split at h
    · rename_i hc
      obtain ⟨h1, h2⟩ := flagsL_says r _ _ h
      refine ⟨fun x hx => ?_, by rw [h2]; simp⟩
      rcases List.mem_cons.1 hx with rfl | hx
      · exact hc.1
      · exact h1 x hx
    · cases h
theorem isLet_nat {b : UInt8} (h : isLet b = true) : 65 ≤ b.toNat ∧ b.toNat ≤ 122 := by
  unfold isLet at h
  have := of_decide_eq_true h
  omega
theorem ptB_asc {b : UInt8} (h : b.toNat < 128) : ptB (b.toNat : Int) = [b] := by
  have key : ∀ n : Fin 128, ptB ((UInt8.ofNat n.1).toNat : Int) = [UInt8.ofNat n.1] := by decide +kernel
  have := key ⟨b.toNat, h⟩
  simpa using this
theorem ptL_asc8 : ∀ (fs : List UInt8), (∀ b ∈ fs, b.toNat < 128) → ptL (fs.map fun b => (b.toNat : Int)) = fs
  | [], _ => rfl
  | b :: fs, h => by
    have ih := ptL_asc8 fs fun x hx => h x (List.mem_cons_of_mem _ hx)
    unfold ptL at ih ⊢
    rw [List.map_cons, List.flatMap_cons, ih, ptB_asc (h b (List.mem_cons_self ..))]
    rfl
/-- A line is its entry's line. -/
theorem entry_line {l : List UInt8} {e : En} (h : entryL l = some e) : lineE e = l ∧ l ≠ [] ∧ e.word.size ≤ l.length ∧ e.flags.length ≤ l.length ∧ (∀ f ∈ e.flags, 65 ≤ f ∧ f ≤ 122) ∧ wordOk e.word.data.toList = true := by
  unfold entryL at h
  split at h
  · rename_i hw
    cases hf : flagsO (l.dropWhile (· ≠ 47)) with
    | none => rw [hf] at h; cases h
    | some f =>
      rw [hf] at h
      obtain rfl := Option.some.inj h
      have hl : l.takeWhile (· ≠ 47) ++ l.dropWhile (· ≠ 47) = l := List.takeWhile_append_dropWhile
      have hne : l ≠ [] := by
        rintro rfl
        simp [wordOk] at hw
      have hlen : (l.takeWhile (· ≠ 47)).length + (l.dropWhile (· ≠ 47)).length = l.length := by rw [← List.length_append, hl]
      obtain ⟨w, hwd⟩ : ∃ w, w = l.takeWhile (· ≠ 47) := ⟨_, rfl⟩
      obtain ⟨d, hd⟩ : ∃ w, w = l.dropWhile (· ≠ 47) := ⟨_, rfl⟩
      have hhd : ∀ b t, d = b :: t → b = 47 := fun b t e => by
        have h1 := List.head?_dropWhile_not (p := fun x : UInt8 => decide (x ≠ 47)) l
        rw [← hd, e] at h1
        simpa using h1
      rw [← hwd] at hw hl hlen ⊢
      rw [← hd] at hf hl hlen
      have hsz : (⟨w.toArray⟩ : ByteArray).size = w.length := by show w.toArray.size = _; rw [List.size_toArray]
      match d, hf with
      | [], hf =>
        obtain rfl : [] = f := Option.some.inj hf
        refine ⟨by unfold lineE; simpa using hl, hne, by rw [hsz]; omega, Nat.zero_le _, by simp, by simpa using hw⟩
      | b :: fs, hf =>
        obtain rfl := hhd b fs rfl
        rw [show flagsO (47 :: fs) = if fs = [] then none else flagsL [] fs from rfl] at hf
        by_cases hn : fs = []
        · rw [if_pos hn] at hf; cases hf
        · rw [if_neg hn] at hf
          · obtain ⟨k1, k2⟩ := flagsL_says _ _ _ hf
            rw [List.nil_append] at k2
            have hfl : f.length = fs.length := by rw [k2, List.length_map]
            refine ⟨?_, hne, by rw [hsz]; omega, by dsimp only; rw [hfl]; simp at hlen; omega, ?_, by simpa using hw⟩
            · unfold lineE
              dsimp only
              rw [if_neg (by intro e; apply hn; rw [e] at hfl; exact List.eq_nil_of_length_eq_zero hfl.symm), k2, ptL_asc8 _ fun b hb => by have := isLet_nat (k1 b hb); omega]
              simpa using hl
            · intro x hx
              dsimp only at hx
              rw [k2] at hx
              obtain ⟨b, hb, rfl⟩ := List.mem_map.1 hx
              have := isLet_nat (k1 b hb)
              omega
  · cases h
theorem es_from {ls : List (List UInt8)} {e : En} (h : e ∈ esOf ls) : ∃ l ∈ ls, entryL l = some e := by
  obtain ⟨l, h1, h2⟩ := List.mem_filterMap.1 h
  exact ⟨l, h1, h2⟩
theorem flat_sum : ∀ (ls : List (List UInt8)), ((esOf ls).flatMap fun e => lineE e ++ [10]).length ≤ (ls.map List.length).sum + ls.length
  | [] => Nat.le_refl _
  | l :: ls => by
    have ih := flat_sum ls
    rw [List.map_cons, List.sum_cons, List.length_cons]
    unfold esOf at ih ⊢
    rw [List.filterMap_cons]
    split
    · omega
    · rename_i e he
      rw [List.flatMap_cons, List.length_append, List.length_append, (entry_line he).1]
      show l.length + 1 + _ ≤ _
      omega
/-- Lines and their ends are no more than the text and one. -/
theorem lines_tot : ∀ (s : List UInt8), ((linesL s).map List.length).sum + (linesL s).length ≤ s.length + 1
  | [] => Nat.zero_le _
  | b :: r => by
    have ih := lines_tot r
    rw [linesL_cons]
    by_cases hb : b = 10
    · rw [if_pos hb, List.map_cons, List.sum_cons, List.length_cons, List.length_cons]; simp; omega
    · rw [if_neg hb]
      cases he : linesL r with
      | nil => simp
      | cons x t =>
        rw [he, List.map_cons, List.sum_cons, List.length_cons] at ih
        rw [List.map_cons, List.sum_cons, List.length_cons, List.length_cons, List.length_cons]
        omega
theorem es_lines (ls : List (List UInt8)) : (esOf ls).map lineE = ls.filter (fun l => (entryL l).isSome) := by
  induction ls with
  | nil => rfl
  | cons l ls ih =>
    unfold esOf at ih ⊢
    rw [List.filterMap_cons, List.filter_cons]
    cases he : entryL l with
    | none => simpa using ih
    | some e => simp [ih, (entry_line he).1]
theorem esOf_lines {es : List En} (h : ∀ e ∈ es, entryL (lineE e) = some e) : esOf (es.map lineE) = es ∧ badE 1 (es.map lineE) = 0 := by
  constructor
  · induction es with
    | nil => rfl
    | cons e es ih =>
      have := ih fun x hx => h x (List.mem_cons_of_mem _ hx)
      unfold esOf at this ⊢
      rw [List.map_cons, List.filterMap_cons, h e (List.mem_cons_self ..), this]
  · rw [badE_zero _ 1 (by decide)]
    intro l hl
    obtain ⟨e, he, rfl⟩ := List.mem_map.1 hl
    unfold noneL
    rw [h e he]
    simp
/-- A list that is read. -/
theorem parseE_ok {s : ByteArray} {es : List En} {n : Nat} (h : parseE s = (es, n, 0)) : n = 0 ∧ s.size ≤ 65536 ∧ es = esOf (linesL s.data.toList) ∧ es.length ≤ 2000 := by
  unfold parseE endE at h
  split at h
  · simp at h
  · rename_i h1
    split at h
    · simp at h
    · rename_i h2
      split at h
      · simp at h
      · simp only [Prod.mk.injEq, and_true] at h
        obtain ⟨rfl, rfl⟩ := h
        exact ⟨rfl, by omega, rfl, by omega⟩
theorem parseE_of {s : ByteArray} (hs : s.size ≤ 65536) (he : (esOf (linesL s.data.toList)).length ≤ 2000) (hb : ∀ l ∈ linesL s.data.toList, noneL l = false) : parseE s = (esOf (linesL s.data.toList), 0, 0) := by
  unfold parseE endE
  rw [if_neg (by omega), if_neg (by omega), if_neg (by rw [(badE_zero _ 1 (by decide)).2 hb]; omega)]
theorem parseE_err {s : ByteArray} (h : (parseE s).2.2 ≠ 0) : (parseE s).1 = [] := by
  unfold parseE endE at h ⊢
  split
  · rfl
  · rename_i h1
    rw [if_neg h1] at h
    split
    · rfl
    · rename_i h2
      rw [if_neg h2] at h
      split
      · rfl
      · rename_i h3
        rw [if_neg h3] at h
        exact absurd rfl h
theorem parseE_in {s : ByteArray} {e : En} (h : e ∈ (parseE s).1) : ∃ l ∈ linesL s.data.toList, entryL l = some e := by
  unfold parseE endE at h
  split at h
  · cases h
  · split at h
    · cases h
    · split at h
      · cases h
      · exact es_from h
theorem parseE_len (s : ByteArray) : (parseE s).1.length ≤ 2000 := by
  unfold parseE endE
  split
  · exact Nat.zero_le _
  · split
    · exact Nat.zero_le _
    · split
      · exact Nat.zero_le _
      · dsimp only; omega
theorem fileE_lines (es : List En) (h : ∀ e ∈ es, (10 : UInt8) ∉ lineE e) : linesL (fileE es) = es.map lineE := by
  have : fileE es = ((es.map lineE).map fun l => l ++ [10]).flatten := by
    unfold fileE
    rw [List.flatMap_def, List.map_map]
    rfl
  rw [this]
  exact linesL_flat _ fun l hl => by
    obtain ⟨e, he, rfl⟩ := List.mem_map.1 hl
    exact h e he
/-- What is read has a text that is read as that. -/
theorem textE_back {s : ByteArray} {es : List En} {n : Nat} (h : parseE s = (es, n, 0)) (hs : s.size ≤ 65535) : textE es = ⟨(fileE es).toArray⟩ ∧ parseE (textE es) = (es, 0, 0) := by
  obtain ⟨h1, h2, h3, h4⟩ := parseE_ok h
  have hin : ∀ e ∈ es, (10 : UInt8) ∉ lineE e ∧ entryL (lineE e) = some e := fun e he => by
    rw [h3] at he
    obtain ⟨l, hl, hle⟩ := es_from he
    rw [(entry_line hle).1]
    exact ⟨linesL_mem _ l hl, hle⟩
  have hlines := fileE_lines es fun e he => (hin e he).1
  obtain ⟨k1, k2⟩ := esOf_lines fun e he => (hin e he).2
  have hsz : (fileE es).length ≤ 65536 := by
    have q1 := flat_sum (linesL s.data.toList)
    have q2 := lines_tot s.data.toList
    rw [← h3] at q1
    have hsl : s.data.toList.length = s.size := (Lib.size_eq s).symm
    unfold fileE
    omega
  have hp : parseE ⟨(fileE es).toArray⟩ = (es, 0, 0) := by
    unfold parseE endE
    have hl2 : (⟨(fileE es).toArray⟩ : ByteArray).data.toList = fileE es := by simp
    rw [if_neg (by show ¬ 65536 < (fileE es).toArray.size; rw [List.size_toArray]; omega), hl2, hlines, k1, k2, if_neg (by omega), if_neg (by omega)]
  have ht : textE es = ⟨(fileE es).toArray⟩ := by
    unfold textE
    rw [hp]
    exact if_pos ⟨rfl, rfl⟩
  exact ⟨ht, by rw [ht]; exact hp⟩
theorem textE_size (l : List En) : (textE l).size ≤ 65536 := by
  unfold textE
  split
  · rename_i h
    unfold parseE at h
    by_cases hc : 65536 < (⟨(fileE l).toArray⟩ : ByteArray).size
    · rw [if_pos hc] at h
      exact absurd h.2 (by decide)
    · omega
  · show (0 : Nat) ≤ _; omega
/-- No text: a flag is no letter. -/
theorem textE_no {l : List En} {e : En} {f : Int} (he : e ∈ l) (hf : f ∈ e.flags) (hb : f < 0 ∨ 127 < f) : textE l = ⟨#[]⟩ := by
  unfold textE
  rw [if_neg]
  rintro ⟨h1, -⟩
  rw [← h1] at he
  obtain ⟨x, _, hx⟩ := parseE_in he
  have := (entry_line hx).2.2.2.2.1 f hf
  omega
/-- Not too much. -/
structure FewE (l : List En) : Prop where
  len : l.length ≤ 2000
  word : ∀ e ∈ l, e.word.size ≤ 2000
  flags : ∀ e ∈ l, e.flags.length ≤ 2000
theorem parseE_few {s : ByteArray} (hs : s.size ≤ 2000) : FewE (parseE s).1 := by
  have hsl : s.data.toList.length = s.size := (Lib.size_eq s).symm
  have key : ∀ e ∈ (parseE s).1, e.word.size ≤ 2000 ∧ e.flags.length ≤ 2000 := fun e he => by
    obtain ⟨l, hl, hle⟩ := parseE_in he
    have h1 := mem_sum _ l hl
    have h2 := linesL_sum s.data.toList
    obtain ⟨_, _, h3, h4, _⟩ := entry_line hle
    omega
  exact ⟨parseE_len s, fun e he => (key e he).1, fun e he => (key e he).2⟩
end
section
open Go Go.Lib

/-- A text stands before another, byte by byte. -/
def ltS (a b : ByteArray) : Prop := a.data.toList < b.data.toList
instance (a b : ByteArray) : Decidable (ltS a b) := inferInstanceAs (Decidable (a.data.toList < b.data.toList))
theorem ltS_irrefl (a : ByteArray) : ¬ ltS a a := List.lt_irrefl _
theorem ltS_trans {a b c : ByteArray} (h : ltS a b) (k : ltS b c) : ltS a c := List.lt_trans h k
theorem ltS_total {a b : ByteArray} (h : ¬ ltS a b) (hne : a ≠ b) : ltS b a := by
  have h1 : b.data.toList ≤ a.data.toList := List.not_lt.1 h
  rcases Classical.em (b.data.toList < a.data.toList) with h2 | h2
  · exact h2
  · exfalso
    apply hne
    have h3 := List.not_lt.1 h2
    have h4 : a.data.toList = b.data.toList := List.le_antisymm h3 h1
    have h5 : a.data = b.data := Array.toList_inj.1 h4
    cases a; cases b; simp at h5; rw [h5]
theorem ltS_asymm {a b : ByteArray} (h : ltS a b) : ¬ ltS b a := fun k => ltS_irrefl a (ltS_trans h k)

def Rising (l : List ByteArray) : Prop := l.Pairwise ltS
/-- A word into a rising list, once. -/
def putL : List ByteArray → ByteArray → List ByteArray
  | [], s => [s]
  | a :: r, s => if ltS a s then a :: putL r s else if a = s then a :: r else s :: a :: r
theorem putL_mem (s x : ByteArray) : ∀ l, x ∈ putL l s ↔ x = s ∨ x ∈ l
  | [] => by simp [putL]
  | a :: r => by
    unfold putL
    split
    · rw [List.mem_cons, putL_mem s x r, List.mem_cons]
      constructor
      · rintro (h | h | h)
        · exact .inr (.inl h)
        · exact .inl h
        · exact .inr (.inr h)
      · rintro (h | h | h)
        · exact .inr (.inl h)
        · exact .inl h
        · exact .inr (.inr h)
    · split
      · rename_i h; subst h
        rw [List.mem_cons]
        constructor
        · exact .inr
        · rintro (h | h)
          · exact .inl h
          · exact h
      · rw [List.mem_cons]
theorem putL_rising (s : ByteArray) : ∀ l, Rising l → Rising (putL l s)
  | [], _ => by simp [putL, Rising]
  | a :: r, h => by
    obtain ⟨h1, h2⟩ := List.pairwise_cons.1 h
    unfold putL
    split
    · rename_i hlt
      refine List.pairwise_cons.2 ⟨fun x hx => ?_, putL_rising s r h2⟩
      rcases (putL_mem s x r).1 hx with rfl | hx
      · exact hlt
      · exact h1 x hx
    · rename_i hn
      split
      · exact h
      · rename_i hne
        have hsa := ltS_total hn hne
        refine List.pairwise_cons.2 ⟨fun x hx => ?_, h⟩
        rcases List.mem_cons.1 hx with rfl | hx
        · exact hsa
        · exact ltS_trans hsa (h1 x hx)
theorem putL_length (s : ByteArray) : ∀ l, (putL l s).length ≤ l.length + 1
  | [] => by simp [putL]
  | a :: r => by
    unfold putL
    split
    · have := putL_length s r; simp only [List.length_cons]; omega
    · split <;> simp
/-- Rising lists with the same members are one. -/
theorem rising_eq : ∀ {l m : List ByteArray}, Rising l → Rising m → (∀ x, x ∈ l ↔ x ∈ m) → l = m
  | [], [], _, _, _ => rfl
  | [], b :: m, _, _, h => absurd ((h b).2 (List.mem_cons_self ..)) (by simp)
  | a :: l, [], _, _, h => absurd ((h a).1 (List.mem_cons_self ..)) (by simp)
  | a :: l, b :: m, hl, hm, h => by
    obtain ⟨l1, l2⟩ := List.pairwise_cons.1 hl
    obtain ⟨m1, m2⟩ := List.pairwise_cons.1 hm
    have hab : a = b := by
      rcases List.mem_cons.1 ((h a).1 (List.mem_cons_self ..)) with e | e
      · exact e
      · rcases List.mem_cons.1 ((h b).2 (List.mem_cons_self ..)) with e' | e'
        · exact e'.symm
        · exact absurd (l1 b e') (ltS_asymm (m1 a e))
    subst hab
    congr 1
    refine rising_eq l2 m2 fun x => ?_
    have hx := h x
    rw [List.mem_cons, List.mem_cons] at hx
    constructor
    · intro hm'
      rcases hx.1 (.inr hm') with e | e
      · subst e; exact absurd (l1 x hm') (ltS_irrefl x)
      · exact e
    · intro hm'
      rcases hx.2 (.inr hm') with e | e
      · subst e; exact absurd (m1 x hm') (ltS_irrefl x)
      · exact e

/-! ### The forms -/
def putOk (l : List ByteArray) (x : ByteArray) : List ByteArray := if x.size ≠ 0 then putL l x else l
theorem putOk_mem (l : List ByteArray) (s x : ByteArray) : x ∈ putOk l s ↔ (s.size ≠ 0 ∧ x = s) ∨ x ∈ l := by
  unfold putOk
  split
  · rename_i h; rw [putL_mem]; simp [h]
  · rename_i h; simp at h; simp [h]
theorem putOk_rising {l : List ByteArray} (s : ByteArray) (h : Rising l) : Rising (putOk l s) := by
  unfold putOk
  split
  · exact putL_rising s l h
  · exact h
theorem putOk_length (l : List ByteArray) (s : ByteArray) : (putOk l s).length ≤ l.length + 1 := by
  unfold putOk
  split
  · exact putL_length s l
  · omega
/-- What a second rule puts there. -/
def twoL (e : En) (p : Ru) (l : List ByteArray) (s : Ru) : List ByteArray := if s.flag ∈ e.flags then putOk l (bothR p s e.word) else l
/-- What a rule puts there. -/
def oneL (rs : List Ru) (e : En) (l : List ByteArray) (r : Ru) : List ByteArray := if r.flag ∈ e.flags then rs.foldl (twoL e r) (putOk l (applyR r e.word)) else l
def formsL (rs : List Ru) (e : En) : List ByteArray := rs.foldl (oneL rs e) [e.word]
def allF (rs : List Ru) (es : List En) : List ByteArray := es.foldl (fun m e => (formsL rs e).foldl putL m) []
def IsForm (rs : List Ru) (e : En) (x : ByteArray) : Prop :=
  x = e.word ∨ (∃ r ∈ rs, r.flag ∈ e.flags ∧ (applyR r e.word).size ≠ 0 ∧ x = applyR r e.word) ∨ ∃ p ∈ rs, ∃ s ∈ rs, p.flag ∈ e.flags ∧ s.flag ∈ e.flags ∧ (bothR p s e.word).size ≠ 0 ∧ x = bothR p s e.word

theorem two_mem (e : En) (p : Ru) (x : ByteArray) : ∀ (rs : List Ru) (l : List ByteArray), x ∈ rs.foldl (twoL e p) l ↔ x ∈ l ∨ ∃ s ∈ rs, s.flag ∈ e.flags ∧ (bothR p s e.word).size ≠ 0 ∧ x = bothR p s e.word
  | [], l => by simp
  | s :: rs, l => by
    rw [List.foldl_cons, two_mem e p x rs]
    have h1 : x ∈ twoL e p l s ↔ x ∈ l ∨ (s.flag ∈ e.flags ∧ (bothR p s e.word).size ≠ 0 ∧ x = bothR p s e.word) := by
      unfold twoL
      split
      · rename_i h; rw [putOk_mem]; simp only [h, true_and]; exact or_comm
      · rename_i h; simp [h]
    rw [h1]
    simp only [List.mem_cons, exists_eq_or_imp, or_assoc]
theorem one_mem (rs : List Ru) (e : En) (x : ByteArray) : ∀ (ts : List Ru) (l : List ByteArray), x ∈ ts.foldl (oneL rs e) l ↔
    x ∈ l ∨ ∃ r ∈ ts, r.flag ∈ e.flags ∧ (((applyR r e.word).size ≠ 0 ∧ x = applyR r e.word) ∨ ∃ s ∈ rs, s.flag ∈ e.flags ∧ (bothR r s e.word).size ≠ 0 ∧ x = bothR r s e.word)
  | [], l => by simp
  | r :: ts, l => by
    rw [List.foldl_cons, one_mem rs e x ts]
    have h1 : x ∈ oneL rs e l r ↔ x ∈ l ∨ (r.flag ∈ e.flags ∧ (((applyR r e.word).size ≠ 0 ∧ x = applyR r e.word) ∨ ∃ s ∈ rs, s.flag ∈ e.flags ∧ (bothR r s e.word).size ≠ 0 ∧ x = bothR r s e.word)) := by
      unfold oneL
      split
      · rename_i h; rw [two_mem, putOk_mem]; simp only [h, true_and]
        constructor
        · rintro ((h | h) | h)
          · exact .inr (.inl h)
          · exact .inl h
          · exact .inr (.inr h)
        · rintro (h | h | h)
          · exact .inl (.inr h)
          · exact .inl (.inl h)
          · exact .inr h
      · rename_i h; simp [h]
    rw [h1]
    simp only [List.mem_cons, exists_eq_or_imp, or_assoc]
theorem forms_mem (rs : List Ru) (e : En) (x : ByteArray) : x ∈ formsL rs e ↔ IsForm rs e x := by
  unfold formsL IsForm
  rw [one_mem, List.mem_singleton]
  constructor
  · rintro (h | ⟨r, hr, hf, h | ⟨s, hs, h1, h2, h3⟩⟩)
    · exact .inl h
    · exact .inr (.inl ⟨r, hr, hf, h⟩)
    · exact .inr (.inr ⟨r, hr, s, hs, hf, h1, h2, h3⟩)
  · rintro (h | ⟨r, hr, hf, h⟩ | ⟨p, hp, s, hs, h0, h1, h2, h3⟩)
    · exact .inl h
    · exact .inr ⟨r, hr, hf, .inl h⟩
    · exact .inr ⟨p, hp, h0, .inr ⟨s, hs, h1, h2, h3⟩⟩
theorem two_rising (e : En) (p : Ru) : ∀ (rs : List Ru) (l : List ByteArray), Rising l → Rising (rs.foldl (twoL e p) l)
  | [], _, h => h
  | s :: rs, l, h => two_rising e p rs _ (by unfold twoL; split; exact putOk_rising _ h; exact h)
theorem one_rising (rs : List Ru) (e : En) : ∀ (ts : List Ru) (l : List ByteArray), Rising l → Rising (ts.foldl (oneL rs e) l)
  | [], _, h => h
  | r :: ts, l, h => one_rising rs e ts _ (by unfold oneL; split; exact two_rising _ _ _ _ (putOk_rising _ h); exact h)
theorem forms_rising (rs : List Ru) (e : En) : Rising (formsL rs e) := one_rising rs e rs _ (by simp [Rising])
theorem puts_mem (x : ByteArray) : ∀ (l m : List ByteArray), x ∈ l.foldl putL m ↔ x ∈ m ∨ x ∈ l
  | [], m => by simp
  | a :: l, m => by
    rw [List.foldl_cons, puts_mem x l, putL_mem, List.mem_cons]
    constructor
    · rintro ((h | h) | h)
      · exact .inr (.inl h)
      · exact .inl h
      · exact .inr (.inr h)
    · rintro (h | h | h)
      · exact .inl (.inr h)
      · exact .inl (.inl h)
      · exact .inr h
theorem puts_rising : ∀ (l m : List ByteArray), Rising m → Rising (l.foldl putL m)
  | [], _, h => h
  | a :: l, m, h => puts_rising l _ (putL_rising a m h)
theorem allF_from (rs : List Ru) (x : ByteArray) : ∀ (es : List En) (m : List ByteArray), x ∈ es.foldl (fun m e => (formsL rs e).foldl putL m) m ↔ x ∈ m ∨ ∃ e ∈ es, IsForm rs e x
  | [], m => by simp
  | e :: es, m => by
    rw [List.foldl_cons, allF_from rs x es, puts_mem, forms_mem]
    simp only [List.mem_cons, exists_eq_or_imp, or_assoc]
theorem allF_mem (rs : List Ru) (es : List En) (x : ByteArray) : x ∈ allF rs es ↔ ∃ e ∈ es, IsForm rs e x := by
  unfold allF
  rw [allF_from]
  simp
theorem allF_rise (rs : List Ru) : ∀ (es : List En) (m : List ByteArray), Rising m → Rising (es.foldl (fun m e => (formsL rs e).foldl putL m) m)
  | [], _, h => h
  | _ :: es, _, h => allF_rise rs es _ (puts_rising _ _ h)
theorem allF_rising (rs : List Ru) (es : List En) : Rising (allF rs es) := allF_rise rs es [] List.Pairwise.nil
/-- What All answers. -/
def allL (rs : List Ru) (es : List En) : List ByteArray × Nat := if (allF rs es).length ≤ 20000 then (allF rs es, 0) else ([], 3)

/-! ### Two rules with one act make the same of a word together with a third -/
theorem both_alike {p p' s s' : Ru} {w : ByteArray} (h1 : p.pre = true ∧ p'.pre = true ∧ s.pre = false ∧ s'.pre = false ∧ p.cross = true ∧ p'.cross = true ∧ s.cross = true ∧ s'.cross = true) (h2 : (applyR p w).size ≠ 0) (h2' : (applyR p' w).size ≠ 0)
    (h3 : (applyR s w).size ≠ 0) (h3' : (applyR s' w).size ≠ 0) (hp : p.strip = p'.strip ∧ p.add = p'.add) (hs : s.strip = s'.strip ∧ s.add = s'.add) : bothR p s w = bothR p' s' w := by
  obtain ⟨a1, a2, a3, a4, a5, a6, a7, a8⟩ := h1
  unfold bothR
  rw [hp.1, hp.2, hs.1, hs.2]
  by_cases hz : p'.strip.size + s'.strip.size ≤ w.size
  · rw [if_pos ⟨a1, a3, a5, a7, h2, h3, hz⟩, if_pos ⟨a2, a4, a6, a8, h2', h3', hz⟩]
  · rw [if_neg (fun h => hz h.2.2.2.2.2.2), if_neg (fun h => hz h.2.2.2.2.2.2)]
/-- What two rules make together wants each of them. -/
theorem both_wants {p s : Ru} {w : ByteArray} (h : (bothR p s w).size ≠ 0) : p.pre = true ∧ s.pre = false ∧ p.cross = true ∧ s.cross = true ∧ (applyR p w).size ≠ 0 ∧ (applyR s w).size ≠ 0 := by
  unfold bothR at h
  split at h
  · rename_i hc
    simp_all
  · exact absurd rfl h
end
section
open Go Go.RowKit

/-! ### Rows that grow -/
/-- An item's cells, its set in the slice sv. -/
def iCells (it : It) (sv : Value) : List Value := [.bool it.any, .bool it.not, sv]
def ItsRow (w : World) (xs : List Value) (l : List It) (N : Nat → Prop) : Prop :=
  ∀ (i : Nat) it, l[i]? = some it → ∃ sv, xs[i * 3]? = some (.bool it.any) ∧ xs[i * 3 + 1]? = some (.bool it.not) ∧ xs[i * 3 + 2]? = some sv ∧ IntsAt w sv it.set ∧ ∀ b, sv.ownBlock = some b → b < w.heap.size ∧ ¬ N b
structure Grow (w0 w : World) (v vc : Value) (xs : List Value) (l : List It) (cs : List Int) : Prop where
  row : w.ownsRow w0.heap.size 48 3 v l.length xs
  codes : w.ownsRow w0.heap.size 3 1 vc cs.length (cs.map (Value.int .i64))
  sets : ItsRow w xs l (fun b => v.ownBlock = some b ∨ vc.ownBlock = some b)
  below : Below w0.heap.size w0 w
theorem apart {w : World} {B e e' size size' n n' : Nat} {v v' : Value} {xs xs' : List Value} (h : w.ownsRow B e size v n xs) (h' : w.ownsRow B e' size' v' n' xs') (hne : e ≠ e') : v.ownBlock = none ∨ v.ownBlock ≠ v'.ownBlock := by
  rcases h.2 with ⟨rfl, _⟩ | ⟨g, cap, cur, rfl, _, hg, _⟩
  · left; rfl
  · right
    rcases h'.2 with ⟨rfl, _⟩ | ⟨g', cap', cur', rfl, _, hg', _⟩
    · simp [Value.ownBlock]
    · simp only [Value.ownBlock]
      intro e1
      obtain rfl : g = g' := Option.some.inj e1
      rw [hg] at hg'
      simp at hg'
      exact hne hg'.2
/-- Numbers stand where their block does. -/
theorem IntsAt.still {w w' : World} {v : Value} {cs : List Int} (h : IntsAt w v cs) (hs : w.heap.size ≤ w'.heap.size) (hb : ∀ b, v.ownBlock = some b → b < w.heap.size → w'.heap[b]? = w.heap[b]?) : IntsAt w' v cs := by
  rcases h with h | ⟨b, off, cap, rfl, h1, h2, h3, h4⟩
  · exact .inl h
  · exact .inr ⟨b, off, cap, rfl, Nat.lt_of_lt_of_le h1 hs, h2, h3, fun i c hc => (by unfold World.cell?; rw [show (⟨b, off + i, none⟩ : Addr).block = b from rfl, hb b rfl h1]; exact h4 i c hc)⟩
theorem ItsRow.still {w w' : World} {xs : List Value} {l : List It} {N N' : Nat → Prop} (h : ItsRow w xs l N) (hs : w.heap.size ≤ w'.heap.size) (hb : ∀ b, b < w.heap.size → ¬ N b → w'.heap[b]? = w.heap[b]?) (hN : ∀ b, b < w.heap.size → N' b → N b) : ItsRow w' xs l N' := by
  intro i it hi
  obtain ⟨sv, h1, h2, h3, h4, h5⟩ := h i it hi
  exact ⟨sv, h1, h2, h3, h4.still hs fun b hv hlt => hb b hlt (h5 b hv).2, fun b hv => ⟨Nat.lt_of_lt_of_le (h5 b hv).1 hs, fun hn => (h5 b hv).2 (hN b (h5 b hv).1 hn)⟩⟩
theorem ItsRow.snoc {w : World} {xs : List Value} {l : List It} {N : Nat → Prop} (h : ItsRow w xs l N) (hl : xs.length = l.length * 3) {it : It} {sv : Value} (hv : IntsAt w sv it.set) (hb : ∀ b, sv.ownBlock = some b → b < w.heap.size ∧ ¬ N b) : ItsRow w (xs ++ iCells it sv) (l ++ [it]) N := by
  intro i x hi
  rcases Nat.lt_or_ge i l.length with hlt | hge
  · rw [List.getElem?_append_left hlt] at hi
    obtain ⟨s, h1, h2, h3, h4, h5⟩ := h i x hi
    exact ⟨s, by rw [List.getElem?_append_left (by omega)]; exact h1, by rw [List.getElem?_append_left (by omega)]; exact h2, by rw [List.getElem?_append_left (by omega)]; exact h3, h4, h5⟩
  · rw [List.getElem?_append_right hge] at hi
    have h0 : i - l.length = 0 := by
      have := (List.getElem?_eq_some_iff.1 hi).1
      simp at this; omega
    rw [h0] at hi
    obtain rfl : it = x := by simpa using hi
    obtain rfl : i = l.length := by omega
    refine ⟨sv, ?_, ?_, ?_, hv, hb⟩
    · rw [List.getElem?_append_right (by omega), hl, Nat.sub_self]; rfl
    · rw [List.getElem?_append_right (by omega), hl, show l.length * 3 + 1 - l.length * 3 = 1 by omega]; rfl
    · rw [List.getElem?_append_right (by omega), hl, show l.length * 3 + 2 - l.length * 3 = 2 by omega]; rfl
theorem Grow.alloc {w0 w : World} {v vc : Value} {xs : List Value} {l : List It} {cs : List Int} (h : Grow w0 w v vc xs l cs) (o : Obj) : Grow w0 (w.alloc o) v vc xs l cs :=
  ⟨h.row.alloc o, h.codes.alloc o, h.sets.still (by simp) (fun b hb _ => Below.heap_alloc _ _ _ hb) (fun _ _ hn => hn), h.below.alloc h.below.size o⟩
/-- An item more. -/
theorem Grow.item {w0 w w' : World} {v vc v' : Value} {xs : List Value} {l : List It} {cs : List Int} {it : It} {sv : Value} (h : Grow w0 w v vc xs l cs) (hown : w'.ownsRow w0.heap.size 48 3 v' (l.length + 1) (xs ++ iCells it sv)) (hgrow : w.grownBy w' v.ownBlock)
    (hwh : v'.ownBlock = v.ownBlock ∨ ∀ g, v'.ownBlock = some g → w.heap.size ≤ g) (hv : IntsAt w sv it.set) (hb : ∀ b, sv.ownBlock = some b → b < w.heap.size ∧ v.ownBlock ≠ some b ∧ vc.ownBlock ≠ some b) : Grow w0 w' v' vc (xs ++ iCells it sv) (l ++ [it]) cs := by
  have hlo : ∀ z, v.ownBlock = some z → w0.heap.size ≤ z := fun z hz => (h.row.lt z hz).1
  refine ⟨by rw [List.length_append]; exact hown, h.codes.kept hgrow ?_, ?_, h.below.grown hgrow h.below.size hlo⟩
  · rcases apart h.codes h.row (by decide) with e | e
    · exact .inl e
    · exact .inr e
  · have h1 : ItsRow w (xs ++ iCells it sv) (l ++ [it]) (fun b => v.ownBlock = some b ∨ vc.ownBlock = some b) := h.sets.snoc h.row.1 hv fun b hvb => ⟨(hb b hvb).1, fun hn => hn.elim (hb b hvb).2.1 (hb b hvb).2.2⟩
    refine h1.still hgrow.size (fun b hlt hn => hgrow.block b hlt (fun e => hn (.inl e.symm))) (fun b hlt hn => ?_)
    rcases hn with hn | hn
    · rcases hwh with e | e
      · exact .inl (e ▸ hn)
      · have := e b hn; omega
    · exact .inr hn
/-- A code more. -/
theorem Grow.code {w0 w w' : World} {v vc vc' : Value} {xs : List Value} {l : List It} {cs : List Int} {c : Int} (h : Grow w0 w v vc xs l cs) (hown : w'.ownsRow w0.heap.size 3 1 vc' (cs.length + 1) (cs.map (Value.int .i64) ++ [.int .i64 c])) (hgrow : w.grownBy w' vc.ownBlock)
    (hwh : vc'.ownBlock = vc.ownBlock ∨ ∀ g, vc'.ownBlock = some g → w.heap.size ≤ g) : Grow w0 w' v vc' xs l (cs ++ [c]) := by
  have hlo : ∀ z, vc.ownBlock = some z → w0.heap.size ≤ z := fun z hz => (h.codes.lt z hz).1
  refine ⟨h.row.kept hgrow ?_, by rw [List.length_append, List.map_append]; exact hown, ?_, h.below.grown hgrow h.below.size hlo⟩
  · rcases apart h.row h.codes (by decide) with e | e
    · exact .inl e
    · exact .inr e
  · refine h.sets.still hgrow.size (fun b hlt hn => hgrow.block b hlt (fun e => hn (.inr e.symm))) (fun b hlt hn => ?_)
    rcases hn with hn | hn
    · exact .inl hn
    · rcases hwh with e | e
      · exact .inr (e ▸ hn)
      · have := e b hn; omega
theorem Grow.start (w : World) : Grow w w (.slice none 0 0) (.slice none 0 0) [] [] [] :=
  ⟨World.ownsRow_nil _ _ _ _, World.ownsRow_nil _ _ _ _, fun i it h => by simp at h, Below.refl _ _⟩
/-- Rows of our own read as items, as codes. -/
theorem Grow.reads {w0 w : World} {v vc : Value} {xs : List Value} {l : List It} {cs : List Int} (h : Grow w0 w v vc xs l cs) : ItemsAt w v l ∧ IntsAt w vc cs := by
  have hadd : ∀ (g j : Nat), (⟨g, 0, none⟩ : Addr).add j = ⟨g, j, none⟩ := fun g j => by unfold Addr.add; split <;> simp_all
  constructor
  · have hc := @World.ownsRow.cells _ _ _ _ _ _ _ h.row
    rcases h.row.2 with ⟨rfl, h0⟩ | ⟨g, cap, cur, rfl, hb, hg, hnc, hcm, _⟩
    · exact .inl ⟨List.eq_nil_of_length_eq_zero h0, _, _, rfl⟩
    · refine .inr ⟨g, 0, cap, rfl, (Array.getElem?_eq_some_iff.1 hg).1, hnc, hcm, fun i it hi => ?_⟩
      obtain ⟨sv, h1, h2, h3, h4, _⟩ := h.sets i it hi
      rw [Nat.zero_add]
      exact ⟨by rw [← hadd]; exact hc (g := g) rfl _ _ h1, by rw [← hadd]; exact hc (g := g) rfl _ _ h2, sv, by rw [← hadd]; exact hc (g := g) rfl _ _ h3, h4⟩
  · have hc := @World.ownsRow.cells _ _ _ _ _ _ _ h.codes
    rcases h.codes.2 with ⟨rfl, h0⟩ | ⟨g, cap, cur, rfl, hb, hg, hnc, hcm, _⟩
    · exact .inl ⟨List.eq_nil_of_length_eq_zero h0, _, _, rfl⟩
    · refine .inr ⟨g, 0, cap, rfl, (Array.getElem?_eq_some_iff.1 hg).1, hnc, hcm, fun i c hi => ?_⟩
      rw [Nat.zero_add, ← hadd]
      exact hc (g := g) rfl i _ (by rw [List.getElem?_map, hi]; rfl)
/-- A row of our own reads as codes. -/
theorem ints_own {w : World} {B : Nat} {vc : Value} {cs : List Int} (h : w.ownsRow B 3 1 vc cs.length (cs.map (Value.int .i64))) : IntsAt w vc cs := by
  have hadd : ∀ (g j : Nat), (⟨g, 0, none⟩ : Addr).add j = ⟨g, j, none⟩ := fun g j => by unfold Addr.add; split <;> simp_all
  have hc := @World.ownsRow.cells _ _ _ _ _ _ _ h
  rcases h.2 with ⟨rfl, h0⟩ | ⟨g, cap, cur, rfl, hb, hg, hnc, hcm, _⟩
  · exact .inl ⟨List.eq_nil_of_length_eq_zero h0, _, _, rfl⟩
  · refine .inr ⟨g, 0, cap, rfl, (Array.getElem?_eq_some_iff.1 hg).1, hnc, hcm, fun i c hi => ?_⟩
    rw [Nat.zero_add, ← hadd]
    exact hc (g := g) rfl i _ (by rw [List.getElem?_map, hi]; rfl)
theorem Tryz.infosN48 : (Tryz.prog.info? 48).map (fun i => (i.zero, i.size, i.bytes)) = some (some (.agg #[.bool false, .bool false, .slice none 0 0]), 3, 32) := by kernel_rfl
theorem Tryz.infosN3 : (Tryz.prog.info? 3).map (fun i => (i.zero, i.size, i.bytes)) = some (some (.int .i64 0), 1, 8) := by kernel_rfl
theorem news_row (w : World) (cs : Array Value) (t : TypeId) : ∀ j u, cs.toList[j]? = some u → (w.alloc (.cells cs t)).cell? ((⟨w.heap.size, 0, none⟩ : Addr).add j) = some u := by
  intro j u hu
  have hadd : (⟨w.heap.size, 0, none⟩ : Addr).add j = ⟨w.heap.size, j, none⟩ := by unfold Addr.add; split <;> simp_all
  rw [hadd, cell_of_row _ w.heap.size j cs t (0, 0) (World.alloc_heap_new w _)]
  simpa using hu
theorem news_row2 (w : World) (o : Obj) (cs : Array Value) (t : TypeId) : ∀ j u, cs.toList[j]? = some u → ((w.alloc o).alloc (.cells cs t)).cell? ((⟨w.heap.size + 1, 0, none⟩ : Addr).add j) = some u := by
  have := news_row (w.alloc o) cs t
  rwa [World.size_alloc] at this
theorem add9 (g j : Nat) : (⟨g, 0, none⟩ : Addr).add j = ⟨g, j, none⟩ := by unfold Addr.add; split <;> simp_all
theorem own_open9 {w : World} {B e size n : Nat} {v : Value} {xs : List Value} (h : w.ownsRow B e size v n xs) (hn : 0 < n) :
    ∃ g cap, v = .slice (some ⟨g, 0, none⟩) n cap ∧ g < w.heap.size ∧ n ≤ cap ∧ cap ≤ maxLen ∧ ∀ j u, xs[j]? = some u → w.cell? ⟨g, j, none⟩ = some u := by
  have hc := @World.ownsRow.cells _ _ _ _ _ _ _ h
  rcases h.2 with ⟨_, rfl⟩ | ⟨g, cap, cur, rfl, hb, hg, hnc, hcm, _⟩
  · omega
  · refine ⟨g, cap, rfl, (Array.getElem?_eq_some_iff.1 hg).1, hnc, hcm, fun j u hu => ?_⟩
    have hadd : (⟨g, 0, none⟩ : Addr).add j = ⟨g, j, none⟩ := by unfold Addr.add; split <;> simp_all
    rw [← hadd]
    exact hc (g := g) rfl j u hu
theorem own_keep9 {w w' : World} {B : Nat} {e : TypeId} {size n : Nat} {v : Value} {xs : List Value} (h : w.ownsRow B e size v n xs) (hb : Below w.heap.size w w') : w'.ownsRow B e size v n xs := by
  refine ⟨h.1, ?_⟩
  rcases h.2 with h | ⟨g, cap, cur, h1, h2, h3, h4⟩
  · exact .inl h
  · exact .inr ⟨g, cap, cur, h1, h2, (hb.block g (Array.getElem?_eq_some_iff.1 h3).1).trans h3, h4⟩
theorem Grow.keep {w0 w w' : World} {v vc : Value} {xs : List Value} {l : List It} {cs : List Int} (h : Grow w0 w v vc xs l cs) (hb : Below w.heap.size w w') : Grow w0 w' v vc xs l cs :=
  ⟨own_keep9 h.row hb, own_keep9 h.codes hb, h.sets.still hb.size (fun b hlt _ => hb.block b hlt) (fun _ _ hn => hn), h.below.trans (hb.mono h.below.size)⟩
theorem iCells_one (it : It) (a : Option Addr) (n cp : Nat) : ∀ u ∈ iCells it (.slice a n cp), u.oneCell' = true := by
  intro u hu
  unfold iCells at hu
  simp only [List.mem_cons, List.not_mem_nil, or_false] at hu
  rcases hu with rfl | rfl | rfl <;> rfl
end
section
open Go Go.RowKit Go.Lib

/-- Two cells that read as an entry. -/
def EnCells (w : World) (b o : Nat) (e : En) : Prop :=
  w.cell? ⟨b, o, none⟩ = some (.string e.word) ∧ ∃ A cap, w.cell? ⟨b, o + 1, none⟩ = some (.slice A e.flags.length cap) ∧ IntsAt w (.slice A e.flags.length cap) e.flags
/-- A slice that reads as these entries. -/
def EntsAt (w : World) (v : Value) (es : List En) : Prop :=
  (es = [] ∧ ∃ a cap, v = .slice a 0 cap) ∨ ∃ b off cap, v = .slice (some ⟨b, off, none⟩) es.length cap ∧ b < w.heap.size ∧ es.length ≤ cap ∧ cap ≤ maxLen ∧ ∀ (i : Nat) e, es[i]? = some e → EnCells w b (off + i * 2) e
theorem EnCells.keep {w w' : World} {b o : Nat} {e : En} (h : EnCells w b o e) (hb : Below w.heap.size w w') (hlt : b < w.heap.size) : EnCells w' b o e := by
  obtain ⟨h0, A, cap, h1, h2⟩ := h
  exact ⟨(cell_old (p := ⟨b, o, none⟩) hb hlt).trans h0, A, cap, (cell_old (p := ⟨b, o + 1, none⟩) hb hlt).trans h1, h2.keep hb⟩
theorem EntsAt.keep {w w' : World} {v : Value} {es : List En} (h : EntsAt w v es) (hb : Below w.heap.size w w') : EntsAt w' v es := by
  rcases h with h | ⟨b, off, cap, rfl, h1, h2, h3, h4⟩
  · exact .inl h
  · exact .inr ⟨b, off, cap, rfl, Nat.lt_of_lt_of_le h1 hb.size, h2, h3, fun i r hr => (h4 i r hr).keep hb h1⟩
theorem EntsAt.bd {w : World} {A : Option Addr} {n cap : Nat} {es : List En} (h : EntsAt w (.slice A n cap) es) : es.length ≤ maxLen ∧ n = es.length := by
  rcases h with ⟨rfl, a, c, e⟩ | ⟨b, off, c, e, _, h2, h3, _⟩
  · injection e with _ e2 _; exact ⟨Nat.zero_le _, e2⟩
  · injection e with _ e2 _; exact ⟨Nat.le_trans h2 h3, e2⟩
theorem ents_form {w : World} {v : Value} {es : List En} (h : EntsAt w v es) : ∃ A cap, v = .slice A es.length cap := by
  rcases h with ⟨rfl, a, c, e⟩ | ⟨b, off, c, e, _⟩
  · exact ⟨a, c, e⟩
  · exact ⟨_, c, e⟩
theorem ents_nil {w : World} {v : Value} (h : EntsAt w v []) : ∃ A cap, v = .slice A 0 cap := by
  obtain ⟨A, c, e⟩ := ents_form h
  exact ⟨A, c, e⟩
theorem ents_open {w : World} {A : Option Addr} {n cap : Nat} {es : List En} (h : EntsAt w (.slice A n cap) es) : ∀ (k : Nat) e, es[k]? = some e → ∃ b off, A = some ⟨b, off, none⟩ ∧ b < w.heap.size ∧ n ≤ cap ∧ EnCells w b (off + k * 2) e := by
  intro k e hk
  rcases h with ⟨rfl, _⟩ | ⟨b, off, c, e', h1, h2, h3, h4⟩
  · simp at hk
  · injection e' with e1 e2 e3
    subst e1 e2 e3
    exact ⟨b, off, rfl, h1, h2, h4 k e hk⟩

/-! ### What is asked of list's calls -/
def yex1 : ByteArray := ⟨#[99, 105, 116, 121, 47, 83]⟩
def yex2 : ByteArray := ⟨#[97, 10, 98, 32, 99, 10]⟩
def exE : List En := [⟨⟨#[99, 105, 116, 121]⟩, [83]⟩]
theorem yex1_parse : parseE yex1 = (exE, 0, 0) := by decide +kernel
theorem yex2_parse : parseE yex2 = ([], 2, 5) := by decide +kernel
theorem exE_at {w : World} {v : Value} (h : EntsAt w v exE) : ∃ b off cap B o c', v = .slice (some ⟨b, off, none⟩) 1 cap ∧ b < w.heap.size ∧ B < w.heap.size ∧ 1 ≤ cap ∧ 1 ≤ c' ∧ w.cell? ⟨b, off, none⟩ = some (.string ⟨#[99, 105, 116, 121]⟩) ∧ w.cell? ⟨b, off + 1, none⟩ = some (.slice (some ⟨B, o, none⟩) 1 c') ∧ w.cell? ⟨B, o, none⟩ = some (.int .i64 83) := by
  obtain ⟨A, cap, rfl⟩ := ents_form h
  obtain ⟨b, off, rfl, hb, hc, h1, B, c', h2, h3⟩ := ents_open h 0 _ rfl
  obtain ⟨A', c2, e, h4⟩ := ints_open h3
  injection e with e1 e2 e3
  subst e1 e3
  obtain ⟨q, o, rfl, hq, hc', h5⟩ := h4 0 83 rfl
  exact ⟨b, off, cap, q, o, _, rfl, hb, hq, hc, hc', h1, h2, h5⟩
variable {T : World → Prop}
end
section
open Go Go.RowKit Go.Lib

/-- Six cells that read as a rule. -/
def RuCells (w : World) (b o : Nat) (r : Ru) : Prop :=
  w.cell? ⟨b, o, none⟩ = some (.bool r.pre) ∧ w.cell? ⟨b, o + 1, none⟩ = some (.int .i64 r.flag) ∧ w.cell? ⟨b, o + 2, none⟩ = some (.bool r.cross) ∧ w.cell? ⟨b, o + 3, none⟩ = some (.string r.strip) ∧ w.cell? ⟨b, o + 4, none⟩ = some (.string r.add) ∧
    ∃ A cap, w.cell? ⟨b, o + 5, none⟩ = some (.slice A r.cond.length cap) ∧ ItemsAt w (.slice A r.cond.length cap) r.cond
/-- A slice that reads as these rules. -/
def RulesAt (w : World) (v : Value) (rs : List Ru) : Prop :=
  (rs = [] ∧ ∃ a cap, v = .slice a 0 cap) ∨ ∃ b off cap, v = .slice (some ⟨b, off, none⟩) rs.length cap ∧ b < w.heap.size ∧ rs.length ≤ cap ∧ cap ≤ maxLen ∧ ∀ (i : Nat) r, rs[i]? = some r → RuCells w b (off + i * 6) r
/-- A slice that reads as these pairs. -/
def PairsAt (w : World) (v : Value) (ps : List (Int × Int)) : Prop :=
  (ps = [] ∧ ∃ a cap, v = .slice a 0 cap) ∨ ∃ b off cap, v = .slice (some ⟨b, off, none⟩) ps.length cap ∧ b < w.heap.size ∧ ps.length ≤ cap ∧ cap ≤ maxLen ∧
    ∀ (i : Nat) p, ps[i]? = some p → w.cell? ⟨b, off + i * 2, none⟩ = some (.int .i64 p.1) ∧ w.cell? ⟨b, off + i * 2 + 1, none⟩ = some (.int .i64 p.2)
def AffAt (w : World) (v : Value) (a : Af) : Prop :=
  ∃ A cap B cap', v = .agg #[.slice A a.rules.length cap, .slice B a.pairs.length cap'] ∧ RulesAt w (.slice A a.rules.length cap) a.rules ∧ PairsAt w (.slice B a.pairs.length cap') a.pairs
theorem RuCells.keep {w w' : World} {b o : Nat} {r : Ru} (h : RuCells w b o r) (hb : Below w.heap.size w w') (hlt : b < w.heap.size) : RuCells w' b o r := by
  obtain ⟨h0, h1, h2, h3, h4, A, cap, h5, h6⟩ := h
  exact ⟨(cell_old (p := ⟨b, o, none⟩) hb hlt).trans h0, (cell_old (p := ⟨b, o + 1, none⟩) hb hlt).trans h1, (cell_old (p := ⟨b, o + 2, none⟩) hb hlt).trans h2, (cell_old (p := ⟨b, o + 3, none⟩) hb hlt).trans h3, (cell_old (p := ⟨b, o + 4, none⟩) hb hlt).trans h4, A, cap, (cell_old (p := ⟨b, o + 5, none⟩) hb hlt).trans h5, h6.keep hb⟩
theorem RulesAt.keep {w w' : World} {v : Value} {rs : List Ru} (h : RulesAt w v rs) (hb : Below w.heap.size w w') : RulesAt w' v rs := by
  rcases h with h | ⟨b, off, cap, rfl, h1, h2, h3, h4⟩
  · exact .inl h
  · exact .inr ⟨b, off, cap, rfl, Nat.lt_of_lt_of_le h1 hb.size, h2, h3, fun i r hr => (h4 i r hr).keep hb h1⟩
theorem PairsAt.keep {w w' : World} {v : Value} {ps : List (Int × Int)} (h : PairsAt w v ps) (hb : Below w.heap.size w w') : PairsAt w' v ps := by
  rcases h with h | ⟨b, off, cap, rfl, h1, h2, h3, h4⟩
  · exact .inl h
  · exact .inr ⟨b, off, cap, rfl, Nat.lt_of_lt_of_le h1 hb.size, h2, h3, fun i p hp => ⟨(cell_old (p := ⟨b, off + i * 2, none⟩) hb h1).trans (h4 i p hp).1, (cell_old (p := ⟨b, off + i * 2 + 1, none⟩) hb h1).trans (h4 i p hp).2⟩⟩
theorem AffAt.keep {w w' : World} {v : Value} {a : Af} (h : AffAt w v a) (hb : Below w.heap.size w w') : AffAt w' v a := by
  obtain ⟨A, cap, B, cap', rfl, h1, h2⟩ := h
  exact ⟨A, cap, B, cap', rfl, h1.keep hb, h2.keep hb⟩
theorem RulesAt.bd {w : World} {A : Option Addr} {n cap : Nat} {rs : List Ru} (h : RulesAt w (.slice A n cap) rs) : rs.length ≤ maxLen ∧ n = rs.length := by
  rcases h with ⟨rfl, a, c, e⟩ | ⟨b, off, c, e, _, h2, h3, _⟩
  · injection e with _ e2 _; exact ⟨Nat.zero_le _, e2⟩
  · injection e with _ e2 _; exact ⟨Nat.le_trans h2 h3, e2⟩
theorem PairsAt.bd {w : World} {A : Option Addr} {n cap : Nat} {ps : List (Int × Int)} (h : PairsAt w (.slice A n cap) ps) : ps.length ≤ maxLen ∧ n = ps.length := by
  rcases h with ⟨rfl, a, c, e⟩ | ⟨b, off, c, e, _, h2, h3, _⟩
  · injection e with _ e2 _; exact ⟨Nat.zero_le _, e2⟩
  · injection e with _ e2 _; exact ⟨Nat.le_trans h2 h3, e2⟩
/-- Not too much. -/
structure FewA (a : Af) : Prop where
  rules : a.rules.length ≤ 200
  pairs : a.pairs.length ≤ 200
  items : ∀ r ∈ a.rules, r.cond.length ≤ 12
  sets : ∀ r ∈ a.rules, ∀ it ∈ r.cond, it.set.length ≤ 2000
  strip : ∀ r ∈ a.rules, r.strip.size ≤ 200
  add : ∀ r ∈ a.rules, r.add.size ≤ 200

/-! ### What is asked of affix's calls -/
def ex1 : ByteArray := ⟨#[83, 70, 88, 32, 83, 32, 89, 32, 48, 32, 115, 32, 46, 10, 67, 65, 83, 69, 32, 195, 150, 195, 182, 10]⟩
def ex2 : ByteArray := ⟨#[10, 104, 111, 112, 10]⟩
def exA : Af := ⟨[⟨false, 83, true, ⟨#[]⟩, ⟨#[115]⟩, [⟨true, false, []⟩]⟩], [(214, 246)]⟩
theorem ex0_parse : parseA ⟨#[]⟩ = (af0, 0, 0) := by decide +kernel
theorem ex1_parse : parseA ex1 = (exA, 0, 0) := by decide +kernel
theorem ex2_parse : parseA ex2 = (af0, 2, 5) := by decide +kernel

/-- A box of two cells. -/
theorem box2 {w w' : World} {a b : Value} {t : TypeId} (hb : Below (w.alloc (.cells #[a, b] t)).heap.size (w.alloc (.cells #[a, b] t)) w') :
    w'.cell? ⟨w.heap.size, 0, none⟩ = some a ∧ w'.cell? ⟨w.heap.size, 1, none⟩ = some b := by
  have h : w'.heap[w.heap.size]? = some (.cells #[a, b] t (0, 0)) := (hb.block w.heap.size (by rw [World.size_alloc]; omega)).trans (World.alloc_heap_new w _)
  refine ⟨?_, ?_⟩ <;> simp [World.cell?, h]
theorem af0_at {w : World} {v : Value} (h : AffAt w v af0) : ∃ A cap B cap', v = .agg #[.slice A 0 cap, .slice B 0 cap'] := by
  obtain ⟨A, cap, B, cap', e, _, _⟩ := h
  exact ⟨A, cap, B, cap', e⟩
theorem exA_at {w : World} {v : Value} (h : AffAt w v exA) : ∃ A cap B cap', v = .agg #[.slice A 1 cap, .slice B 1 cap'] := by
  obtain ⟨A, cap, B, cap', e, _, _⟩ := h
  exact ⟨A, cap, B, cap', e⟩
theorem af_at {w : World} {v : Value} {a : Af} (h : AffAt w v a) : ∃ A n cap B m cap', v = .agg #[.slice A n cap, .slice B m cap'] ∧ n = a.rules.length ∧ m = a.pairs.length := by
  obtain ⟨A, cap, B, cap', e, _, _⟩ := h
  exact ⟨A, _, cap, B, _, cap', e, rfl, rfl⟩
variable {T : World → Prop}
end
section
open Go Go.RowKit Go.Lib Go.Maps

/-- Each cell of w stands in w'. -/
def Sub (w w' : World) : Prop := w.heap.size ≤ w'.heap.size ∧ ∀ a v, w.cell? a = some v → w'.cell? a = some v
theorem Sub.refl (w : World) : Sub w w := ⟨Nat.le_refl _, fun _ _ h => h⟩
theorem Sub.trans {a b c : World} (h : Sub a b) (k : Sub b c) : Sub a c := ⟨Nat.le_trans h.1 k.1, fun p v hp => k.2 p v (h.2 p v hp)⟩
theorem Sub.of_below {w w' : World} (h : Below w.heap.size w w') : Sub w w' := ⟨h.size, fun a _v ha => (cell_old h (World.block_lt_of_cell? w a ha)).trans ha⟩
/-- A block of cells. -/
def CellsOf (w : World) (k : Nat) : Prop := ∃ c t f, w.heap[k]? = some (.cells c t f)
theorem CellsOf.lt {w : World} {k : Nat} (h : CellsOf w k) : k < w.heap.size := by
  obtain ⟨c, t, f, h⟩ := h
  exact (Array.getElem?_eq_some_iff.1 h).1
theorem CellsOf.of_cell {w : World} {a : Addr} {v : Value} (h : w.cell? a = some v) : CellsOf w a.block := by
  unfold World.cell? at h
  split at h
  · rename_i c t f hb; exact ⟨_, _, _, hb⟩
  all_goals cases h
theorem Sub.of_keeps {R : Nat → Prop} {w w' : World} (h : KeepsAt R w w') (hR : ∀ k, CellsOf w k → R k) : Sub w w' := by
  refine ⟨h.size, fun a v ha => ?_⟩
  have hc := CellsOf.of_cell ha
  unfold World.cell? at ha ⊢
  rw [h.block a.block hc.lt (hR _ hc)]
  exact ha
theorem IntsAt.sub {w w' : World} {v : Value} {cs : List Int} (h : IntsAt w v cs) (hs : Sub w w') : IntsAt w' v cs := by
  rcases h with h | ⟨b, off, cap, rfl, h1, h2, h3, h4⟩
  · exact .inl h
  · exact .inr ⟨b, off, cap, rfl, Nat.lt_of_lt_of_le h1 hs.1, h2, h3, fun i c hc => hs.2 _ _ (h4 i c hc)⟩
theorem ItemsAt.sub {w w' : World} {v : Value} {l : List It} (h : ItemsAt w v l) (hs : Sub w w') : ItemsAt w' v l := by
  rcases h with h | ⟨b, off, cap, rfl, h1, h2, h3, h4⟩
  · exact .inl h
  · refine .inr ⟨b, off, cap, rfl, Nat.lt_of_lt_of_le h1 hs.1, h2, h3, fun i it hi => ?_⟩
    obtain ⟨k1, k2, sv, k3, k4⟩ := h4 i it hi
    exact ⟨hs.2 _ _ k1, hs.2 _ _ k2, sv, hs.2 _ _ k3, k4.sub hs⟩
theorem RuAt.sub {w w' : World} {v : Value} {r : Ru} (h : RuAt w v r) (hs : Sub w w') : RuAt w' v r := by
  obtain ⟨A, cap, rfl, h1⟩ := h
  exact ⟨A, cap, rfl, h1.sub hs⟩
theorem RuCells.sub {w w' : World} {b o : Nat} {r : Ru} (h : RuCells w b o r) (hs : Sub w w') : RuCells w' b o r := by
  obtain ⟨h0, h1, h2, h3, h4, A, cap, h5, h6⟩ := h
  exact ⟨hs.2 _ _ h0, hs.2 _ _ h1, hs.2 _ _ h2, hs.2 _ _ h3, hs.2 _ _ h4, A, cap, hs.2 _ _ h5, h6.sub hs⟩
theorem RulesAt.sub {w w' : World} {v : Value} {rs : List Ru} (h : RulesAt w v rs) (hs : Sub w w') : RulesAt w' v rs := by
  rcases h with h | ⟨b, off, cap, rfl, h1, h2, h3, h4⟩
  · exact .inl h
  · exact .inr ⟨b, off, cap, rfl, Nat.lt_of_lt_of_le h1 hs.1, h2, h3, fun i r hr => (h4 i r hr).sub hs⟩

/-- An entry by value. -/
def EnAt (w : World) (v : Value) (e : En) : Prop := ∃ A cap, v = .agg #[.string e.word, .slice A e.flags.length cap] ∧ IntsAt w (.slice A e.flags.length cap) e.flags
theorem EnAt.keep {w w' : World} {v : Value} {e : En} (h : EnAt w v e) (hb : Below w.heap.size w w') : EnAt w' v e := by
  obtain ⟨A, cap, rfl, h1⟩ := h
  exact ⟨A, cap, rfl, h1.keep hb⟩
/-- A slice that reads as these texts. -/
def StrsAt (w : World) (v : Value) (l : List ByteArray) : Prop :=
  (l = [] ∧ ∃ a cap, v = .slice a 0 cap) ∨ ∃ b off cap, v = .slice (some ⟨b, off, none⟩) l.length cap ∧ b < w.heap.size ∧ l.length ≤ cap ∧ cap ≤ maxLen ∧ ∀ (i : Nat) s, l[i]? = some s → w.cell? ⟨b, off + i, none⟩ = some (.string s)
theorem StrsAt.keep {w w' : World} {v : Value} {l : List ByteArray} (h : StrsAt w v l) (hb : Below w.heap.size w w') : StrsAt w' v l := by
  rcases h with h | ⟨b, off, cap, rfl, h1, h2, h3, h4⟩
  · exact .inl h
  · exact .inr ⟨b, off, cap, rfl, Nat.lt_of_lt_of_le h1 hb.size, h2, h3, fun i c hc => (cell_old (p := ⟨b, off + i, none⟩) hb h1).trans (h4 i c hc)⟩
theorem strs_form {w : World} {v : Value} {l : List ByteArray} (h : StrsAt w v l) : ∃ A cap, v = .slice A l.length cap := by
  rcases h with ⟨rfl, a, c, e⟩ | ⟨b, off, c, e, _⟩
  · exact ⟨a, c, e⟩
  · exact ⟨_, c, e⟩
theorem strs_open {w : World} {A : Option Addr} {n cap : Nat} {l : List ByteArray} (h : StrsAt w (.slice A n cap) l) : ∀ (k : Nat) s, l[k]? = some s → ∃ b off, A = some ⟨b, off, none⟩ ∧ b < w.heap.size ∧ n ≤ cap ∧ w.cell? ⟨b, off + k, none⟩ = some (.string s) := by
  intro k e hk
  rcases h with ⟨rfl, _⟩ | ⟨b, off, c, e', h1, h2, h3, h4⟩
  · simp at hk
  · injection e' with e1 e2 e3
    subst e1 e2 e3
    exact ⟨b, off, rfl, h1, h2, h4 k e hk⟩
theorem strs_own {w : World} {B n : Nat} {v : Value} {l : List ByteArray} (h : w.ownsRow B 9 1 v n (l.map Value.string)) (hn : n = l.length) : StrsAt w v l := by
  subst hn
  have hc := @World.ownsRow.cells _ _ _ _ _ _ _ h
  rcases h.2 with ⟨rfl, h0⟩ | ⟨g, cap, cur, rfl, hb, hg, hnc, hcm, _⟩
  · exact .inl ⟨List.eq_nil_of_length_eq_zero h0, _, _, rfl⟩
  · refine .inr ⟨g, 0, cap, rfl, (Array.getElem?_eq_some_iff.1 hg).1, hnc, hcm, fun i c hi => ?_⟩
    rw [Nat.zero_add, ← add9]
    exact hc (g := g) rfl i _ (by rw [List.getElem?_map, hi]; rfl)

/-! ### Maps whose elements are told as they lie -/
def heldR (v : Value) : Option (DataW Value × List MemPlace) := some (.held v, [])
theorem heldR_inv {v : Value} {y : DataW Value × List MemPlace} (h : heldR v = some y) : y = (.held v, []) := (Option.some.inj h).symm
theorem omap_below {H : Type} {P : Program} {k : TypeId} {R : Value → Option (DataW H × List MemPlace)} {w w' : World} {b n : Nat} {D : DataW H} (h : w.ownsMap P k R b n D) (hb : Below w.heap.size w w') : w'.ownsMap P k R b n D := by
  have hlt := h.lt
  obtain ⟨es, clock, h1, h2⟩ := h
  exact ⟨es, clock, (hb.block b hlt).trans h1, h2⟩
theorem omap_same {H : Type} {P : Program} {k : TypeId} {R : Value → Option (DataW H × List MemPlace)} {w w' : World} {b n : Nat} {D : DataW H} (h : w.ownsMap P k R b n D) (hb : w'.heap[b]? = w.heap[b]?) : w'.ownsMap P k R b n D := by
  obtain ⟨es, clock, h1, h2⟩ := h
  exact ⟨es, clock, hb.trans h1, h2⟩
theorem omap_fit {H : Type} {P : Program} {k : TypeId} {R : Value → Option (DataW H × List MemPlace)} {w : World} {b n : Nat} {D : DataW H} (h : w.ownsMap P k R b n D) : w.ownsMap P k R b (Maps.size D) D := by
  obtain ⟨es, clock, h1, h2, h3, rfl⟩ := h
  refine ⟨es, clock, h1, h2, ?_, rfl⟩
  simp [Maps.size, length_sorted]

theorem keyed_int : Keyed Tryz.prog 3 := int_keyed Tryz.underlying3
theorem keyed_str : Keyed Tryz.prog 9 := string_keyed Tryz.underlying9
def In64 (f : Int) : Prop := -9223372036854775808 ≤ f ∧ f ≤ 9223372036854775807
theorem wf_in {f : Int} (h : In64 f) : (Lit.int .i64 f).wf = true := WalkArith.wf_i64 h
theorem key_int {f : Int} (h : In64 f) : keyOf Tryz.prog 3 (.int .i64 f) = some (.int .i64 f) := keyOf_int_mk Tryz.underlying3 (wf_in h)
theorem key_str {s : ByteArray} (h : s.size ≤ maxLen) : keyOf Tryz.prog 9 (.string s) = some (.string s.data.toList) := Go.WideMaps.keyOf_string_mk Tryz.underlying9 h

/-! ### The table of rules by their flags -/
/-- Six cells that read as a rule, its condition where Wb has it. -/
def RuOn (Wb w : World) (b o : Nat) (r : Ru) : Prop :=
  w.cell? ⟨b, o, none⟩ = some (.bool r.pre) ∧ w.cell? ⟨b, o + 1, none⟩ = some (.int .i64 r.flag) ∧ w.cell? ⟨b, o + 2, none⟩ = some (.bool r.cross) ∧ w.cell? ⟨b, o + 3, none⟩ = some (.string r.strip) ∧ w.cell? ⟨b, o + 4, none⟩ = some (.string r.add) ∧
    ∃ A cap, w.cell? ⟨b, o + 5, none⟩ = some (.slice A r.cond.length cap) ∧ ItemsAt Wb (.slice A r.cond.length cap) r.cond
/-- A slice that reads as these rules. -/
def RulesOn (Wb w : World) (v : Value) (rs : List Ru) : Prop :=
  (rs = [] ∧ ∃ a cap, v = .slice a 0 cap) ∨ ∃ b off cap, v = .slice (some ⟨b, off, none⟩) rs.length cap ∧ b < w.heap.size ∧ rs.length ≤ cap ∧ cap ≤ maxLen ∧ ∀ (i : Nat) r, rs[i]? = some r → RuOn Wb w b (off + i * 6) r
theorem RulesOn.sub {Wb w w' : World} {v : Value} {rs : List Ru} (h : RulesOn Wb w v rs) (hs : Sub w w') : RulesOn Wb w' v rs := by
  rcases h with h | ⟨b, off, cap, rfl, h1, h2, h3, h4⟩
  · exact .inl h
  · refine .inr ⟨b, off, cap, rfl, Nat.lt_of_lt_of_le h1 hs.1, h2, h3, fun i r hr => ?_⟩
    obtain ⟨k0, k1, k2, k3, k4, A, c, k5, k6⟩ := h4 i r hr
    exact ⟨hs.2 _ _ k0, hs.2 _ _ k1, hs.2 _ _ k2, hs.2 _ _ k3, hs.2 _ _ k4, A, c, hs.2 _ _ k5, k6⟩
/-- Block b is a table of these rules by their flags. -/
def TabAt (Wb w : World) (b : Nat) (rs : List Ru) : Prop :=
  ∃ (n : Nat) (D : DataW Value) (U : Int → Value), w.ownsMap Tryz.prog 3 heldR b n D ∧ (∀ f, D.atKey (.int .i64 f) (.held (.slice none 0 0)) = .held (U f)) ∧ ∀ f, RulesOn Wb w (U f) (rs.filter fun r => decide (r.flag = f))
theorem TabAt.on {Wb w w' : World} {b : Nat} {rs : List Ru} (h : TabAt Wb w b rs) (hs : Sub w w') (hb : w'.heap[b]? = w.heap[b]?) : TabAt Wb w' b rs := by
  obtain ⟨n, D, U, h1, h2, h3⟩ := h
  exact ⟨n, D, U, omap_same h1 hb, h2, fun f => (h3 f).sub hs⟩
theorem TabAt.lt {Wb w : World} {b : Nat} {rs : List Ru} (h : TabAt Wb w b rs) : b < w.heap.size := by
  obtain ⟨n, D, U, h1, _⟩ := h
  exact h1.lt
theorem TabAt.keep {Wb w w' : World} {b : Nat} {rs : List Ru} (h : TabAt Wb w b rs) (hb : Below w.heap.size w w') : TabAt Wb w' b rs := h.on (.of_below hb) (hb.block b h.lt)
end
section
open Go Go.RowKit Go.Lib

/-- A row's entries, their flags in blocks outside N. -/
def EnsRow (w : World) (xs : List Value) (es : List En) (N : Nat → Prop) : Prop :=
  ∀ (i : Nat) e, es[i]? = some e → xs[i * 2]? = some (.string e.word) ∧ ∃ A cap, xs[i * 2 + 1]? = some (.slice A e.flags.length cap) ∧ IntsAt w (.slice A e.flags.length cap) e.flags ∧ ∀ b, (Value.slice A e.flags.length cap).ownBlock = some b → b < w.heap.size ∧ ¬ N b
theorem EnsRow.still {w w' : World} {xs : List Value} {es : List En} {N N' : Nat → Prop} (h : EnsRow w xs es N) (hs : w.heap.size ≤ w'.heap.size) (hb : ∀ b, b < w.heap.size → ¬ N b → w'.heap[b]? = w.heap[b]?) (hN : ∀ b, b < w.heap.size → N' b → N b) : EnsRow w' xs es N' := by
  intro i e hi
  obtain ⟨h1, A, cap, h3, h4, h5⟩ := h i e hi
  exact ⟨h1, A, cap, h3, h4.still hs fun b hv hlt => hb b hlt (h5 b hv).2, fun b hv => ⟨Nat.lt_of_lt_of_le (h5 b hv).1 hs, fun hn => (h5 b hv).2 (hN b (h5 b hv).1 hn)⟩⟩
theorem EnsRow.snoc {w : World} {xs : List Value} {es : List En} {N : Nat → Prop} (h : EnsRow w xs es N) (hl : xs.length = es.length * 2) {e : En} {A : Option Addr} {cap : Nat} (hv : IntsAt w (.slice A e.flags.length cap) e.flags) (hb : ∀ b, (Value.slice A e.flags.length cap).ownBlock = some b → b < w.heap.size ∧ ¬ N b) : EnsRow w (xs ++ [.string e.word, .slice A e.flags.length cap]) (es ++ [e]) N := by
  intro i x hi
  rcases Nat.lt_or_ge i es.length with hlt | hge
  · rw [List.getElem?_append_left hlt] at hi
    obtain ⟨h1, B, c, h3, h4, h5⟩ := h i x hi
    exact ⟨by rw [List.getElem?_append_left (by omega)]; exact h1, B, c, by rw [List.getElem?_append_left (by omega)]; exact h3, h4, h5⟩
  · rw [List.getElem?_append_right hge] at hi
    have h0 : i - es.length = 0 := by
      have := (List.getElem?_eq_some_iff.1 hi).1
      simp at this; omega
    rw [h0] at hi
    obtain rfl : e = x := by simpa using hi
    obtain rfl : i = es.length := by omega
    refine ⟨?_, A, cap, ?_, hv, hb⟩
    · rw [List.getElem?_append_right (by omega), hl, Nat.sub_self]; rfl
    · rw [List.getElem?_append_right (by omega), hl, show es.length * 2 + 1 - es.length * 2 = 1 by omega]; rfl
structure EQ (w0 w : World) (v : Value) (xs : List Value) (es : List En) : Prop where
  row : w.ownsRow w0.heap.size 25 2 v es.length xs
  ents : EnsRow w xs es (fun b => v.ownBlock = some b)
  below : Below w0.heap.size w0 w
theorem EQ.start (w : World) : EQ w w (.slice none 0 0) [] [] := ⟨World.ownsRow_nil _ _ _ _, fun i e h => by simp at h, Below.refl _ _⟩
theorem EQ.keep {w0 w w' : World} {v : Value} {xs : List Value} {es : List En} (h : EQ w0 w v xs es) (hb : Below w.heap.size w w') : EQ w0 w' v xs es :=
  ⟨own_keep9 h.row hb, h.ents.still hb.size (fun b hlt _ => hb.block b hlt) (fun _ _ hn => hn), h.below.trans (hb.mono h.below.size)⟩
/-- An entry more. -/
theorem EQ.more {w0 w w' : World} {v v' : Value} {xs : List Value} {es : List En} {e : En} {A : Option Addr} {cap : Nat} (h : EQ w0 w v xs es)
    (hown : w'.ownsRow w0.heap.size 25 2 v' (es.length + 1) (xs ++ [.string e.word, .slice A e.flags.length cap])) (hgrow : w.grownBy w' v.ownBlock)
    (hwh : v'.ownBlock = v.ownBlock ∨ ∀ g, v'.ownBlock = some g → w.heap.size ≤ g) (hv : IntsAt w (.slice A e.flags.length cap) e.flags) (hb : ∀ b, (Value.slice A e.flags.length cap).ownBlock = some b → b < w.heap.size ∧ v.ownBlock ≠ some b) : EQ w0 w' v' (xs ++ [.string e.word, .slice A e.flags.length cap]) (es ++ [e]) := by
  have hlo : ∀ z, v.ownBlock = some z → w0.heap.size ≤ z := fun z hz => (h.row.lt z hz).1
  refine ⟨by rw [List.length_append]; exact hown, ?_, h.below.grown hgrow h.below.size hlo⟩
  have h1 : EnsRow w (xs ++ [.string e.word, .slice A e.flags.length cap]) (es ++ [e]) (fun b => v.ownBlock = some b) := h.ents.snoc h.row.1 hv fun b hvb => hb b hvb
  refine h1.still hgrow.size (fun b hlt hn => hgrow.block b hlt (fun e => hn e.symm)) (fun b hlt hn => ?_)
  rcases hwh with e | e
  · exact e ▸ hn
  · have := e b hn; omega
/-- A row of our own reads as entries. -/
theorem EQ.reads {w0 w : World} {v : Value} {xs : List Value} {es : List En} (h : EQ w0 w v xs es) : EntsAt w v es := by
  have hc := @World.ownsRow.cells _ _ _ _ _ _ _ h.row
  rcases h.row.2 with ⟨rfl, h0⟩ | ⟨g, cap, cur, rfl, hb, hg, hnc, hcm, _⟩
  · exact .inl ⟨List.eq_nil_of_length_eq_zero h0, _, _, rfl⟩
  · refine .inr ⟨g, 0, cap, rfl, (Array.getElem?_eq_some_iff.1 hg).1, hnc, hcm, fun i e hi => ?_⟩
    obtain ⟨h1, A, c, h3, h4, _⟩ := h.ents i e hi
    rw [Nat.zero_add]
    exact ⟨by rw [← add9]; exact hc (g := g) rfl _ _ h1, A, c, by rw [← add9]; exact hc (g := g) rfl _ _ h3, h4⟩
theorem en_one (W : ByteArray) (A : Option Addr) (n cp : Nat) : ∀ u ∈ [Value.string W, .slice A n cp], u.oneCell' = true := by
  intro u hu
  simp only [List.mem_cons, List.not_mem_nil, or_false] at hu
  rcases hu with rfl | rfl <;> rfl
theorem int_oneY (a : Int) : ∀ u ∈ [Value.int .i64 a], u.oneCell' = true := by
  intro u hu
  simp only [List.mem_cons, List.not_mem_nil, or_false] at hu
  subst hu; rfl
theorem Tryz.infosY25 : (Tryz.prog.info? 25).map (fun i => (i.zero, i.size, i.bytes)) = some (some (.agg #[.string ⟨#[]⟩, .slice none 0 0]), 2, 40) := by kernel_rfl
theorem Tryz.infosY3 : (Tryz.prog.info? 3).map (fun i => (i.zero, i.size, i.bytes)) = some (some (.int .i64 0), 1, 8) := by kernel_rfl
/-- What entry answers of a line: flags in a row of its own from B on. -/
def EntAns (B : Nat) (l : List UInt8) (e : Ending) (w' : World) : Prop :=
  ∃ W A n c b, e = .returned (.tuple #[.agg #[.string W, .slice A n c], .bool b]) ∧ b = (entryL l).isSome ∧ ∀ en, entryL l = some en → W = en.word ∧ n = en.flags.length ∧ w'.ownsRow B 3 1 (.slice A n c) n (en.flags.map (Value.int .i64))
theorem own_less {w : World} {B B' e s n : Nat} {v : Value} {xs : List Value} (h : w.ownsRow B e s v n xs) (hb : B' ≤ B) : w.ownsRow B' e s v n xs :=
  ⟨h.1, h.2.imp id fun ⟨g, cap, cur, h1, h2, h3⟩ => ⟨g, cap, cur, h1, Nat.le_trans hb h2, h3⟩⟩
theorem own_blk {w w' : World} {B e s n : Nat} {v : Value} {xs : List Value} (h : w.ownsRow B e s v n xs) (hb : ∀ g, v.ownBlock = some g → w'.heap[g]? = w.heap[g]?) : w'.ownsRow B e s v n xs := by
  refine ⟨h.1, ?_⟩
  rcases h.2 with h | ⟨g, cap, cur, h1, h2, h3, h4⟩
  · exact .inl h
  · subst h1
    exact .inr ⟨g, cap, cur, rfl, h2, (hb g rfl).trans h3, h4⟩
theorem set_other (w : World) (HA o : Nat) (v : Value) {k : Nat} (hk : k ≠ HA) : (w.setCell ⟨HA, o, none⟩ v).heap[k]? = w.heap[k]? := Below.heap_setCell _ _ _ _ hk
theorem set_size (w : World) (a : Addr) (v : Value) : (w.setCell a v).heap.size = w.heap.size := by simp [World.setCell]
theorem put2_below {B : Nat} {w w' : World} {H : Nat} (h : Below B w w') (hB : B ≤ H) (a b : Value) : Below B w ((w'.setCell ⟨H, 0, none⟩ a).setCell ⟨H, 1, none⟩ b) :=
  (h.setCell (p := ⟨H, 0, none⟩) hB _).setCell (p := ⟨H, 1, none⟩) hB _
/-- A row of numbers behind the box. -/
theorem own_put2 {w : World} {B H e s n : Nat} {v a b : Value} {xs : List Value} (h : w.ownsRow B e s v n xs) (hB : H < B) : ((w.setCell ⟨H, 0, none⟩ a).setCell ⟨H, 1, none⟩ b).ownsRow B e s v n xs :=
  own_blk h fun g hg => by
    have := (h.lt g hg).1
    exact (set_other _ _ _ _ (by omega)).trans (set_other _ _ _ _ (by omega))
/-- An entry more, its flags in a row of their own. -/
theorem EQ.push {w1 wr w2 w5 w6 : World} {v v' : Value} {xs : List Value} {es : List En} {e : En} {W : ByteArray} {A : Option Addr} {n c : Nat} (h : EQ w1 wr v xs es) (hb : Below wr.heap.size wr w2) (hW : W = e.word) (hn : n = e.flags.length)
    (hr : w2.ownsRow wr.heap.size 3 1 (.slice A n c) n (e.flags.map (Value.int .i64))) (hb5 : Below w2.heap.size w2 w5)
    (hown : w6.ownsRow w1.heap.size 25 2 v' (es.length + 1) (xs ++ [.string W, .slice A n c])) (hgrow : w5.grownBy w6 v.ownBlock)
    (hwh : v'.ownBlock = v.ownBlock ∨ ∀ g, v'.ownBlock = some g → w5.heap.size ≤ g) : EQ w1 w6 v' (xs ++ [.string W, .slice A n c]) (es ++ [e]) := by
  subst hW hn
  refine ((h.keep hb).keep hb5).more hown hgrow hwh (ints_own (own_keep9 hr hb5)) fun b hbb => ?_
  have h1 := hr.lt b hbb
  refine ⟨Nat.lt_of_lt_of_le h1.2 hb5.size, fun e => ?_⟩
  have := (h.row.lt b e).2
  omega
theorem EntAns.no {B : Nat} {l : List UInt8} {w' : World} {W : ByteArray} {A : Option Addr} {n c : Nat} (h : entryL l = none) : EntAns B l (.returned (.tuple #[.agg #[.string W, .slice A n c], .bool false])) w' :=
  ⟨W, A, n, c, false, rfl, by rw [h]; rfl, fun en he => by rw [h] at he; cases he⟩
theorem EntAns.yes {B : Nat} {l : List UInt8} {w' : World} {en : En} {A : Option Addr} {c : Nat} (h : entryL l = some en) (hr : w'.ownsRow B 3 1 (.slice A en.flags.length c) en.flags.length (en.flags.map (Value.int .i64))) : EntAns B l (.returned (.tuple #[.agg #[.string en.word, .slice A en.flags.length c], .bool true])) w' :=
  ⟨en.word, A, _, c, true, rfl, by rw [h]; rfl, fun e he => by rw [h] at he; obtain rfl := Option.some.inj he; exact ⟨rfl, rfl, hr⟩⟩
theorem own_shape {w : World} {B e s n : Nat} {v : Value} {xs : List Value} (h : w.ownsRow B e s v n xs) : ∃ A cap, v = .slice A n cap := by
  rcases h.2 with ⟨rfl, rfl⟩ | ⟨g, cap, cur, rfl, _⟩
  · exact ⟨_, _, rfl⟩
  · exact ⟨_, _, rfl⟩
theorem put2_cell {w : World} {H HB o : Nat} {a b : Value} (h : HB ≠ H) : ((w.setCell ⟨H, 0, none⟩ a).setCell ⟨H, 1, none⟩ b).cell? ⟨HB, o, none⟩ = w.cell? ⟨HB, o, none⟩ := by
  unfold World.cell?
  show (match ((w.setCell ⟨H, 0, none⟩ a).setCell ⟨H, 1, none⟩ b).heap[HB]? with | _ => _) = _
  rw [set_other _ _ _ _ h, set_other _ _ _ _ h]
/-- A box of two cells. -/
theorem ebox2 {w w' : World} {a b : Value} {t : TypeId} (hb : Below (w.alloc (.cells #[a, b] t)).heap.size (w.alloc (.cells #[a, b] t)) w') :
    w'.cell? ⟨w.heap.size, 0, none⟩ = some a ∧ w'.cell? ⟨w.heap.size, 1, none⟩ = some b ∧ ∀ o, w'.frozen? ⟨w.heap.size, o, none⟩ = false := by
  have h : w'.heap[w.heap.size]? = some (.cells #[a, b] t (0, 0)) := (hb.block w.heap.size (by rw [World.size_alloc]; omega)).trans (World.alloc_heap_new w _)
  refine ⟨?_, ?_, fun o => ?_⟩ <;> simp [World.cell?, World.frozen?, h]
end
end Go.Proofs.YtcbmfkgekhadkaaGreatDoor
