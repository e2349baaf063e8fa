/- A range over a function whose body may leave: what the iterator may write (T), what the rounds keep (R and T); in whatever order it hands over. -/
import Derived.Test.YtkabdieenijnlaaSGives
namespace Go.Proofs.Ytkabdieenijnlaa
open Go Go.RowKit

/-- **The contract of an iterator whose rounds may say 'no more'.** Adm: what it may hand over next; S: what is said of all that has come; R: what it reads; T: what it has laid and still wants. -/
def Stops {α : Type} (P : Program) (g : Nat) (lb : Array Value) (encs : α → Array Value) (Adm : List α → α → Prop) (S : List α → Prop) (R : Nat → Prop) (W : World) : Prop :=
  ∀ (l : Nat) (J Jx : (Nat → Prop) → List α → World → Prop), Stab J → Stab Jx →
    (∀ T pre x W1, Adm pre x → J T pre W1 → YieldAt Fence.wide 0 P l (encs x) W1 fun e W2 =>
      ((e = .returned (.bool true) ∧ J T (pre ++ [x]) W2) ∨ (e = .returned (.bool false) ∧ Jx T (pre ++ [x]) W2)) ∧ KeepsAt (fun k => R k ∨ T k) W1 W2) →
    J (fun _ => False) [] W →
    Calls P g (#[.func (.yield l) #[] #[]] ++ lb) W fun e W' => (∃ v, e = .returned v) ∧ ∃ T xs, (S xs ∧ J T xs W') ∨ Jx T xs W'

/-- What a round's body owes at its end. -/
def stopPost {α : Type} (I : (Nat → Prop) → List α → World → Prop) (Ix : Code → (Nat → Prop) → List α → World → Prop) (R T : Nat → Prop) (xs : List α) (W : World) : Exit → Act → World → Prop
  | .normal, _, W' => I T xs W' ∧ KeepsAt (fun k => R k ∨ T k) W W'
  | .ret, _, W' => Ix .ret T xs W' ∧ KeepsAt (fun k => R k ∨ T k) W W'
  | .exit id, _, W' => Ix (.exit id) T xs W' ∧ KeepsAt (fun k => R k ∨ T k) W W'
  | .goto t, _, W' => Ix (.goto t) T xs W' ∧ KeepsAt (fun k => R k ∨ T k) W W'
  | _, _, _ => False

variable {P : Program} {n : Nat}

/-- **'for .. := range g': out of g's contract, the body walked once.** -/
theorem wpIn_stops {α : Type} {g : Operand} {ps : Array Tmp} {assign body : Code} {Q : Exit → Act → World → Prop} {a : Act} {w : World}
    {gf : Nat} {lb : Array Value} (hg : a.eval g = .func (.func gf) #[] lb) (eg : ∀ args w, (callFunc gf args).run P w = .ok (.enter gf args) w) (h1 : 1 ≤ n)
    {encs : α → Array Value} {Adm : List α → α → Prop} {S : List α → Prop} {R : Nat → Prop} (hseq : ∀ W1, OnlyAt (fun _ => False) w W1 → Stops P gf lb encs Adm S R W1) (hps : ∀ x, (encs x).size = ps.size) (hR : ∀ k, R k → k < w.heap.size)
    (I : (Nat → Prop) → List α → World → Prop) (hI : Stab I) (Ix : Code → (Nat → Prop) → List α → World → Prop) (hIx : ∀ c, Stab (Ix c)) (h0 : I (fun _ => False) [] w)
    (Ax : (Nat → Prop) → List α → α → Act → World → Prop) (hAx : ∀ pre x a', Stab (fun T (_ : Unit) W => Ax T pre x a' W))
    (hassign : ∀ (l : Nat) (T : Nat → Prop) (pre : List α) (x : α) (W : World) (K : Act → World → Prop), Adm pre x → I T pre W → (∀ k, T k → k < W.heap.size) →
      (∀ a' W', OnlyAt (fun _ => False) W W' → Ax T pre x a' W' → K a' W') →
      assign.wpIn (Fence.wide.inRound l) n P (Exit.then K (fun _ _ _ => False)) { tmps := (ps.zip (encs x)).foldl (fun t (p, v) => t.setIfInBounds p v) a.tmps, defers := [] } W)
    (hbody : ∀ (l : Nat) (T : Nat → Prop) (pre : List α) (x : α) (a' : Act) (W : World), Adm pre x → Ax T pre x a' W → (∀ k, T k → k < W.heap.size) →
      body.wpIn (Fence.wide.inRound l) n P (stopPost I Ix R T (pre ++ [x]) W) a' W)
    (hdone : ∀ (D : Nat) (T : Nat → Prop) (xs : List α) (W : World), w.heap.size ≤ D → T D → S xs → I T xs W → W.heap[D]? = some (.deferred (some [])) → Q .normal { a with defers := { target := .collected D, args := #[] } :: a.defers } W)
    (hstop : ∀ (D : Nat) (T : Nat → Prop) (c : Code) (xs : List α) (W : World), w.heap.size ≤ D → T D → Ix c T xs W → W.heap[D]? = some (.deferred (some [])) → c.wpIn Fence.wide n P Q { a with defers := { target := .collected D, args := #[] } :: a.defers } W) :
    (Code.rangeFunc g ps assign body).wpIn Fence.wide n P Q a w := by
  refine wpIn_rangeFunc ?_
  intro fn hfn
  rw [show Fence.wide.round = none from rfl]
  obtain ⟨rec, hrec⟩ : ∃ rec : LoopState → Option Code → Loop, rec = fun st pe => { state := st, pending := pe, fn, tmps := a.tmps, params := ps, assign, body, defers := w.heap.size } := ⟨_, rfl⟩
  obtain ⟨W1, hW1⟩ : ∃ W1, (w.alloc (.deferred (some []))).alloc (.loop (rec .ready none)) = W1 := ⟨_, rfl⟩
  obtain ⟨D, hD⟩ : ∃ D, D = w.heap.size := ⟨_, rfl⟩
  obtain ⟨l, hl⟩ : ∃ l, l = w.heap.size + 1 := ⟨_, rfl⟩
  have hDl : D ≠ l := by omega
  have hs1 : W1.heap.size = w.heap.size + 2 := by rw [← hW1]; simp
  have hL1 : W1.heap[l]? = some (.loop (rec .ready none)) := by
    rw [← hW1, hl]; have := World.alloc_heap_new (w.alloc (.deferred (some []))) (.loop (rec .ready none)); rwa [World.size_alloc] at this
  have hK1 : W1.heap[D]? = some (.deferred (some [])) := by
    rw [← hW1, hD]; exact (Below.heap_alloc _ _ _ (by simp)).trans (World.alloc_heap_new w _)
  have ho1 : OnlyAt (fun _ => False) w W1 := by rw [← hW1]; exact (OnlyAt.alloc _ _ _).trans (OnlyAt.alloc _ _ _)
  -- whatever speaks of the loop's two blocks bears the iterator's own steps
  have book : ∀ (o : Obj) (I0 : (Nat → Prop) → List α → World → Prop), Stab I0 → Stab (fun T pre W => I0 (fun k => T k ∨ k = D ∨ k = l) pre W ∧ (W.heap[l]? = some o ∧ W.heap[D]? = some (.deferred (some []))) ∧ (¬ T l ∧ ¬ T D) ∧ ∀ k, T k → k < W.heap.size) := by
    rintro o I0 hI0 T T' s A B ⟨hi, ⟨hl', hk'⟩, ⟨hnl, hnd⟩, hlt⟩ ho ht
    have hlA : l < A.heap.size := (Array.getElem?_eq_some_iff.1 hl').1
    have hDA : D < A.heap.size := (Array.getElem?_eq_some_iff.1 hk').1
    refine ⟨hI0 _ _ s A B hi (ho.mono (fun k h => .inl h)) ?_, ⟨(ho.block _ hlA hnl).trans hl', (ho.block _ hDA hnd).trans hk'⟩, ⟨fun h => ?_, fun h => ?_⟩, fun k hk => ?_⟩
    · rintro k (hk | hk)
      · rcases ht k hk with h | h
        · exact .inl (.inl h)
        · exact .inr h
      · exact .inl (.inr hk)
    · rcases ht _ h with h | h
      · exact hnl h
      · omega
    · rcases ht _ h with h | h
      · exact hnd h
      · omega
    · rcases ht k hk with h | h
      · have := hlt k h; have := ho.size; omega
      · exact h.2
  refine ⟨l, [{ target := .collected D, args := #[] }], W1, { target := .fn (.func gf) lb, args := #[.func (.yield l) #[] #[]] }, W1, gf,
    #[.func (.yield l) #[] #[]] ++ lb, W1, ?_, ?_, ?_, ?_, fun _ => h1, ?_⟩
  · rw [← hW1, hrec, hl, hD]; exact run_enterLoop_outer _ _ _ _ _
  · simp only [resolve, hg]
    simp [go_sem]
  · intro f' _; trivial
  · simp [invoke, go_sem, eg]
  · refine callsIn_wide.2 ?_
    refine (hseq W1 ho1 l (fun T pre W => I (fun k => T k ∨ k = D ∨ k = l) pre W ∧ (W.heap[l]? = some (.loop (rec .ready none)) ∧ W.heap[D]? = some (.deferred (some []))) ∧ (¬ T l ∧ ¬ T D) ∧ ∀ k, T k → k < W.heap.size)
      (fun T pre W => ∃ c, Ix c (fun k => T k ∨ k = D ∨ k = l) pre W ∧ (W.heap[l]? = some (.loop (rec .done (some c))) ∧ W.heap[D]? = some (.deferred (some []))) ∧ (¬ T l ∧ ¬ T D) ∧ ∀ k, T k → k < W.heap.size)
      (book _ I hI) ?_ ?_ ?_).mono ?_
    · rintro T T' s A B ⟨c, hc⟩ ho ht
      exact ⟨c, book _ (Ix c) (hIx c) T T' s A B hc ho ht⟩
    · -- one round
      rintro T pre x W hadm ⟨hi, ⟨hl', hk'⟩, ⟨hnl, hnd⟩, hlt⟩
      have hlW : l < W.heap.size := (Array.getElem?_eq_some_iff.1 hl').1
      have hDW : D < W.heap.size := (Array.getElem?_eq_some_iff.1 hk').1
      have hTW : ∀ k, (T k ∨ k = D ∨ k = l) → k < W.heap.size := by
        rintro k (hk | rfl | rfl)
        · exact hlt k hk
        · exact hDW
        · exact hlW
      have hy := run_yield (P := P) (args := encs x) hl' (by rw [hrec]; exact hps x)
      rw [hrec] at hy
      refine ⟨fn, _, assign, body, hy, RoundIn.wideOut (n := n) (roundIn_of_wpIn hfn (hassign l _ pre x W _ hadm hi hTW ?_))⟩
      clear hy
      intro a' Wa hoa hax
      have hla : Wa.heap[l]? = some (.loop (rec .ready none)) := (hoa.block _ hlW id).trans hl'
      have hka : Wa.heap[D]? = some (.deferred (some [])) := (hoa.block _ hDW id).trans hk'
      have hlWa : l < Wa.heap.size := (Array.getElem?_eq_some_iff.1 hla).1
      refine ⟨_, run_beginRound hla (by rw [hrec]), ?_⟩
      have hob : OnlyAt (fun k => T k ∨ k = D ∨ k = l) Wa (Wa.putObj l (.loop { rec .ready none with state := .busy })) := OnlyAt.putObj _ _ _ (.inr (.inr rfl))
      have hlb : (Wa.putObj l (.loop { rec .ready none with state := .busy })).heap[l]? = some (.loop { rec .ready none with state := .busy }) := World.putObj_heap_same hlWa
      have hkb : (Wa.putObj l (.loop { rec .ready none with state := .busy })).heap[D]? = some (.deferred (some [])) := (World.putObj_heap_other hDl).trans hka
      have hlb' := (Array.getElem?_eq_some_iff.1 hlb).1
      have hkb' := (Array.getElem?_eq_some_iff.1 hkb).1
      -- a round's end: off the body's end, or by a jump
      have fin : ∀ (jump : Option Code) (W3 : World), KeepsAt (fun k => R k ∨ T k ∨ k = D ∨ k = l) (Wa.putObj l (.loop { rec .ready none with state := .busy })) W3 →
          ∃ W4, (Instr.endRound l jump).run P W3 = .ok (.bool jump.isNone) W4 ∧ OnlyAt (fun k => T k ∨ k = D ∨ k = l) W3 W4 ∧ W4.heap[l]? = some (.loop (rec (if jump.isNone then .ready else .done) jump)) ∧ W4.heap[D]? = some (.deferred (some [])) ∧
            (∀ k, T k → k < W4.heap.size) ∧ KeepsAt (fun k => R k ∨ T k) W W4 := by
        intro jump W3 hk3
        have hl3 : W3.heap[l]? = some (.loop { rec .ready none with state := .busy }) := (hk3.block _ hlb' (.inr (.inr (.inr rfl)))).trans hlb
        have hd3 : W3.heap[D]? = some (.deferred (some [])) := (hk3.block _ hkb' (.inr (.inr (.inl rfl)))).trans hkb
        have hl3' := (Array.getElem?_eq_some_iff.1 hl3).1
        have hr := run_endRound (P := P) jump hl3
        rw [hrec] at hr
        have hoe : OnlyAt (fun k => T k ∨ k = D ∨ k = l) W3 (W3.putObj l (.loop (rec (if jump.isNone then .ready else .done) jump))) := OnlyAt.putObj _ _ _ (.inr (.inr rfl))
        refine ⟨_, hr, ?_⟩
        rw [hrec] at hoe
        have hsz := Nat.le_trans hoa.size (Nat.le_trans hob.size (Nat.le_trans hk3.size hoe.size))
        refine ⟨hoe, ?_, (World.putObj_heap_other hDl).trans hd3, fun k hk => Nat.lt_of_lt_of_le (hlt k hk) hsz, hsz, fun k hk hrt => ?_⟩
        · rw [hrec]; exact World.putObj_heap_same hl3'
        · have hkl : k ≠ l := by
            rintro rfl
            rcases hrt with h | h
            · have := hR _ h; omega
            · exact hnl h
          refine (World.putObj_heap_other hkl).trans ((hk3.block k ?_ ?_).trans ((World.putObj_heap_other hkl).trans (hoa.block k hk id)))
          · exact Nat.lt_of_lt_of_le hk (Nat.le_trans hoa.size hob.size)
          · rcases hrt with h | h
            · exact .inl h
            · exact .inr (.inl h)
      refine wpIn_mono (hbody l _ pre x a' _ hadm ((hAx pre x a').same (s := ()) hax hob) (fun k hk => Nat.lt_of_lt_of_le (hTW k hk) (Nat.le_trans hoa.size hob.size))) ?_
      rintro e a3 W3 hp
      cases e with
      | normal =>
        obtain ⟨hi3, hk3⟩ := hp
        obtain ⟨W4, hr, hoe, hl4, hd4, hlt4, hk4⟩ := fin none W3 hk3
        exact ⟨_, _, hr, .inl ⟨rfl, hI.same hi3 hoe, ⟨hl4, hd4⟩, ⟨hnl, hnd⟩, hlt4⟩, hk4⟩
      | ret =>
        obtain ⟨hi3, hk3⟩ := hp
        obtain ⟨W4, hr, hoe, hl4, hd4, hlt4, hk4⟩ := fin (some .ret) W3 hk3
        exact ⟨_, _, hr, .inr ⟨rfl, .ret, (hIx _).same hi3 hoe, ⟨hl4, hd4⟩, ⟨hnl, hnd⟩, hlt4⟩, hk4⟩
      | exit id =>
        obtain ⟨hi3, hk3⟩ := hp
        obtain ⟨W4, hr, hoe, hl4, hd4, hlt4, hk4⟩ := fin (some (.exit id)) W3 hk3
        exact ⟨_, _, hr, .inr ⟨rfl, .exit id, (hIx _).same hi3 hoe, ⟨hl4, hd4⟩, ⟨hnl, hnd⟩, hlt4⟩, hk4⟩
      | goto t =>
        obtain ⟨hi3, hk3⟩ := hp
        obtain ⟨W4, hr, hoe, hl4, hd4, hlt4, hk4⟩ := fin (some (.goto t)) W3 hk3
        exact ⟨_, _, hr, .inr ⟨rfl, .goto t, (hIx _).same hi3 hoe, ⟨hl4, hd4⟩, ⟨hnl, hnd⟩, hlt4⟩, hk4⟩
      | panic ch => exact hp.elim
      | outgrown => exact hp.elim
    · refine ⟨hI _ _ [] w W1 h0 ho1 ?_, ⟨hL1, hK1⟩, ⟨id, id⟩, fun _ h => h.elim⟩
      rintro k (h | rfl | rfl)
      · exact h.elim
      · right; omega
      · right; omega
    · -- behind the iterator
      rintro e W2 ⟨⟨v, rfl⟩, T, xs, ⟨hS, hi, ⟨hl', hk'⟩, -, -⟩ | ⟨c, hi, ⟨hl', hk'⟩, -, -⟩⟩
      · refine ⟨none, _, by have := run_endLoop (P := P) hl' (by rw [hrec]; simp); rw [hrec] at this; exact this, ?_⟩
        exact hdone D _ _ _ (by omega) (.inr (.inl rfl)) hS (hI.same hi (OnlyAt.putObj _ _ _ (.inr (.inr rfl)))) ((World.putObj_heap_other hDl).trans hk')
      · refine ⟨some c, _, by have := run_endLoop (P := P) hl' (by rw [hrec]; simp); rw [hrec] at this; exact this, ?_⟩
        exact hstop D _ c _ _ (by omega) (.inr (.inl rfl)) ((hIx c).same hi (OnlyAt.putObj _ _ _ (.inr (.inr rfl)))) ((World.putObj_heap_other hDl).trans hk')
end Go.Proofs.Ytkabdieenijnlaa
