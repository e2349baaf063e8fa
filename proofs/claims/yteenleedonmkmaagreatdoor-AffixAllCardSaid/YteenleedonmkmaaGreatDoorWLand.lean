/- What the landed reader of affix files has in memory: its file, rows of rules and pairs that grow behind it. -/
import Derived.Test.YteenleedonmkmaaGreatDoorVState
import Derived.Test.YteenleedonmkmaaGreatDoorMPlain
namespace Go.Proofs.YteenleedonmkmaaGreatDoor
open Go Go.RowKit Go.Lib

/-- A file at HA, rows of rules and pairs behind it. -/
structure LQ (w0 wr : World) (HA : Nat) (F : Nat → Prop) (rv pv : Value) (xs : List Value) (d : Rd) (k m : Int) : Prop where
  box : wr.heap[HA]? = some (.cells #[rv, pv, .int .i64 k, .int .i64 (d.bad : Nat), .int .i64 m] 41 (0, 0))
  rrow : wr.ownsRow (HA + 1) 36 6 rv d.rules.length xs
  rules : RulesIn F wr xs d.rules
  prow : wr.ownsRow (HA + 1) 48 2 pv d.pairs.length (pCells d.pairs)
  foot : ∀ b, F b → HA < b ∧ b < wr.heap.size ∧ rv.ownBlock ≠ some b ∧ pv.ownBlock ≠ some b
  base : w0.heap.size ≤ HA
  below : Below w0.heap.size w0 wr
theorem LQ.keep {w0 w w' : World} {HA : Nat} {F : Nat → Prop} {rv pv : Value} {xs : List Value} {d : Rd} {k m : Int} (h : LQ w0 w HA F rv pv xs d k m) (hb : Below w.heap.size w w') : LQ w0 w' HA F rv pv xs d k m :=
  ⟨(hb.block HA (Array.getElem?_eq_some_iff.1 h.box).1).trans h.box, own_keep9 h.rrow hb, h.rules.still hb.size fun b _ hlt => hb.block b hlt, own_keep9 h.prow hb,
    fun b hF => by obtain ⟨h1, h2, h3⟩ := h.foot b hF; exact ⟨h1, Nat.lt_of_lt_of_le h2 hb.size, h3⟩, h.base, h.below.trans (hb.mono h.below.size)⟩
theorem LQ.hi {w0 w : World} {HA : Nat} {F : Nat → Prop} {rv pv : Value} {xs : List Value} {d : Rd} {k m : Int} (h : LQ w0 w HA F rv pv xs d k m) : HA + 1 ≤ w.heap.size := (Array.getElem?_eq_some_iff.1 h.box).1
theorem LQ.boxc {w0 w : World} {HA : Nat} {F : Nat → Prop} {rv pv : Value} {xs : List Value} {d : Rd} {k m : Int} (h : LQ w0 w HA F rv pv xs d k m) :
    w.cell? ⟨HA, 0, none⟩ = some rv ∧ w.cell? ⟨HA, 1, none⟩ = some pv ∧ w.cell? ⟨HA, 2, none⟩ = some (.int .i64 k) ∧ w.cell? ⟨HA, 3, none⟩ = some (.int .i64 (d.bad : Nat)) ∧ w.cell? ⟨HA, 4, none⟩ = some (.int .i64 m) ∧ ∀ o, w.frozen? ⟨HA, o, none⟩ = false := by
  refine ⟨?_, ?_, ?_, ?_, ?_, fun o => ?_⟩ <;> simp [World.cell?, World.frozen?, h.box]
/-- A number of the file is written. -/
theorem LQ.put {w0 w : World} {HA : Nat} {F : Nat → Prop} {rv pv : Value} {xs : List Value} {d : Rd} {k m : Int} (h : LQ w0 w HA F rv pv xs d k m) {o : Nat} {v : Value} {k' m' : Int} {b : Nat}
    (hb : (w.setCell ⟨HA, o, none⟩ v).heap[HA]? = some (.cells #[rv, pv, .int .i64 k', .int .i64 (b : Nat), .int .i64 m'] 41 (0, 0))) :
    LQ w0 (w.setCell ⟨HA, o, none⟩ v) HA F rv pv xs { d with bad := b } k' m' := by
  refine ⟨hb, own_blk h.rrow fun g hg => set_other _ _ _ _ ?_, h.rules.still (by rw [set_size]; exact Nat.le_refl _) fun b hF _ => set_other _ _ _ _ ?_, own_blk h.prow fun g hg => set_other _ _ _ _ ?_, fun b hF => by rw [set_size]; exact h.foot b hF, h.base, h.below.setCell (p := ⟨HA, o, none⟩) h.base _⟩
  · have := (h.rrow.lt g hg).1; omega
  · have := (h.foot b hF).1; omega
  · have := (h.prow.lt g hg).1; omega
theorem LQ.lines {w0 w : World} {HA : Nat} {F : Nat → Prop} {rv pv : Value} {xs : List Value} {d : Rd} {k m : Int} (h : LQ w0 w HA F rv pv xs d k m) (k' : Int) :
    LQ w0 (w.setCell ⟨HA, 2, none⟩ (.int .i64 k')) HA F rv pv xs d k' m := h.put (b := d.bad) (by simp [World.setCell, Array.getElem?_modify, h.box])
theorem LQ.bad {w0 w : World} {HA : Nat} {F : Nat → Prop} {rv pv : Value} {xs : List Value} {d : Rd} {k m : Int} (h : LQ w0 w HA F rv pv xs d k m) (b : Nat) :
    LQ w0 (w.setCell ⟨HA, 3, none⟩ (.int .i64 b)) HA F rv pv xs { d with bad := b } k m := h.put (b := b) (by simp [World.setCell, Array.getElem?_modify, h.box])
theorem LQ.mixed {w0 w : World} {HA : Nat} {F : Nat → Prop} {rv pv : Value} {xs : List Value} {d : Rd} {k m : Int} (h : LQ w0 w HA F rv pv xs d k m) (m' : Int) :
    LQ w0 (w.setCell ⟨HA, 4, none⟩ (.int .i64 m')) HA F rv pv xs d k m' := h.put (b := d.bad) (by simp [World.setCell, Array.getElem?_modify, h.box])
/-- A pair more. -/
theorem LQ.pair {w0 w w4 : World} {HA : Nat} {F : Nat → Prop} {rv pv pv' : Value} {xs : List Value} {d : Rd} {k m : Int} {p : Int × Int} (h : LQ w0 w HA F rv pv xs d k m)
    (hown : w4.ownsRow (HA + 1) 48 2 pv' (d.pairs.length + 1) (pCells d.pairs ++ [.int .i64 p.1, .int .i64 p.2])) (hg : w.grownBy w4 pv.ownBlock) (hw : Grew w pv pv') :
    LQ w0 (w4.setCell ⟨HA, 1, none⟩ pv') HA F rv pv' xs { d with pairs := d.pairs ++ [p] } k m := by
  have hHA := (Array.getElem?_eq_some_iff.1 h.box).1
  have pb : ∀ g, pv.ownBlock = some g → HA + 1 ≤ g ∧ g < w.heap.size := h.prow.lt
  have key : ∀ k, k < w.heap.size → k ≠ HA → some k ≠ pv.ownBlock → (w4.setCell ⟨HA, 1, none⟩ pv').heap[k]? = w.heap[k]? := fun k hk hne hp => (set_other _ _ _ _ hne).trans (hg.block k hk hp)
  have hbox4 : w4.heap[HA]? = some (.cells #[rv, pv, .int .i64 k, .int .i64 (d.bad : Nat), .int .i64 m] 41 (0, 0)) := (hg.block HA hHA (fun e => by have := (pb HA e.symm).1; omega)).trans h.box
  refine ⟨by simp [World.setCell, Array.getElem?_modify, hbox4], own_blk h.rrow fun g hgr => ?_, ?_, ?_, fun b hF => ?_, h.base, ?_⟩
  · have hlt := h.rrow.lt g hgr
    exact key g hlt.2 (by omega) (fun e => own_types h.rrow h.prow (by decide) g hgr e.symm)
  · refine h.rules.still (by rw [set_size]; exact hg.size) fun b hF hlt => ?_
    obtain ⟨f1, _, _, f4⟩ := h.foot b hF
    exact key b hlt (by omega) (fun e => f4 e.symm)
  · have e1 : pCells (d.pairs ++ [p]) = pCells d.pairs ++ [.int .i64 p.1, .int .i64 p.2] := by simp [pCells]
    have e2 : (d.pairs ++ [p]).length = d.pairs.length + 1 := by simp
    show World.ownsRow _ _ _ _ _ (d.pairs ++ [p]).length (pCells (d.pairs ++ [p]))
    rw [e1, e2]
    refine own_blk hown fun g hgp => set_other _ _ _ _ ?_
    have := (hown.lt g hgp).1
    omega
  · obtain ⟨f1, f2, f3, f4⟩ := h.foot b hF
    refine ⟨f1, by rw [set_size]; exact Nat.lt_of_lt_of_le f2 hg.size, f3, fun e => ?_⟩
    rcases hw with hw | hw
    · exact f4 (hw ▸ e)
    · have := hw b e; omega
  · exact (h.below.grown hg h.below.size (fun k hk => by have := (pb k hk).1; have := h.base; omega)).setCell (p := ⟨HA, 1, none⟩) h.base _
/-- A rule more. -/
theorem LQ.rule {w0 w w4 : World} {HA : Nat} {F : Nat → Prop} {rv pv rv' : Value} {xs : List Value} {d : Rd} {k m : Int} {r : Ru} {A : Option Addr} {cap n : Nat} (h : LQ w0 w HA F rv pv xs d k m) (hi : ItemsIn F w (.slice A r.cond.length cap) r.cond)
    (hown : w4.ownsRow (HA + 1) 36 6 rv' (d.rules.length + 1) (xs ++ [.bool r.pre, .int .i64 r.flag, .bool r.cross, .string r.strip, .string r.add, .slice A r.cond.length cap])) (hg : w.grownBy w4 rv.ownBlock) (hw : Grew w rv rv') :
    LQ w0 (w4.setCell ⟨HA, 0, none⟩ rv') HA F rv' pv (xs ++ [.bool r.pre, .int .i64 r.flag, .bool r.cross, .string r.strip, .string r.add, .slice A r.cond.length cap]) { d with rules := d.rules ++ [r], at_ := d.at_ ++ [n] } k m := by
  have hHA := (Array.getElem?_eq_some_iff.1 h.box).1
  have rb : ∀ g, rv.ownBlock = some g → HA + 1 ≤ g ∧ g < w.heap.size := h.rrow.lt
  have key : ∀ k, k < w.heap.size → k ≠ HA → some k ≠ rv.ownBlock → (w4.setCell ⟨HA, 0, none⟩ rv').heap[k]? = w.heap[k]? := fun k hk hne hp => (set_other _ _ _ _ hne).trans (hg.block k hk hp)
  have hbox4 : w4.heap[HA]? = some (.cells #[rv, pv, .int .i64 k, .int .i64 (d.bad : Nat), .int .i64 m] 41 (0, 0)) := (hg.block HA hHA (fun e => by have := (rb HA e.symm).1; omega)).trans h.box
  have hstill : ∀ b, F b → b < w.heap.size → (w4.setCell ⟨HA, 0, none⟩ rv').heap[b]? = w.heap[b]? := fun b hF hlt => by
    obtain ⟨f1, _, f3, _⟩ := h.foot b hF
    exact key b hlt (by omega) (fun e => f3 e.symm)
  refine ⟨by simp [World.setCell, Array.getElem?_modify, hbox4], ?_, ?_, own_blk h.prow fun g hgp => ?_, fun b hF => ?_, h.base, ?_⟩
  · have e2 : (d.rules ++ [r]).length = d.rules.length + 1 := by simp
    show World.ownsRow _ _ _ _ _ (d.rules ++ [r]).length _
    rw [e2]
    refine own_blk hown fun g hgr => set_other _ _ _ _ ?_
    have := (hown.lt g hgr).1
    omega
  · exact (h.rules.snoc hi).still (by rw [set_size]; exact hg.size) hstill
  · have hlt := h.prow.lt g hgp
    exact key g hlt.2 (by omega) (fun e => own_types h.prow h.rrow (by decide) g hgp e.symm)
  · obtain ⟨f1, f2, f3, f4⟩ := h.foot b hF
    refine ⟨f1, by rw [set_size]; exact Nat.lt_of_lt_of_le f2 hg.size, fun e => ?_, f4⟩
    rcases hw with hw | hw
    · exact f3 (hw ▸ e)
    · have := hw b e; omega
  · exact (h.below.grown hg h.below.size (fun k hk => by have := (rb k hk).1; have := h.base; omega)).setCell (p := ⟨HA, 0, none⟩) h.base _
/-- What is in new blocks joins F. -/
theorem LQ.wide {w0 w w' : World} {HA : Nat} {F : Nat → Prop} {rv pv : Value} {xs : List Value} {d : Rd} {k m : Int} (h : LQ w0 w HA F rv pv xs d k m) (hb : Below w.heap.size w w') :
    LQ w0 w' HA (fun b => F b ∨ (w.heap.size ≤ b ∧ b < w'.heap.size)) rv pv xs d k m := by
  have hk := h.keep hb
  have hHA := (Array.getElem?_eq_some_iff.1 h.box).1
  refine ⟨hk.box, hk.rrow, hk.rules.mono fun b hF => .inl hF, hk.prow, fun b hF => ?_, hk.base, hk.below⟩
  rcases hF with hF | ⟨h1, h2⟩
  · exact hk.foot b hF
  · refine ⟨by omega, h2, fun e => ?_, fun e => ?_⟩
    · have := (h.rrow.lt b e).2; omega
    · have := (h.prow.lt b e).2; omega
/-- What the file holds reads as an affix file. -/
theorem LQ.reads {w0 w : World} {HA : Nat} {F : Nat → Prop} {rv pv : Value} {xs : List Value} {d : Rd} {k m : Int} (h : LQ w0 w HA F rv pv xs d k m) : AffAt w (.agg #[rv, pv]) ⟨d.rules, d.pairs⟩ := by
  have hR : ∃ A cap, rv = .slice A d.rules.length cap ∧ RulesAt w (.slice A d.rules.length cap) d.rules := by
    have hc := @World.ownsRow.cells _ _ _ _ _ _ _ h.rrow
    rcases h.rrow.2 with ⟨rfl, h0⟩ | ⟨g, cap, cur, rfl, hb, hg, hnc, hcm, _⟩
    · have hn : d.rules = [] := List.eq_nil_of_length_eq_zero h0
      exact ⟨none, 0, by rw [h0], .inl ⟨hn, none, 0, by rw [h0]⟩⟩
    · refine ⟨_, cap, rfl, .inr ⟨g, 0, cap, rfl, (Array.getElem?_eq_some_iff.1 hg).1, hnc, hcm, fun i r hr => ?_⟩⟩
      obtain ⟨q0, q1, q2, q3, q4, D, dc, q5, q6⟩ := h.rules.2 i r hr
      have hcc : ∀ j u, xs[j]? = some u → w.cell? ⟨g, j, none⟩ = some u := fun j u hu => by rw [← add9]; exact hc (g := g) rfl j u hu
      unfold RuCells
      rw [Nat.zero_add]
      exact ⟨hcc _ _ q0, hcc _ _ q1, hcc _ _ q2, hcc _ _ q3, hcc _ _ q4, D, dc, hcc _ _ q5, q6.at⟩
  have hP : ∃ A cap, pv = .slice A d.pairs.length cap ∧ PairsAt w (.slice A d.pairs.length cap) d.pairs := by
    have hc := @World.ownsRow.cells _ _ _ _ _ _ _ h.prow
    rcases h.prow.2 with ⟨rfl, h0⟩ | ⟨g, cap, cur, rfl, hb, hg, hnc, hcm, _⟩
    · have hn : d.pairs = [] := List.eq_nil_of_length_eq_zero h0
      exact ⟨none, 0, by rw [h0], .inl ⟨hn, none, 0, by rw [h0]⟩⟩
    · refine ⟨_, cap, rfl, .inr ⟨g, 0, cap, rfl, (Array.getElem?_eq_some_iff.1 hg).1, hnc, hcm, fun i p hp => ?_⟩⟩
      obtain ⟨q0, q1⟩ := pCells_at d.pairs i p hp
      have hcc : ∀ j u, (pCells d.pairs)[j]? = some u → w.cell? ⟨g, j, none⟩ = some u := fun j u hu => by rw [← add9]; exact hc (g := g) rfl j u hu
      rw [Nat.zero_add]
      exact ⟨hcc _ _ q0, hcc _ _ q1⟩
  obtain ⟨A, cA, rfl, hA⟩ := hR
  obtain ⟨B, cB, rfl, hB⟩ := hP
  exact ⟨A, cA, B, cB, rfl, hA, hB⟩
theorem LQ.forms {w0 w : World} {HA : Nat} {F : Nat → Prop} {rv pv : Value} {xs : List Value} {d : Rd} {k m : Int} (h : LQ w0 w HA F rv pv xs d k m) :
    ∃ A c B c', rv = .slice A d.rules.length c ∧ pv = .slice B d.pairs.length c' ∧ RulesAt w (.slice A d.rules.length c) d.rules ∧ PairsAt w (.slice B d.pairs.length c') d.pairs := by
  obtain ⟨A, c, B, c', e, h1, h2⟩ := h.reads
  injection e with e
  simp only [Array.mk.injEq, List.cons.injEq, and_true] at e
  exact ⟨A, c, B, c', e.1, e.2, h1, h2⟩
theorem LQ.fz4 {w0 w w4 : World} {HA : Nat} {F : Nat → Prop} {rv pv : Value} {xs : List Value} {d : Rd} {k m : Int} {ow : Option Nat} (h : LQ w0 w HA F rv pv xs d k m) (hg : w.grownBy w4 ow) (hne : ∀ g, ow = some g → HA + 1 ≤ g) : ∀ o, w4.frozen? ⟨HA, o, none⟩ = false := by
  have hb := (hg.block HA (Array.getElem?_eq_some_iff.1 h.box).1 (fun e => by have := hne HA e.symm; omega)).trans h.box
  intro o
  simp [World.frozen?, hb]
theorem LQ.start (w : World) : LQ w (w.alloc (.cells #[.slice none 0 0, .slice none 0 0, .int .i64 0, .int .i64 0, .int .i64 0] 41)) w.heap.size (fun _ => False) (.slice none 0 0) (.slice none 0 0) [] rd0 0 0 :=
  ⟨World.alloc_heap_new w _, World.ownsRow_nil _ _ _ _, RulesIn.nil _ _, World.ownsRow_nil _ _ _ _, fun _ h => h.elim, Nat.le_refl _, (Below.refl _ _).alloc (Nat.le_refl _) _⟩
end Go.Proofs.YteenleedonmkmaaGreatDoor
