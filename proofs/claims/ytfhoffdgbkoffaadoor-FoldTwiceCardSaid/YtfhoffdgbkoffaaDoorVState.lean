/- Rules, pairs and numbers that grow in memory, behind a box of two slices: what a reader of affix files has. -/
import Derived.Test.YtfhoffdgbkoffaaDoorVLaws
import Derived.Test.YtfhoffdgbkoffaaDoorNNew
import Derived.Test.YtfhoffdgbkoffaaDoorNGrow
namespace Go.Proofs.YtfhoffdgbkoffaaDoor
open Go Go.RowKit Go.Lib

/-- A slice that reads as these items, in blocks of F. -/
def ItemsIn (F : Nat → Prop) (w : World) (v : Value) (l : List It) : Prop :=
  (l = [] ∧ ∃ a cap, v = .slice a 0 cap) ∨ ∃ b off cap, v = .slice (some ⟨b, off, none⟩) l.length cap ∧ b < w.heap.size ∧ F b ∧ l.length ≤ cap ∧ cap ≤ maxLen ∧
    ∀ (i : Nat) it, l[i]? = some it → w.cell? ⟨b, off + i * 3, none⟩ = some (.bool it.any) ∧ w.cell? ⟨b, off + i * 3 + 1, none⟩ = some (.bool it.not) ∧ ∃ sv, w.cell? ⟨b, off + i * 3 + 2, none⟩ = some sv ∧ IntsAt w sv it.set ∧ (it.set ≠ [] → ∀ g, sv.ownBlock = some g → F g)
theorem ItemsIn.at {F : Nat → Prop} {w : World} {v : Value} {l : List It} (h : ItemsIn F w v l) : ItemsAt w v l := by
  rcases h with h | ⟨b, off, cap, h1, h2, _, h4, h5, h6⟩
  · exact .inl h
  · refine .inr ⟨b, off, cap, h1, h2, h4, h5, fun i it hi => ?_⟩
    obtain ⟨k1, k2, sv, k3, k4, _⟩ := h6 i it hi
    exact ⟨k1, k2, sv, k3, k4⟩
theorem ItemsIn.mono {F F' : Nat → Prop} {w : World} {v : Value} {l : List It} (h : ItemsIn F w v l) (hF : ∀ b, F b → F' b) : ItemsIn F' w v l := by
  rcases h with h | ⟨b, off, cap, h1, h2, h3, h4, h5, h6⟩
  · exact .inl h
  · refine .inr ⟨b, off, cap, h1, h2, hF b h3, h4, h5, fun i it hi => ?_⟩
    obtain ⟨k1, k2, sv, k3, k4, k5⟩ := h6 i it hi
    exact ⟨k1, k2, sv, k3, k4, fun hn g hg => hF g (k5 hn g hg)⟩
/-- Blocks of F are as they were. -/
theorem ItemsIn.still {F : Nat → Prop} {w w' : World} {v : Value} {l : List It} (h : ItemsIn F w v l) (hs : w.heap.size ≤ w'.heap.size) (hb : ∀ b, F b → b < w.heap.size → w'.heap[b]? = w.heap[b]?) : ItemsIn F w' v l := by
  rcases h with h | ⟨b, off, cap, h1, h2, h3, h4, h5, h6⟩
  · exact .inl h
  · have hc : ∀ o, w'.cell? ⟨b, o, none⟩ = w.cell? ⟨b, o, none⟩ := fun o => by unfold World.cell?; rw [show (⟨b, o, none⟩ : Addr).block = b from rfl, hb b h3 h2]
    refine .inr ⟨b, off, cap, h1, Nat.lt_of_lt_of_le h2 hs, h3, h4, h5, fun i it hi => ?_⟩
    obtain ⟨k1, k2, sv, k3, k4, k5⟩ := h6 i it hi
    refine ⟨(hc _).trans k1, (hc _).trans k2, sv, (hc _).trans k3, ?_, k5⟩
    by_cases hn : it.set = []
    · rw [hn] at k4 ⊢
      rcases k4 with ⟨_, a, c, e⟩ | ⟨q, qo, qc, e, _⟩
      · exact .inl ⟨rfl, a, c, e⟩
      · exact .inl ⟨rfl, _, qc, e⟩
    · rcases k4 with k4 | ⟨q, qo, qc, rfl, q1, q2, q3, q4⟩
      · exact .inl k4
      · refine .inr ⟨q, qo, qc, rfl, Nat.lt_of_lt_of_le q1 hs, q2, q3, fun j c hj => ?_⟩
        have := q4 j c hj
        unfold World.cell? at this ⊢
        rw [show (⟨q, qo + j, none⟩ : Addr).block = q from rfl] at this ⊢
        rw [hb q (k5 hn q rfl) q1]
        exact this
theorem ItemsNew.isIn {B : Nat} {w : World} {v : Value} {l : List It} (h : ItemsNew B w v l) : ItemsIn (fun b => B ≤ b ∧ b < w.heap.size) w v l := by
  rcases h with h | ⟨b, off, cap, h1, h2, h3, h4, h5, h6⟩
  · exact .inl h
  · refine .inr ⟨b, off, cap, h1, h2, ⟨h3, h2⟩, h4, h5, fun i it hi => ?_⟩
    obtain ⟨k1, k2, sv, k3, k4, k5⟩ := h6 i it hi
    refine ⟨k1, k2, sv, k3, k4, fun hn g hg => ⟨k5 g hg, ?_⟩⟩
    rcases k4 with ⟨e, _⟩ | ⟨q, qo, qc, rfl, q1, _⟩
    · exact absurd e hn
    · obtain rfl : q = g := by simpa [Value.ownBlock] using hg
      exact q1

/-- The cells of rules: each rule's six. -/
def RulesIn (F : Nat → Prop) (w : World) (xs : List Value) (rs : List Ru) : Prop :=
  xs.length = rs.length * 6 ∧ ∀ (i : Nat) r, rs[i]? = some r → xs[i * 6]? = some (.bool r.pre) ∧ xs[i * 6 + 1]? = some (.int .i64 r.flag) ∧ xs[i * 6 + 2]? = some (.bool r.cross) ∧ xs[i * 6 + 3]? = some (.string r.strip) ∧ xs[i * 6 + 4]? = some (.string r.add) ∧
    ∃ A cap, xs[i * 6 + 5]? = some (.slice A r.cond.length cap) ∧ ItemsIn F w (.slice A r.cond.length cap) r.cond
theorem RulesIn.nil (F : Nat → Prop) (w : World) : RulesIn F w [] [] := ⟨rfl, fun i r h => by simp at h⟩
theorem RulesIn.snoc {F : Nat → Prop} {w : World} {xs : List Value} {rs : List Ru} {r : Ru} {A : Option Addr} {cap : Nat} (h : RulesIn F w xs rs) (hi : ItemsIn F w (.slice A r.cond.length cap) r.cond) :
    RulesIn F w (xs ++ [.bool r.pre, .int .i64 r.flag, .bool r.cross, .string r.strip, .string r.add, .slice A r.cond.length cap]) (rs ++ [r]) := by
  obtain ⟨hl, hx⟩ := h
  refine ⟨by rw [List.length_append, List.length_append, hl]; simp; omega, fun i q hq => ?_⟩
  rcases Nat.lt_or_ge i rs.length with hlt | hge
  · rw [List.getElem?_append_left hlt] at hq
    have hk : ∀ j, j < 6 → (xs ++ [.bool r.pre, .int .i64 r.flag, .bool r.cross, .string r.strip, .string r.add, .slice A r.cond.length cap])[i * 6 + j]? = xs[i * 6 + j]? := fun j hj => List.getElem?_append_left (by omega)
    obtain ⟨q0, q1, q2, q3, q4, D, dc, q5, q6⟩ := hx i q hq
    exact ⟨(hk 0 (by omega)).trans q0, (hk 1 (by omega)).trans q1, (hk 2 (by omega)).trans q2, (hk 3 (by omega)).trans q3, (hk 4 (by omega)).trans q4, D, dc, (hk 5 (by omega)).trans q5, q6⟩
  · rw [List.getElem?_append_right hge] at hq
    have h0 : i - rs.length = 0 := by
      have := (List.getElem?_eq_some_iff.1 hq).1
      simp at this; omega
    obtain rfl : i = rs.length := by omega
    rw [h0] at hq
    obtain rfl : r = q := by simpa using hq
    have hk : ∀ j, (xs ++ [.bool r.pre, .int .i64 r.flag, .bool r.cross, .string r.strip, .string r.add, .slice A r.cond.length cap])[rs.length * 6 + j]? = [Value.bool r.pre, .int .i64 r.flag, .bool r.cross, .string r.strip, .string r.add, .slice A r.cond.length cap][j]? := fun j => by
      rw [List.getElem?_append_right (by omega), hl, Nat.add_sub_cancel_left]
    exact ⟨hk 0, hk 1, hk 2, hk 3, hk 4, A, cap, hk 5, hi⟩
theorem RulesIn.mono {F F' : Nat → Prop} {w : World} {xs : List Value} {rs : List Ru} (h : RulesIn F w xs rs) (hF : ∀ b, F b → F' b) : RulesIn F' w xs rs :=
  ⟨h.1, fun i r hr => by
    obtain ⟨q0, q1, q2, q3, q4, D, dc, q5, q6⟩ := h.2 i r hr
    exact ⟨q0, q1, q2, q3, q4, D, dc, q5, q6.mono hF⟩⟩
theorem RulesIn.still {F : Nat → Prop} {w w' : World} {xs : List Value} {rs : List Ru} (h : RulesIn F w xs rs) (hs : w.heap.size ≤ w'.heap.size) (hb : ∀ b, F b → b < w.heap.size → w'.heap[b]? = w.heap[b]?) : RulesIn F w' xs rs :=
  ⟨h.1, fun i r hr => by
    obtain ⟨q0, q1, q2, q3, q4, D, dc, q5, q6⟩ := h.2 i r hr
    exact ⟨q0, q1, q2, q3, q4, D, dc, q5, q6.still hs hb⟩⟩
/-- The cells of pairs. -/
def pCells (ps : List (Int × Int)) : List Value := ps.flatMap fun p => [.int .i64 p.1, .int .i64 p.2]
theorem pCells_at : ∀ (ps : List (Int × Int)) (i : Nat) p, ps[i]? = some p → (pCells ps)[i * 2]? = some (.int .i64 p.1) ∧ (pCells ps)[i * 2 + 1]? = some (.int .i64 p.2)
  | [], i, p, h => by simp at h
  | q :: ps, 0, p, h => by
    obtain rfl : q = p := by simpa using h
    exact ⟨rfl, rfl⟩
  | q :: ps, i + 1, p, h => by
    have := pCells_at ps i p (by simpa using h)
    rw [show (i + 1) * 2 = i * 2 + 2 by omega]
    exact this

/-- What a reader has: a box at HA of two slices, three rows that grow behind it. -/
structure AQ (w0 wr : World) (HA : Nat) (F : Nat → Prop) (rv pv tv : Value) (xs : List Value) (d : Rd) : Prop where
  box : wr.heap[HA]? = some (.cells #[rv, pv] 26 (0, 0))
  rrow : wr.ownsRow (HA + 1) 47 6 rv d.rules.length xs
  rules : RulesIn F wr xs d.rules
  prow : wr.ownsRow (HA + 1) 37 2 pv d.pairs.length (pCells d.pairs)
  trow : wr.ownsRow (HA + 1) 3 1 tv d.at_.length (d.at_.map fun n => .int .i64 (n : Nat))
  foot : ∀ b, F b → HA < b ∧ b < wr.heap.size ∧ rv.ownBlock ≠ some b ∧ pv.ownBlock ≠ some b ∧ tv.ownBlock ≠ some b
  base : w0.heap.size ≤ HA
  below : Below w0.heap.size w0 wr
theorem AQ.keep {w0 w w' : World} {HA : Nat} {F : Nat → Prop} {rv pv tv : Value} {xs : List Value} {d : Rd} (h : AQ w0 w HA F rv pv tv xs d) (hb : Below w.heap.size w w') : AQ w0 w' HA F rv pv tv xs d :=
  ⟨(hb.block HA (Array.getElem?_eq_some_iff.1 h.box).1).trans h.box, own_keep9 h.rrow hb, h.rules.still hb.size fun b _ hlt => hb.block b hlt, own_keep9 h.prow hb, own_keep9 h.trow hb,
    fun b hF => by obtain ⟨h1, h2, h3⟩ := h.foot b hF; exact ⟨h1, Nat.lt_of_lt_of_le h2 hb.size, h3⟩, h.base, h.below.trans (hb.mono h.below.size)⟩
/-- Rows of unlike types lie in unlike blocks. -/
theorem own_types {w : World} {B e e' s s' n n' : Nat} {v v' : Value} {xs xs' : List Value} (h : w.ownsRow B e s v n xs) (h' : w.ownsRow B e' s' v' n' xs') (he : e ≠ e') (g : Nat) (hg : v.ownBlock = some g) : v'.ownBlock ≠ some g := by
  intro hg'
  rcases h.2 with ⟨rfl, _⟩ | ⟨q, cap, cur, rfl, _, h1, _⟩
  · simp [Value.ownBlock] at hg
  · rcases h'.2 with ⟨rfl, _⟩ | ⟨q', cap', cur', rfl, _, h1', _⟩
    · simp [Value.ownBlock] at hg'
    · obtain rfl : q = g := by simpa [Value.ownBlock] using hg
      obtain rfl : q' = q := by simpa [Value.ownBlock] using hg'
      rw [h1] at h1'
      injection Option.some.inj h1' with _ e2 _
      exact he e2
theorem own_blk {w w' : World} {B e s n : Nat} {v : Value} {xs : List Value} (h : w.ownsRow B e s v n xs) (hb : ∀ g, v.ownBlock = some g → w'.heap[g]? = w.heap[g]?) : w'.ownsRow B e s v n xs := by
  refine ⟨h.1, ?_⟩
  rcases h.2 with h | ⟨g, cap, cur, h1, h2, h3, h4⟩
  · exact .inl h
  · subst h1
    exact .inr ⟨g, cap, cur, rfl, h2, (hb g rfl).trans h3, h4⟩
/-- The box's cells are written anew. -/
theorem set_other (w : World) (HA o : Nat) (v : Value) {k : Nat} (hk : k ≠ HA) : (w.setCell ⟨HA, o, none⟩ v).heap[k]? = w.heap[k]? := Below.heap_setCell _ _ _ _ hk
theorem set_size (w : World) (a : Addr) (v : Value) : (w.setCell a v).heap.size = w.heap.size := by simp [World.setCell]
/-- Where a row that has grown lies. -/
def Grew (w : World) (v v' : Value) : Prop := v'.ownBlock = v.ownBlock ∨ ∀ g, v'.ownBlock = some g → w.heap.size ≤ g
/-- A pair more. -/
theorem AQ.pair {w0 w w4 : World} {HA : Nat} {F : Nat → Prop} {rv pv tv pv' : Value} {xs : List Value} {d : Rd} {p : Int × Int} (h : AQ w0 w HA F rv pv tv xs d)
    (hown : w4.ownsRow (HA + 1) 37 2 pv' (d.pairs.length + 1) (pCells d.pairs ++ [.int .i64 p.1, .int .i64 p.2])) (hg : w.grownBy w4 pv.ownBlock) (hw : Grew w pv pv') :
    AQ w0 (w4.setCell ⟨HA, 1, none⟩ pv') HA F rv pv' tv xs { d with pairs := d.pairs ++ [p] } := by
  have hHA := (Array.getElem?_eq_some_iff.1 h.box).1
  have pb : ∀ g, pv.ownBlock = some g → HA + 1 ≤ g ∧ g < w.heap.size := h.prow.lt
  have key : ∀ k, k < w.heap.size → k ≠ HA → some k ≠ pv.ownBlock → (w4.setCell ⟨HA, 1, none⟩ pv').heap[k]? = w.heap[k]? := fun k hk hne hp => (set_other _ _ _ _ hne).trans (hg.block k hk hp)
  have hbox4 : w4.heap[HA]? = some (.cells #[rv, pv] 26 (0, 0)) := (hg.block HA hHA (fun e => by have := (pb HA e.symm).1; omega)).trans h.box
  refine ⟨by simp [World.setCell, Array.getElem?_modify, hbox4], own_blk h.rrow fun g hgr => ?_, ?_, ?_, own_blk h.trow fun g hgt => ?_, fun b hF => ?_, h.base, ?_⟩
  · have hlt := h.rrow.lt g hgr
    exact key g hlt.2 (by omega) (fun e => own_types h.rrow h.prow (by decide) g hgr e.symm)
  · refine h.rules.still (by rw [set_size]; exact hg.size) fun b hF hlt => ?_
    obtain ⟨f1, _, _, f4, _⟩ := h.foot b hF
    exact key b hlt (by omega) (fun e => f4 e.symm)
  · have e1 : pCells (d.pairs ++ [p]) = pCells d.pairs ++ [.int .i64 p.1, .int .i64 p.2] := by simp [pCells]
    have e2 : (d.pairs ++ [p]).length = d.pairs.length + 1 := by simp
    show World.ownsRow _ _ _ _ _ (d.pairs ++ [p]).length (pCells (d.pairs ++ [p]))
    rw [e1, e2]
    refine own_blk hown fun g hgp => set_other _ _ _ _ ?_
    have := (hown.lt g hgp).1
    omega
  · have hlt := h.trow.lt g hgt
    exact key g hlt.2 (by omega) (fun e => own_types h.trow h.prow (by decide) g hgt e.symm)
  · obtain ⟨f1, f2, f3, f4, f5⟩ := h.foot b hF
    refine ⟨f1, by rw [set_size]; exact Nat.lt_of_lt_of_le f2 hg.size, f3, fun e => ?_, f5⟩
    rcases hw with hw | hw
    · exact f4 (hw ▸ e)
    · have := hw b e; omega
  · exact (h.below.grown hg h.below.size (fun k hk => by have := (pb k hk).1; have := h.base; omega)).setCell (p := ⟨HA, 1, none⟩) h.base _
/-- A rule more, and where it stands: both rows grown, then the box is written. -/
theorem AQ.rule {w0 w w4 w5 : World} {HA : Nat} {F : Nat → Prop} {rv pv tv rv' tv' : Value} {xs : List Value} {d : Rd} {r : Ru} {A : Option Addr} {cap n : Nat} (h : AQ w0 w HA F rv pv tv xs d) (hi : ItemsIn F w (.slice A r.cond.length cap) r.cond)
    (hown : w4.ownsRow (HA + 1) 47 6 rv' (d.rules.length + 1) (xs ++ [.bool r.pre, .int .i64 r.flag, .bool r.cross, .string r.strip, .string r.add, .slice A r.cond.length cap])) (hg : w.grownBy w4 rv.ownBlock) (hw : Grew w rv rv')
    (hown2 : w5.ownsRow (HA + 1) 3 1 tv' (d.at_.length + 1) ((d.at_.map fun n => .int .i64 (n : Nat)) ++ [.int .i64 n])) (hg2 : w4.grownBy w5 tv.ownBlock) (hw2 : Grew w4 tv tv') :
    AQ w0 (w5.setCell ⟨HA, 0, none⟩ rv') HA F rv' pv tv' (xs ++ [.bool r.pre, .int .i64 r.flag, .bool r.cross, .string r.strip, .string r.add, .slice A r.cond.length cap]) { d with rules := d.rules ++ [r], at_ := d.at_ ++ [n] } := by
  have hHA := (Array.getElem?_eq_some_iff.1 h.box).1
  have rb : ∀ g, rv.ownBlock = some g → HA + 1 ≤ g ∧ g < w.heap.size := h.rrow.lt
  have tb : ∀ g, tv.ownBlock = some g → HA + 1 ≤ g ∧ g < w.heap.size := h.trow.lt
  have key : ∀ k, k < w.heap.size → k ≠ HA → some k ≠ rv.ownBlock → some k ≠ tv.ownBlock → (w5.setCell ⟨HA, 0, none⟩ rv').heap[k]? = w.heap[k]? := fun k hk hne hr ht =>
    (set_other _ _ _ _ hne).trans ((hg2.block k (Nat.lt_of_lt_of_le hk hg.size) ht).trans (hg.block k hk hr))
  have hsz : w.heap.size ≤ w5.heap.size := Nat.le_trans hg.size hg2.size
  have hbox5 : w5.heap[HA]? = some (.cells #[rv, pv] 26 (0, 0)) :=
    (hg2.block HA (Nat.lt_of_lt_of_le hHA hg.size) (fun e => by have := (tb HA e.symm).1; omega)).trans ((hg.block HA hHA (fun e => by have := (rb HA e.symm).1; omega)).trans h.box)
  have hstill : ∀ b, F b → b < w.heap.size → (w5.setCell ⟨HA, 0, none⟩ rv').heap[b]? = w.heap[b]? := fun b hF hlt => by
    obtain ⟨f1, _, f3, _, f5⟩ := h.foot b hF
    exact key b hlt (by omega) (fun e => f3 e.symm) (fun e => f5 e.symm)
  refine ⟨by simp [World.setCell, Array.getElem?_modify, hbox5], ?_, ?_, own_blk h.prow fun g hgp => ?_, ?_, fun b hF => ?_, h.base, ?_⟩
  · have e2 : (d.rules ++ [r]).length = d.rules.length + 1 := by simp
    show World.ownsRow _ _ _ _ _ (d.rules ++ [r]).length _
    rw [e2]
    refine own_blk hown fun g hgr => (set_other _ _ _ _ ?_).trans (hg2.block g (hown.lt g hgr).2 ?_)
    · have := (hown.lt g hgr).1; omega
    · intro e
      have htv : tv.ownBlock = some g := e.symm
      rcases hw with hw | hw
      · exact own_types h.rrow h.trow (by decide) g (hw ▸ hgr) htv
      · have := hw g hgr
        have := (tb g htv).2
        omega
  · exact (h.rules.snoc hi).still (by rw [set_size]; exact hsz) hstill
  · have hlt := h.prow.lt g hgp
    exact key g hlt.2 (by omega) (fun e => own_types h.prow h.rrow (by decide) g hgp e.symm) (fun e => own_types h.prow h.trow (by decide) g hgp e.symm)
  · have e2 : (d.at_ ++ [n]).length = d.at_.length + 1 := by simp
    show World.ownsRow _ _ _ _ _ (d.at_ ++ [n]).length ((d.at_ ++ [n]).map fun n => .int .i64 (n : Nat))
    rw [e2, List.map_append]
    refine own_blk hown2 fun g hgt => set_other _ _ _ _ ?_
    have := (hown2.lt g hgt).1
    omega
  · obtain ⟨f1, f2, f3, f4, f5⟩ := h.foot b hF
    refine ⟨f1, by rw [set_size]; exact Nat.lt_of_lt_of_le f2 hsz, fun e => ?_, f4, fun e => ?_⟩
    · rcases hw with hw | hw
      · exact f3 (hw ▸ e)
      · have := hw b e; omega
    · rcases hw2 with hw2 | hw2
      · exact f5 (hw2 ▸ e)
      · have := hw2 b e
        have := hg.size
        omega
  · have b4 := h.below.grown hg h.below.size (fun k hk => by have := (rb k hk).1; have := h.base; omega)
    exact (b4.grown hg2 b4.size (fun k hk => by have := (tb k hk).1; have := h.base; omega)).setCell (p := ⟨HA, 0, none⟩) h.base _
/-- The first line that is none. -/
theorem AQ.bad {w0 w : World} {HA : Nat} {F : Nat → Prop} {rv pv tv : Value} {xs : List Value} {d : Rd} (h : AQ w0 w HA F rv pv tv xs d) (b : Nat) : AQ w0 w HA F rv pv tv xs { d with bad := b } :=
  ⟨h.box, h.rrow, h.rules, h.prow, h.trow, h.foot, h.base, h.below⟩
/-- What is in new blocks joins F. -/
theorem AQ.wide {w0 w w' : World} {HA : Nat} {F : Nat → Prop} {rv pv tv : Value} {xs : List Value} {d : Rd} (h : AQ w0 w HA F rv pv tv xs d) (hb : Below w.heap.size w w') :
    AQ w0 w' HA (fun b => F b ∨ (w.heap.size ≤ b ∧ b < w'.heap.size)) rv pv tv xs d := by
  have hk := h.keep hb
  have hHA := (Array.getElem?_eq_some_iff.1 h.box).1
  refine ⟨hk.box, hk.rrow, hk.rules.mono fun b hF => .inl hF, hk.prow, hk.trow, fun b hF => ?_, hk.base, hk.below⟩
  rcases hF with hF | ⟨h1, h2⟩
  · exact hk.foot b hF
  · refine ⟨by omega, h2, fun e => ?_, fun e => ?_, fun e => ?_⟩
    · have := (h.rrow.lt b e).2; omega
    · have := (h.prow.lt b e).2; omega
    · have := (h.trow.lt b e).2; omega
/-- What the box holds reads as an affix file. -/
theorem AQ.reads {w0 w : World} {HA : Nat} {F : Nat → Prop} {rv pv tv : Value} {xs : List Value} {d : Rd} (h : AQ w0 w HA F rv pv tv xs d) : AffAt w (.agg #[rv, pv]) ⟨d.rules, d.pairs⟩ := by
  have hR : ∃ A cap, rv = .slice A d.rules.length cap ∧ RulesAt w (.slice A d.rules.length cap) d.rules := by
    have hc := @World.ownsRow.cells _ _ _ _ _ _ _ h.rrow
    rcases h.rrow.2 with ⟨rfl, h0⟩ | ⟨g, cap, cur, rfl, hb, hg, hnc, hcm, _⟩
    · have hn : d.rules = [] := List.eq_nil_of_length_eq_zero h0
      exact ⟨none, 0, by rw [h0], .inl ⟨hn, none, 0, by rw [h0]⟩⟩
    · refine ⟨_, cap, rfl, .inr ⟨g, 0, cap, rfl, (Array.getElem?_eq_some_iff.1 hg).1, hnc, hcm, fun i r hr => ?_⟩⟩
      obtain ⟨q0, q1, q2, q3, q4, D, dc, q5, q6⟩ := h.rules.2 i r hr
      have hcc : ∀ j u, xs[j]? = some u → w.cell? ⟨g, j, none⟩ = some u := fun j u hu => by rw [← add9]; exact hc (g := g) rfl j u hu
      unfold RuCells
      rw [Nat.zero_add]
      exact ⟨hcc _ _ q0, hcc _ _ q1, hcc _ _ q2, hcc _ _ q3, hcc _ _ q4, D, dc, hcc _ _ q5, q6.at⟩
  have hP : ∃ A cap, pv = .slice A d.pairs.length cap ∧ PairsAt w (.slice A d.pairs.length cap) d.pairs := by
    have hc := @World.ownsRow.cells _ _ _ _ _ _ _ h.prow
    rcases h.prow.2 with ⟨rfl, h0⟩ | ⟨g, cap, cur, rfl, hb, hg, hnc, hcm, _⟩
    · have hn : d.pairs = [] := List.eq_nil_of_length_eq_zero h0
      exact ⟨none, 0, by rw [h0], .inl ⟨hn, none, 0, by rw [h0]⟩⟩
    · refine ⟨_, cap, rfl, .inr ⟨g, 0, cap, rfl, (Array.getElem?_eq_some_iff.1 hg).1, hnc, hcm, fun i p hp => ?_⟩⟩
      obtain ⟨q0, q1⟩ := pCells_at d.pairs i p hp
      have hcc : ∀ j u, (pCells d.pairs)[j]? = some u → w.cell? ⟨g, j, none⟩ = some u := fun j u hu => by rw [← add9]; exact hc (g := g) rfl j u hu
      rw [Nat.zero_add]
      exact ⟨hcc _ _ q0, hcc _ _ q1⟩
  obtain ⟨A, cA, rfl, hA⟩ := hR
  obtain ⟨B, cB, rfl, hB⟩ := hP
  exact ⟨A, cA, B, cB, rfl, hA, hB⟩
end Go.Proofs.YtfhoffdgbkoffaaDoor
