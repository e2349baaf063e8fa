/- Rules, pairs and numbers that grow in memory, behind a box of two slices: what a reader of affix files has. -/
import Derived.Deep.AppendLies
import Derived.Deep.RegionLaw
import Derived.Deep.CutRange
import Derived.Deep.DeepCutAuto
import Derived.Test.YtfehpcbmdancoaaGreatDoorPaNGrow
import Derived.Test.YtfehpcbmdancoaaGreatDoorPaNNew
import Derived.Test.YtfehpcbmdancoaaGreatDoorPaPlain
namespace Go.Proofs.YtfehpcbmdancoaaGreatDoor.Af
open Go Go.RowKit Go.Lib

/-- A slice that reads as these items, in blocks of F. -/
def ItemsIn (F : Nat → Prop) (w : World) (v : Value) (l : List It) : Prop :=
  (l = [] ∧ ∃ a cap, v = .slice a 0 cap) ∨ ∃ b off cap, v = .slice (some ⟨b, off, none⟩) l.length cap ∧ b < w.heap.size ∧ F b ∧ l.length ≤ cap ∧ cap ≤ maxLen ∧
    ∀ (i : Nat) it, l[i]? = some it → w.cell? ⟨b, off + i * 3, none⟩ = some (.bool it.any) ∧ w.cell? ⟨b, off + i * 3 + 1, none⟩ = some (.bool it.not) ∧ ∃ sv, w.cell? ⟨b, off + i * 3 + 2, none⟩ = some sv ∧ IntsAt w sv it.set ∧ (it.set ≠ [] → ∀ g, sv.ownBlock = some g → F g)
theorem ItemsIn.at {F : Nat → Prop} {w : World} {v : Value} {l : List It} (h : ItemsIn F w v l) : ItemsAt w v l := by
  rcases h with h | ⟨b, off, cap, h1, h2, _, h4, h5, h6⟩
  · exact .inl h
  · refine .inr ⟨b, off, cap, h1, h2, h4, h5, fun i it hi => ?_⟩
    obtain ⟨k1, k2, sv, k3, k4, _⟩ := h6 i it hi
    exact ⟨k1, k2, sv, k3, k4⟩
theorem ItemsIn.mono {F F' : Nat → Prop} {w : World} {v : Value} {l : List It} (h : ItemsIn F w v l) (hF : ∀ b, F b → F' b) : ItemsIn F' w v l := by
  rcases h with h | ⟨b, off, cap, h1, h2, h3, h4, h5, h6⟩
  · exact .inl h
  · refine .inr ⟨b, off, cap, h1, h2, hF b h3, h4, h5, fun i it hi => ?_⟩
    obtain ⟨k1, k2, sv, k3, k4, k5⟩ := h6 i it hi
    exact ⟨k1, k2, sv, k3, k4, fun hn g hg => hF g (k5 hn g hg)⟩
/-- Blocks of F are as they were. -/
theorem ItemsIn.still {F : Nat → Prop} {w w' : World} {v : Value} {l : List It} (h : ItemsIn F w v l) (hs : w.heap.size ≤ w'.heap.size) (hb : ∀ b, F b → b < w.heap.size → w'.heap[b]? = w.heap[b]?) : ItemsIn F w' v l := by
  rcases h with h | ⟨b, off, cap, h1, h2, h3, h4, h5, h6⟩
  · exact .inl h
  · have hc : ∀ o, w'.cell? ⟨b, o, none⟩ = w.cell? ⟨b, o, none⟩ := fun o => by unfold World.cell?; rw [show (⟨b, o, none⟩ : Addr).block = b from rfl, hb b h3 h2]
    refine .inr ⟨b, off, cap, h1, Nat.lt_of_lt_of_le h2 hs, h3, h4, h5, fun i it hi => ?_⟩
    obtain ⟨k1, k2, sv, k3, k4, k5⟩ := h6 i it hi
    refine ⟨(hc _).trans k1, (hc _).trans k2, sv, (hc _).trans k3, ?_, k5⟩
    by_cases hn : it.set = []
    · rw [hn] at k4 ⊢
      rcases k4 with ⟨_, a, c, e⟩ | ⟨q, qo, qc, e, _⟩
      · exact .inl ⟨rfl, a, c, e⟩
      · exact .inl ⟨rfl, _, qc, e⟩
    · rcases k4 with k4 | ⟨q, qo, qc, rfl, q1, q2, q3, q4⟩
      · exact .inl k4
      · refine .inr ⟨q, qo, qc, rfl, Nat.lt_of_lt_of_le q1 hs, q2, q3, fun j c hj => ?_⟩
        have := q4 j c hj
        unfold World.cell? at this ⊢
        rw [show (⟨q, qo + j, none⟩ : Addr).block = q from rfl] at this ⊢
        rw [hb q (k5 hn q rfl) q1]
        exact this
theorem _root_.Go.Proofs.YtfehpcbmdancoaaGreatDoor.ItemsNew.isIn {B : Nat} {w : World} {v : Value} {l : List It} (h : ItemsNew B w v l) : ItemsIn (fun b => B ≤ b ∧ b < w.heap.size) w v l := by
  rcases h with h | ⟨b, off, cap, h1, h2, h3, h4, h5, h6⟩
  · exact .inl h
  · refine .inr ⟨b, off, cap, h1, h2, ⟨h3, h2⟩, h4, h5, fun i it hi => ?_⟩
    obtain ⟨k1, k2, sv, k3, k4, k5⟩ := h6 i it hi
    refine ⟨k1, k2, sv, k3, k4, fun hn g hg => ⟨k5 g hg, ?_⟩⟩
    rcases k4 with ⟨e, _⟩ | ⟨q, qo, qc, rfl, q1, _⟩
    · exact absurd e hn
    · obtain rfl : q = g := by simpa [Value.ownBlock] using hg
      exact q1

/-- The cells of rules: each rule's six. -/
def RulesIn (F : Nat → Prop) (w : World) (xs : List Value) (rs : List Ru) : Prop :=
  xs.length = rs.length * 6 ∧ ∀ (i : Nat) r, rs[i]? = some r → xs[i * 6]? = some (.bool r.pre) ∧ xs[i * 6 + 1]? = some (.int .i64 r.flag) ∧ xs[i * 6 + 2]? = some (.bool r.cross) ∧ xs[i * 6 + 3]? = some (.string r.strip) ∧ xs[i * 6 + 4]? = some (.string r.add) ∧
    ∃ A cap, xs[i * 6 + 5]? = some (.slice A r.cond.length cap) ∧ ItemsIn F w (.slice A r.cond.length cap) r.cond
theorem RulesIn.nil (F : Nat → Prop) (w : World) : RulesIn F w [] [] := ⟨rfl, fun i r h => by simp at h⟩
theorem RulesIn.snoc {F : Nat → Prop} {w : World} {xs : List Value} {rs : List Ru} {r : Ru} {A : Option Addr} {cap : Nat} (h : RulesIn F w xs rs) (hi : ItemsIn F w (.slice A r.cond.length cap) r.cond) :
    RulesIn F w (xs ++ [.bool r.pre, .int .i64 r.flag, .bool r.cross, .string r.strip, .string r.add, .slice A r.cond.length cap]) (rs ++ [r]) := by
  obtain ⟨hl, hx⟩ := h
  refine ⟨by rw [List.length_append, List.length_append, hl]; simp; omega, fun i q hq => ?_⟩
  rcases Nat.lt_or_ge i rs.length with hlt | hge
  · rw [List.getElem?_append_left hlt] at hq
    have hk : ∀ j, j < 6 → (xs ++ [.bool r.pre, .int .i64 r.flag, .bool r.cross, .string r.strip, .string r.add, .slice A r.cond.length cap])[i * 6 + j]? = xs[i * 6 + j]? := fun j hj => List.getElem?_append_left (by omega)
    obtain ⟨q0, q1, q2, q3, q4, D, dc, q5, q6⟩ := hx i q hq
    exact ⟨(hk 0 (by omega)).trans q0, (hk 1 (by omega)).trans q1, (hk 2 (by omega)).trans q2, (hk 3 (by omega)).trans q3, (hk 4 (by omega)).trans q4, D, dc, (hk 5 (by omega)).trans q5, q6⟩
  · rw [List.getElem?_append_right hge] at hq
    have h0 : i - rs.length = 0 := by
      have := (List.getElem?_eq_some_iff.1 hq).1
      simp at this; omega
    obtain rfl : i = rs.length := by omega
    rw [h0] at hq
    obtain rfl : r = q := by simpa using hq
    have hk : ∀ j, (xs ++ [.bool r.pre, .int .i64 r.flag, .bool r.cross, .string r.strip, .string r.add, .slice A r.cond.length cap])[rs.length * 6 + j]? = [Value.bool r.pre, .int .i64 r.flag, .bool r.cross, .string r.strip, .string r.add, .slice A r.cond.length cap][j]? := fun j => by
      rw [List.getElem?_append_right (by omega), hl, Nat.add_sub_cancel_left]
    exact ⟨hk 0, hk 1, hk 2, hk 3, hk 4, A, cap, hk 5, hi⟩
theorem RulesIn.mono {F F' : Nat → Prop} {w : World} {xs : List Value} {rs : List Ru} (h : RulesIn F w xs rs) (hF : ∀ b, F b → F' b) : RulesIn F' w xs rs :=
  ⟨h.1, fun i r hr => by
    obtain ⟨q0, q1, q2, q3, q4, D, dc, q5, q6⟩ := h.2 i r hr
    exact ⟨q0, q1, q2, q3, q4, D, dc, q5, q6.mono hF⟩⟩
theorem RulesIn.still {F : Nat → Prop} {w w' : World} {xs : List Value} {rs : List Ru} (h : RulesIn F w xs rs) (hs : w.heap.size ≤ w'.heap.size) (hb : ∀ b, F b → b < w.heap.size → w'.heap[b]? = w.heap[b]?) : RulesIn F w' xs rs :=
  ⟨h.1, fun i r hr => by
    obtain ⟨q0, q1, q2, q3, q4, D, dc, q5, q6⟩ := h.2 i r hr
    exact ⟨q0, q1, q2, q3, q4, D, dc, q5, q6.still hs hb⟩⟩
/-- The cells of pairs. -/
def pCells (ps : List (Int × Int)) : List Value := ps.flatMap fun p => [.int .i64 p.1, .int .i64 p.2]
theorem pCells_at : ∀ (ps : List (Int × Int)) (i : Nat) p, ps[i]? = some p → (pCells ps)[i * 2]? = some (.int .i64 p.1) ∧ (pCells ps)[i * 2 + 1]? = some (.int .i64 p.2)
  | [], i, p, h => by simp at h
  | q :: ps, 0, p, h => by
    obtain rfl : q = p := by simpa using h
    exact ⟨rfl, rfl⟩
  | q :: ps, i + 1, p, h => by
    have := pCells_at ps i p (by simpa using h)
    rw [show (i + 1) * 2 = i * 2 + 2 by omega]
    exact this

/-- What a reader has: a box at HA of two slices, three rows that grow behind it. -/
structure AQ (w0 wr : World) (HA : Nat) (F : Nat → Prop) (rv pv tv : Value) (xs : List Value) (d : Rd) : Prop where
  box : wr.heap[HA]? = some (.cells #[rv, pv] 57 (0, 0))
  rrow : wr.ownsRow (HA + 1) 123 6 rv d.rules.length xs
  rules : RulesIn F wr xs d.rules
  prow : wr.ownsRow (HA + 1) 118 2 pv d.pairs.length (pCells d.pairs)
  trow : wr.ownsRow (HA + 1) 3 1 tv d.at_.length (d.at_.map fun n => .int .i64 (n : Nat))
  foot : ∀ b, F b → HA < b ∧ b < wr.heap.size ∧ rv.ownBlock ≠ some b ∧ pv.ownBlock ≠ some b ∧ tv.ownBlock ≠ some b
  base : w0.heap.size ≤ HA
  below : Below w0.heap.size w0 wr
theorem AQ.keep {w0 w w' : World} {HA : Nat} {F : Nat → Prop} {rv pv tv : Value} {xs : List Value} {d : Rd} (h : AQ w0 w HA F rv pv tv xs d) (hb : Below w.heap.size w w') : AQ w0 w' HA F rv pv tv xs d :=
  ⟨(hb.block HA (Array.getElem?_eq_some_iff.1 h.box).1).trans h.box, own_keep9 h.rrow hb, h.rules.still hb.size fun b _ hlt => hb.block b hlt, own_keep9 h.prow hb, own_keep9 h.trow hb,
    fun b hF => by obtain ⟨h1, h2, h3⟩ := h.foot b hF; exact ⟨h1, Nat.lt_of_lt_of_le h2 hb.size, h3⟩, h.base, h.below.trans (hb.mono h.below.size)⟩
/-- Rows of unlike types lie in unlike blocks. -/
theorem own_types {w : World} {B e e' s s' n n' : Nat} {v v' : Value} {xs xs' : List Value} (h : w.ownsRow B e s v n xs) (h' : w.ownsRow B e' s' v' n' xs') (he : e ≠ e') (g : Nat) (hg : v.ownBlock = some g) : v'.ownBlock ≠ some g := by
  intro hg'
  rcases h.2 with ⟨rfl, _⟩ | ⟨q, cap, cur, rfl, _, h1, _⟩
  · simp [Value.ownBlock] at hg
  · rcases h'.2 with ⟨rfl, _⟩ | ⟨q', cap', cur', rfl, _, h1', _⟩
    · simp [Value.ownBlock] at hg'
    · obtain rfl : q = g := by simpa [Value.ownBlock] using hg
      obtain rfl : q' = q := by simpa [Value.ownBlock] using hg'
      rw [h1] at h1'
      injection Option.some.inj h1' with _ e2 _
      exact he e2
theorem own_blk {w w' : World} {B e s n : Nat} {v : Value} {xs : List Value} (h : w.ownsRow B e s v n xs) (hb : ∀ g, v.ownBlock = some g → w'.heap[g]? = w.heap[g]?) : w'.ownsRow B e s v n xs := by
  refine ⟨h.1, ?_⟩
  rcases h.2 with h | ⟨g, cap, cur, h1, h2, h3, h4⟩
  · exact .inl h
  · subst h1
    exact .inr ⟨g, cap, cur, rfl, h2, (hb g rfl).trans h3, h4⟩
/-- The box's cells are written anew. -/
theorem set_other (w : World) (HA o : Nat) (v : Value) {k : Nat} (hk : k ≠ HA) : (w.setCell ⟨HA, o, none⟩ v).heap[k]? = w.heap[k]? := Below.heap_setCell _ _ _ _ hk
theorem set_size (w : World) (a : Addr) (v : Value) : (w.setCell a v).heap.size = w.heap.size := by simp [World.setCell]
/-- Where a row that has grown lies. -/
def Grew (w : World) (v v' : Value) : Prop := v'.ownBlock = v.ownBlock ∨ ∀ g, v'.ownBlock = some g → w.heap.size ≤ g
/-- A pair more. -/
theorem AQ.pair {w0 w w4 : World} {HA : Nat} {F : Nat → Prop} {rv pv tv pv' : Value} {xs : List Value} {d : Rd} {p : Int × Int} (h : AQ w0 w HA F rv pv tv xs d)
    (hown : w4.ownsRow (HA + 1) 118 2 pv' (d.pairs.length + 1) (pCells d.pairs ++ [.int .i64 p.1, .int .i64 p.2])) (hg : w.grownBy w4 pv.ownBlock) (hw : Grew w pv pv') :
    AQ w0 (w4.setCell ⟨HA, 1, none⟩ pv') HA F rv pv' tv xs { d with pairs := d.pairs ++ [p] } := by
  have hHA := (Array.getElem?_eq_some_iff.1 h.box).1
  have pb : ∀ g, pv.ownBlock = some g → HA + 1 ≤ g ∧ g < w.heap.size := h.prow.lt
  have key : ∀ k, k < w.heap.size → k ≠ HA → some k ≠ pv.ownBlock → (w4.setCell ⟨HA, 1, none⟩ pv').heap[k]? = w.heap[k]? := fun k hk hne hp => (set_other _ _ _ _ hne).trans (hg.block k hk hp)
  have hbox4 : w4.heap[HA]? = some (.cells #[rv, pv] 57 (0, 0)) := (hg.block HA hHA (fun e => by have := (pb HA e.symm).1; omega)).trans h.box
  refine ⟨by simp [World.setCell, Array.getElem?_modify, hbox4], own_blk h.rrow fun g hgr => ?_, ?_, ?_, own_blk h.trow fun g hgt => ?_, fun b hF => ?_, h.base, ?_⟩
  · have hlt := h.rrow.lt g hgr
    exact key g hlt.2 (by omega) (fun e => own_types h.rrow h.prow (by decide) g hgr e.symm)
  · refine h.rules.still (by rw [set_size]; exact hg.size) fun b hF hlt => ?_
    obtain ⟨f1, _, _, f4, _⟩ := h.foot b hF
    exact key b hlt (by omega) (fun e => f4 e.symm)
  · have e1 : pCells (d.pairs ++ [p]) = pCells d.pairs ++ [.int .i64 p.1, .int .i64 p.2] := by simp [pCells]
    have e2 : (d.pairs ++ [p]).length = d.pairs.length + 1 := by simp
    show World.ownsRow _ _ _ _ _ (d.pairs ++ [p]).length (pCells (d.pairs ++ [p]))
    rw [e1, e2]
    refine own_blk hown fun g hgp => set_other _ _ _ _ ?_
    have := (hown.lt g hgp).1
    omega
  · have hlt := h.trow.lt g hgt
    exact key g hlt.2 (by omega) (fun e => own_types h.trow h.prow (by decide) g hgt e.symm)
  · obtain ⟨f1, f2, f3, f4, f5⟩ := h.foot b hF
    refine ⟨f1, by rw [set_size]; exact Nat.lt_of_lt_of_le f2 hg.size, f3, fun e => ?_, f5⟩
    rcases hw with hw | hw
    · exact f4 (hw ▸ e)
    · have := hw b e; omega
  · exact (h.below.grown hg h.below.size (fun k hk => by have := (pb k hk).1; have := h.base; omega)).setCell (p := ⟨HA, 1, none⟩) h.base _
/-- A rule more, and where it stands: both rows grown, then the box is written. -/
theorem AQ.rule {w0 w w4 w5 : World} {HA : Nat} {F : Nat → Prop} {rv pv tv rv' tv' : Value} {xs : List Value} {d : Rd} {r : Ru} {A : Option Addr} {cap n : Nat} (h : AQ w0 w HA F rv pv tv xs d) (hi : ItemsIn F w (.slice A r.cond.length cap) r.cond)
    (hown : w4.ownsRow (HA + 1) 123 6 rv' (d.rules.length + 1) (xs ++ [.bool r.pre, .int .i64 r.flag, .bool r.cross, .string r.strip, .string r.add, .slice A r.cond.length cap])) (hg : w.grownBy w4 rv.ownBlock) (hw : Grew w rv rv')
    (hown2 : w5.ownsRow (HA + 1) 3 1 tv' (d.at_.length + 1) ((d.at_.map fun n => .int .i64 (n : Nat)) ++ [.int .i64 n])) (hg2 : w4.grownBy w5 tv.ownBlock) (hw2 : Grew w4 tv tv') :
    AQ w0 (w5.setCell ⟨HA, 0, none⟩ rv') HA F rv' pv tv' (xs ++ [.bool r.pre, .int .i64 r.flag, .bool r.cross, .string r.strip, .string r.add, .slice A r.cond.length cap]) { d with rules := d.rules ++ [r], at_ := d.at_ ++ [n] } := by
  have hHA := (Array.getElem?_eq_some_iff.1 h.box).1
  have rb : ∀ g, rv.ownBlock = some g → HA + 1 ≤ g ∧ g < w.heap.size := h.rrow.lt
  have tb : ∀ g, tv.ownBlock = some g → HA + 1 ≤ g ∧ g < w.heap.size := h.trow.lt
  have key : ∀ k, k < w.heap.size → k ≠ HA → some k ≠ rv.ownBlock → some k ≠ tv.ownBlock → (w5.setCell ⟨HA, 0, none⟩ rv').heap[k]? = w.heap[k]? := fun k hk hne hr ht =>
    (set_other _ _ _ _ hne).trans ((hg2.block k (Nat.lt_of_lt_of_le hk hg.size) ht).trans (hg.block k hk hr))
  have hsz : w.heap.size ≤ w5.heap.size := Nat.le_trans hg.size hg2.size
  have hbox5 : w5.heap[HA]? = some (.cells #[rv, pv] 57 (0, 0)) :=
    (hg2.block HA (Nat.lt_of_lt_of_le hHA hg.size) (fun e => by have := (tb HA e.symm).1; omega)).trans ((hg.block HA hHA (fun e => by have := (rb HA e.symm).1; omega)).trans h.box)
  have hstill : ∀ b, F b → b < w.heap.size → (w5.setCell ⟨HA, 0, none⟩ rv').heap[b]? = w.heap[b]? := fun b hF hlt => by
    obtain ⟨f1, _, f3, _, f5⟩ := h.foot b hF
    exact key b hlt (by omega) (fun e => f3 e.symm) (fun e => f5 e.symm)
  refine ⟨by simp [World.setCell, Array.getElem?_modify, hbox5], ?_, ?_, own_blk h.prow fun g hgp => ?_, ?_, fun b hF => ?_, h.base, ?_⟩
  · have e2 : (d.rules ++ [r]).length = d.rules.length + 1 := by simp
    show World.ownsRow _ _ _ _ _ (d.rules ++ [r]).length _
    rw [e2]
    refine own_blk hown fun g hgr => (set_other _ _ _ _ ?_).trans (hg2.block g (hown.lt g hgr).2 ?_)
    · have := (hown.lt g hgr).1; omega
    · intro e
      have htv : tv.ownBlock = some g := e.symm
      rcases hw with hw | hw
      · exact own_types h.rrow h.trow (by decide) g (hw ▸ hgr) htv
      · have := hw g hgr
        have := (tb g htv).2
        omega
  · exact (h.rules.snoc hi).still (by rw [set_size]; exact hsz) hstill
  · have hlt := h.prow.lt g hgp
    exact key g hlt.2 (by omega) (fun e => own_types h.prow h.rrow (by decide) g hgp e.symm) (fun e => own_types h.prow h.trow (by decide) g hgp e.symm)
  · have e2 : (d.at_ ++ [n]).length = d.at_.length + 1 := by simp
    show World.ownsRow _ _ _ _ _ (d.at_ ++ [n]).length ((d.at_ ++ [n]).map fun n => .int .i64 (n : Nat))
    rw [e2, List.map_append]
    refine own_blk hown2 fun g hgt => set_other _ _ _ _ ?_
    have := (hown2.lt g hgt).1
    omega
  · obtain ⟨f1, f2, f3, f4, f5⟩ := h.foot b hF
    refine ⟨f1, by rw [set_size]; exact Nat.lt_of_lt_of_le f2 hsz, fun e => ?_, f4, fun e => ?_⟩
    · rcases hw with hw | hw
      · exact f3 (hw ▸ e)
      · have := hw b e; omega
    · rcases hw2 with hw2 | hw2
      · exact f5 (hw2 ▸ e)
      · have := hw2 b e
        have := hg.size
        omega
  · have b4 := h.below.grown hg h.below.size (fun k hk => by have := (rb k hk).1; have := h.base; omega)
    exact (b4.grown hg2 b4.size (fun k hk => by have := (tb k hk).1; have := h.base; omega)).setCell (p := ⟨HA, 0, none⟩) h.base _
/-- The first line that is none. -/
theorem AQ.bad {w0 w : World} {HA : Nat} {F : Nat → Prop} {rv pv tv : Value} {xs : List Value} {d : Rd} (h : AQ w0 w HA F rv pv tv xs d) (b : Nat) : AQ w0 w HA F rv pv tv xs { d with bad := b } :=
  ⟨h.box, h.rrow, h.rules, h.prow, h.trow, h.foot, h.base, h.below⟩
/-- What is in new blocks joins F. -/
theorem AQ.wide {w0 w w' : World} {HA : Nat} {F : Nat → Prop} {rv pv tv : Value} {xs : List Value} {d : Rd} (h : AQ w0 w HA F rv pv tv xs d) (hb : Below w.heap.size w w') :
    AQ w0 w' HA (fun b => F b ∨ (w.heap.size ≤ b ∧ b < w'.heap.size)) rv pv tv xs d := by
  have hk := h.keep hb
  have hHA := (Array.getElem?_eq_some_iff.1 h.box).1
  refine ⟨hk.box, hk.rrow, hk.rules.mono fun b hF => .inl hF, hk.prow, hk.trow, fun b hF => ?_, hk.base, hk.below⟩
  rcases hF with hF | ⟨h1, h2⟩
  · exact hk.foot b hF
  · refine ⟨by omega, h2, fun e => ?_, fun e => ?_, fun e => ?_⟩
    · have := (h.rrow.lt b e).2; omega
    · have := (h.prow.lt b e).2; omega
    · have := (h.trow.lt b e).2; omega
/-- What the box holds reads as an affix file. -/
theorem AQ.reads {w0 w : World} {HA : Nat} {F : Nat → Prop} {rv pv tv : Value} {xs : List Value} {d : Rd} (h : AQ w0 w HA F rv pv tv xs d) : AffAt w (.agg #[rv, pv]) ⟨d.rules, d.pairs⟩ := by
  have hR : ∃ A cap, rv = .slice A d.rules.length cap ∧ RulesAt w (.slice A d.rules.length cap) d.rules := by
    have hc := @World.ownsRow.cells _ _ _ _ _ _ _ h.rrow
    rcases h.rrow.2 with ⟨rfl, h0⟩ | ⟨g, cap, cur, rfl, hb, hg, hnc, hcm, _⟩
    · have hn : d.rules = [] := List.eq_nil_of_length_eq_zero h0
      exact ⟨none, 0, by rw [h0], .inl ⟨hn, none, 0, by rw [h0]⟩⟩
    · refine ⟨_, cap, rfl, .inr ⟨g, 0, cap, rfl, (Array.getElem?_eq_some_iff.1 hg).1, hnc, hcm, fun i r hr => ?_⟩⟩
      obtain ⟨q0, q1, q2, q3, q4, D, dc, q5, q6⟩ := h.rules.2 i r hr
      have hcc : ∀ j u, xs[j]? = some u → w.cell? ⟨g, j, none⟩ = some u := fun j u hu => by rw [← add9]; exact hc (g := g) rfl j u hu
      unfold RuCells
      rw [Nat.zero_add]
      exact ⟨hcc _ _ q0, hcc _ _ q1, hcc _ _ q2, hcc _ _ q3, hcc _ _ q4, D, dc, hcc _ _ q5, q6.at⟩
  have hP : ∃ A cap, pv = .slice A d.pairs.length cap ∧ PairsAt w (.slice A d.pairs.length cap) d.pairs := by
    have hc := @World.ownsRow.cells _ _ _ _ _ _ _ h.prow
    rcases h.prow.2 with ⟨rfl, h0⟩ | ⟨g, cap, cur, rfl, hb, hg, hnc, hcm, _⟩
    · have hn : d.pairs = [] := List.eq_nil_of_length_eq_zero h0
      exact ⟨none, 0, by rw [h0], .inl ⟨hn, none, 0, by rw [h0]⟩⟩
    · refine ⟨_, cap, rfl, .inr ⟨g, 0, cap, rfl, (Array.getElem?_eq_some_iff.1 hg).1, hnc, hcm, fun i p hp => ?_⟩⟩
      obtain ⟨q0, q1⟩ := pCells_at d.pairs i p hp
      have hcc : ∀ j u, (pCells d.pairs)[j]? = some u → w.cell? ⟨g, j, none⟩ = some u := fun j u hu => by rw [← add9]; exact hc (g := g) rfl j u hu
      rw [Nat.zero_add]
      exact ⟨hcc _ _ q0, hcc _ _ q1⟩
  obtain ⟨A, cA, rfl, hA⟩ := hR
  obtain ⟨B, cB, rfl, hB⟩ := hP
  exact ⟨A, cA, B, cB, rfl, hA, hB⟩
end Go.Proofs.YtfehpcbmdancoaaGreatDoor.Af
namespace Go.Proofs.YtfehpcbmdancoaaGreatDoor.Af
open Go Go.RowKit Go.Lib

/-- A file at HA, rows of rules and pairs behind it. -/
structure LQ (w0 wr : World) (HA : Nat) (F : Nat → Prop) (rv pv : Value) (xs : List Value) (d : Rd) (k m : Int) : Prop where
  box : wr.heap[HA]? = some (.cells #[rv, pv, .int .i64 k, .int .i64 (d.bad : Nat), .int .i64 m] 93 (0, 0))
  rrow : wr.ownsRow (HA + 1) 123 6 rv d.rules.length xs
  rules : RulesIn F wr xs d.rules
  prow : wr.ownsRow (HA + 1) 118 2 pv d.pairs.length (pCells d.pairs)
  foot : ∀ b, F b → HA < b ∧ b < wr.heap.size ∧ rv.ownBlock ≠ some b ∧ pv.ownBlock ≠ some b
  base : w0.heap.size ≤ HA
  below : Below w0.heap.size w0 wr
theorem LQ.keep {w0 w w' : World} {HA : Nat} {F : Nat → Prop} {rv pv : Value} {xs : List Value} {d : Rd} {k m : Int} (h : LQ w0 w HA F rv pv xs d k m) (hb : Below w.heap.size w w') : LQ w0 w' HA F rv pv xs d k m :=
  ⟨(hb.block HA (Array.getElem?_eq_some_iff.1 h.box).1).trans h.box, own_keep9 h.rrow hb, h.rules.still hb.size fun b _ hlt => hb.block b hlt, own_keep9 h.prow hb,
    fun b hF => by obtain ⟨h1, h2, h3⟩ := h.foot b hF; exact ⟨h1, Nat.lt_of_lt_of_le h2 hb.size, h3⟩, h.base, h.below.trans (hb.mono h.below.size)⟩
theorem LQ.hi {w0 w : World} {HA : Nat} {F : Nat → Prop} {rv pv : Value} {xs : List Value} {d : Rd} {k m : Int} (h : LQ w0 w HA F rv pv xs d k m) : HA + 1 ≤ w.heap.size := (Array.getElem?_eq_some_iff.1 h.box).1
theorem LQ.boxc {w0 w : World} {HA : Nat} {F : Nat → Prop} {rv pv : Value} {xs : List Value} {d : Rd} {k m : Int} (h : LQ w0 w HA F rv pv xs d k m) :
    w.cell? ⟨HA, 0, none⟩ = some rv ∧ w.cell? ⟨HA, 1, none⟩ = some pv ∧ w.cell? ⟨HA, 2, none⟩ = some (.int .i64 k) ∧ w.cell? ⟨HA, 3, none⟩ = some (.int .i64 (d.bad : Nat)) ∧ w.cell? ⟨HA, 4, none⟩ = some (.int .i64 m) ∧ ∀ o, w.frozen? ⟨HA, o, none⟩ = false := by
  refine ⟨?_, ?_, ?_, ?_, ?_, fun o => ?_⟩ <;> simp [World.cell?, World.frozen?, h.box]
/-- A number of the file is written. -/
theorem LQ.put {w0 w : World} {HA : Nat} {F : Nat → Prop} {rv pv : Value} {xs : List Value} {d : Rd} {k m : Int} (h : LQ w0 w HA F rv pv xs d k m) {o : Nat} {v : Value} {k' m' : Int} {b : Nat}
    (hb : (w.setCell ⟨HA, o, none⟩ v).heap[HA]? = some (.cells #[rv, pv, .int .i64 k', .int .i64 (b : Nat), .int .i64 m'] 93 (0, 0))) :
    LQ w0 (w.setCell ⟨HA, o, none⟩ v) HA F rv pv xs { d with bad := b } k' m' := by
  refine ⟨hb, own_blk h.rrow fun g hg => set_other _ _ _ _ ?_, h.rules.still (by rw [set_size]; exact Nat.le_refl _) fun b hF _ => set_other _ _ _ _ ?_, own_blk h.prow fun g hg => set_other _ _ _ _ ?_, fun b hF => by rw [set_size]; exact h.foot b hF, h.base, h.below.setCell (p := ⟨HA, o, none⟩) h.base _⟩
  · have := (h.rrow.lt g hg).1; omega
  · have := (h.foot b hF).1; omega
  · have := (h.prow.lt g hg).1; omega
theorem LQ.lines {w0 w : World} {HA : Nat} {F : Nat → Prop} {rv pv : Value} {xs : List Value} {d : Rd} {k m : Int} (h : LQ w0 w HA F rv pv xs d k m) (k' : Int) :
    LQ w0 (w.setCell ⟨HA, 2, none⟩ (.int .i64 k')) HA F rv pv xs d k' m := h.put (b := d.bad) (by simp [World.setCell, Array.getElem?_modify, h.box])
theorem LQ.bad {w0 w : World} {HA : Nat} {F : Nat → Prop} {rv pv : Value} {xs : List Value} {d : Rd} {k m : Int} (h : LQ w0 w HA F rv pv xs d k m) (b : Nat) :
    LQ w0 (w.setCell ⟨HA, 3, none⟩ (.int .i64 b)) HA F rv pv xs { d with bad := b } k m := h.put (b := b) (by simp [World.setCell, Array.getElem?_modify, h.box])
theorem LQ.mixed {w0 w : World} {HA : Nat} {F : Nat → Prop} {rv pv : Value} {xs : List Value} {d : Rd} {k m : Int} (h : LQ w0 w HA F rv pv xs d k m) (m' : Int) :
    LQ w0 (w.setCell ⟨HA, 4, none⟩ (.int .i64 m')) HA F rv pv xs d k m' := h.put (b := d.bad) (by simp [World.setCell, Array.getElem?_modify, h.box])
/-- A pair more. -/
theorem LQ.pair {w0 w w4 : World} {HA : Nat} {F : Nat → Prop} {rv pv pv' : Value} {xs : List Value} {d : Rd} {k m : Int} {p : Int × Int} (h : LQ w0 w HA F rv pv xs d k m)
    (hown : w4.ownsRow (HA + 1) 118 2 pv' (d.pairs.length + 1) (pCells d.pairs ++ [.int .i64 p.1, .int .i64 p.2])) (hg : w.grownBy w4 pv.ownBlock) (hw : Grew w pv pv') :
    LQ w0 (w4.setCell ⟨HA, 1, none⟩ pv') HA F rv pv' xs { d with pairs := d.pairs ++ [p] } k m := by
  have hHA := (Array.getElem?_eq_some_iff.1 h.box).1
  have pb : ∀ g, pv.ownBlock = some g → HA + 1 ≤ g ∧ g < w.heap.size := h.prow.lt
  have key : ∀ k, k < w.heap.size → k ≠ HA → some k ≠ pv.ownBlock → (w4.setCell ⟨HA, 1, none⟩ pv').heap[k]? = w.heap[k]? := fun k hk hne hp => (set_other _ _ _ _ hne).trans (hg.block k hk hp)
  have hbox4 : w4.heap[HA]? = some (.cells #[rv, pv, .int .i64 k, .int .i64 (d.bad : Nat), .int .i64 m] 93 (0, 0)) := (hg.block HA hHA (fun e => by have := (pb HA e.symm).1; omega)).trans h.box
  refine ⟨by simp [World.setCell, Array.getElem?_modify, hbox4], own_blk h.rrow fun g hgr => ?_, ?_, ?_, fun b hF => ?_, h.base, ?_⟩
  · have hlt := h.rrow.lt g hgr
    exact key g hlt.2 (by omega) (fun e => own_types h.rrow h.prow (by decide) g hgr e.symm)
  · refine h.rules.still (by rw [set_size]; exact hg.size) fun b hF hlt => ?_
    obtain ⟨f1, _, _, f4⟩ := h.foot b hF
    exact key b hlt (by omega) (fun e => f4 e.symm)
  · have e1 : pCells (d.pairs ++ [p]) = pCells d.pairs ++ [.int .i64 p.1, .int .i64 p.2] := by simp [pCells]
    have e2 : (d.pairs ++ [p]).length = d.pairs.length + 1 := by simp
    show World.ownsRow _ _ _ _ _ (d.pairs ++ [p]).length (pCells (d.pairs ++ [p]))
    rw [e1, e2]
    refine own_blk hown fun g hgp => set_other _ _ _ _ ?_
    have := (hown.lt g hgp).1
    omega
  · obtain ⟨f1, f2, f3, f4⟩ := h.foot b hF
    refine ⟨f1, by rw [set_size]; exact Nat.lt_of_lt_of_le f2 hg.size, f3, fun e => ?_⟩
    rcases hw with hw | hw
    · exact f4 (hw ▸ e)
    · have := hw b e; omega
  · exact (h.below.grown hg h.below.size (fun k hk => by have := (pb k hk).1; have := h.base; omega)).setCell (p := ⟨HA, 1, none⟩) h.base _
/-- A rule more. -/
theorem LQ.rule {w0 w w4 : World} {HA : Nat} {F : Nat → Prop} {rv pv rv' : Value} {xs : List Value} {d : Rd} {k m : Int} {r : Ru} {A : Option Addr} {cap n : Nat} (h : LQ w0 w HA F rv pv xs d k m) (hi : ItemsIn F w (.slice A r.cond.length cap) r.cond)
    (hown : w4.ownsRow (HA + 1) 123 6 rv' (d.rules.length + 1) (xs ++ [.bool r.pre, .int .i64 r.flag, .bool r.cross, .string r.strip, .string r.add, .slice A r.cond.length cap])) (hg : w.grownBy w4 rv.ownBlock) (hw : Grew w rv rv') :
    LQ w0 (w4.setCell ⟨HA, 0, none⟩ rv') HA F rv' pv (xs ++ [.bool r.pre, .int .i64 r.flag, .bool r.cross, .string r.strip, .string r.add, .slice A r.cond.length cap]) { d with rules := d.rules ++ [r], at_ := d.at_ ++ [n] } k m := by
  have hHA := (Array.getElem?_eq_some_iff.1 h.box).1
  have rb : ∀ g, rv.ownBlock = some g → HA + 1 ≤ g ∧ g < w.heap.size := h.rrow.lt
  have key : ∀ k, k < w.heap.size → k ≠ HA → some k ≠ rv.ownBlock → (w4.setCell ⟨HA, 0, none⟩ rv').heap[k]? = w.heap[k]? := fun k hk hne hp => (set_other _ _ _ _ hne).trans (hg.block k hk hp)
  have hbox4 : w4.heap[HA]? = some (.cells #[rv, pv, .int .i64 k, .int .i64 (d.bad : Nat), .int .i64 m] 93 (0, 0)) := (hg.block HA hHA (fun e => by have := (rb HA e.symm).1; omega)).trans h.box
  have hstill : ∀ b, F b → b < w.heap.size → (w4.setCell ⟨HA, 0, none⟩ rv').heap[b]? = w.heap[b]? := fun b hF hlt => by
    obtain ⟨f1, _, f3, _⟩ := h.foot b hF
    exact key b hlt (by omega) (fun e => f3 e.symm)
  refine ⟨by simp [World.setCell, Array.getElem?_modify, hbox4], ?_, ?_, own_blk h.prow fun g hgp => ?_, fun b hF => ?_, h.base, ?_⟩
  · have e2 : (d.rules ++ [r]).length = d.rules.length + 1 := by simp
    show World.ownsRow _ _ _ _ _ (d.rules ++ [r]).length _
    rw [e2]
    refine own_blk hown fun g hgr => set_other _ _ _ _ ?_
    have := (hown.lt g hgr).1
    omega
  · exact (h.rules.snoc hi).still (by rw [set_size]; exact hg.size) hstill
  · have hlt := h.prow.lt g hgp
    exact key g hlt.2 (by omega) (fun e => own_types h.prow h.rrow (by decide) g hgp e.symm)
  · obtain ⟨f1, f2, f3, f4⟩ := h.foot b hF
    refine ⟨f1, by rw [set_size]; exact Nat.lt_of_lt_of_le f2 hg.size, fun e => ?_, f4⟩
    rcases hw with hw | hw
    · exact f3 (hw ▸ e)
    · have := hw b e; omega
  · exact (h.below.grown hg h.below.size (fun k hk => by have := (rb k hk).1; have := h.base; omega)).setCell (p := ⟨HA, 0, none⟩) h.base _
/-- What is in new blocks joins F. -/
theorem LQ.wide {w0 w w' : World} {HA : Nat} {F : Nat → Prop} {rv pv : Value} {xs : List Value} {d : Rd} {k m : Int} (h : LQ w0 w HA F rv pv xs d k m) (hb : Below w.heap.size w w') :
    LQ w0 w' HA (fun b => F b ∨ (w.heap.size ≤ b ∧ b < w'.heap.size)) rv pv xs d k m := by
  have hk := h.keep hb
  have hHA := (Array.getElem?_eq_some_iff.1 h.box).1
  refine ⟨hk.box, hk.rrow, hk.rules.mono fun b hF => .inl hF, hk.prow, fun b hF => ?_, hk.base, hk.below⟩
  rcases hF with hF | ⟨h1, h2⟩
  · exact hk.foot b hF
  · refine ⟨by omega, h2, fun e => ?_, fun e => ?_⟩
    · have := (h.rrow.lt b e).2; omega
    · have := (h.prow.lt b e).2; omega
/-- What the file holds reads as an affix file. -/
theorem LQ.reads {w0 w : World} {HA : Nat} {F : Nat → Prop} {rv pv : Value} {xs : List Value} {d : Rd} {k m : Int} (h : LQ w0 w HA F rv pv xs d k m) : AffAt w (.agg #[rv, pv]) ⟨d.rules, d.pairs⟩ := by
  have hR : ∃ A cap, rv = .slice A d.rules.length cap ∧ RulesAt w (.slice A d.rules.length cap) d.rules := by
    have hc := @World.ownsRow.cells _ _ _ _ _ _ _ h.rrow
    rcases h.rrow.2 with ⟨rfl, h0⟩ | ⟨g, cap, cur, rfl, hb, hg, hnc, hcm, _⟩
    · have hn : d.rules = [] := List.eq_nil_of_length_eq_zero h0
      exact ⟨none, 0, by rw [h0], .inl ⟨hn, none, 0, by rw [h0]⟩⟩
    · refine ⟨_, cap, rfl, .inr ⟨g, 0, cap, rfl, (Array.getElem?_eq_some_iff.1 hg).1, hnc, hcm, fun i r hr => ?_⟩⟩
      obtain ⟨q0, q1, q2, q3, q4, D, dc, q5, q6⟩ := h.rules.2 i r hr
      have hcc : ∀ j u, xs[j]? = some u → w.cell? ⟨g, j, none⟩ = some u := fun j u hu => by rw [← add9]; exact hc (g := g) rfl j u hu
      unfold RuCells
      rw [Nat.zero_add]
      exact ⟨hcc _ _ q0, hcc _ _ q1, hcc _ _ q2, hcc _ _ q3, hcc _ _ q4, D, dc, hcc _ _ q5, q6.at⟩
  have hP : ∃ A cap, pv = .slice A d.pairs.length cap ∧ PairsAt w (.slice A d.pairs.length cap) d.pairs := by
    have hc := @World.ownsRow.cells _ _ _ _ _ _ _ h.prow
    rcases h.prow.2 with ⟨rfl, h0⟩ | ⟨g, cap, cur, rfl, hb, hg, hnc, hcm, _⟩
    · have hn : d.pairs = [] := List.eq_nil_of_length_eq_zero h0
      exact ⟨none, 0, by rw [h0], .inl ⟨hn, none, 0, by rw [h0]⟩⟩
    · refine ⟨_, cap, rfl, .inr ⟨g, 0, cap, rfl, (Array.getElem?_eq_some_iff.1 hg).1, hnc, hcm, fun i p hp => ?_⟩⟩
      obtain ⟨q0, q1⟩ := pCells_at d.pairs i p hp
      have hcc : ∀ j u, (pCells d.pairs)[j]? = some u → w.cell? ⟨g, j, none⟩ = some u := fun j u hu => by rw [← add9]; exact hc (g := g) rfl j u hu
      rw [Nat.zero_add]
      exact ⟨hcc _ _ q0, hcc _ _ q1⟩
  obtain ⟨A, cA, rfl, hA⟩ := hR
  obtain ⟨B, cB, rfl, hB⟩ := hP
  exact ⟨A, cA, B, cB, rfl, hA, hB⟩
theorem LQ.forms {w0 w : World} {HA : Nat} {F : Nat → Prop} {rv pv : Value} {xs : List Value} {d : Rd} {k m : Int} (h : LQ w0 w HA F rv pv xs d k m) :
    ∃ A c B c', rv = .slice A d.rules.length c ∧ pv = .slice B d.pairs.length c' ∧ RulesAt w (.slice A d.rules.length c) d.rules ∧ PairsAt w (.slice B d.pairs.length c') d.pairs := by
  obtain ⟨A, c, B, c', e, h1, h2⟩ := h.reads
  injection e with e
  simp only [Array.mk.injEq, List.cons.injEq, and_true] at e
  exact ⟨A, c, B, c', e.1, e.2, h1, h2⟩
theorem LQ.start (w : World) : LQ w (w.alloc (.cells #[.slice none 0 0, .slice none 0 0, .int .i64 0, .int .i64 0, .int .i64 0] 93)) w.heap.size (fun _ => False) (.slice none 0 0) (.slice none 0 0) [] rd0 0 0 :=
  ⟨World.alloc_heap_new w _, World.ownsRow_nil _ _ _ _, RulesIn.nil _ _, World.ownsRow_nil _ _ _ _, fun _ h => h.elim, Nat.le_refl _, (Below.refl _ _).alloc (Nat.le_refl _) _⟩
end Go.Proofs.YtfehpcbmdancoaaGreatDoor.Af
namespace Go.Proofs.YtfehpcbmdancoaaGreatDoor.Af
open Go Go.RowKit Go.Lib

theorem Tryz.infosL123 : (Tryz.prog.info? 123).map (fun i => (i.zero, i.size, i.bytes)) = some (some (.agg #[.bool false, .int .i64 0, .bool false, .string ⟨#[]⟩, .string ⟨#[]⟩, .slice none 0 0]), 6, 80) := by kernel_rfl
theorem Tryz.infosL118 : (Tryz.prog.info? 118).map (fun i => (i.zero, i.size, i.bytes)) = some (some (.agg #[.int .i64 0, .int .i64 0]), 2, 16) := by kernel_rfl

set_option maxRecDepth 100000 in
set_option maxHeartbeats 1000000 in
theorem wa1_any (w : World) (q : Nat) (p : Ru) (sv : Value) (b : Bool) (f : Int) (hlt : q < w.heap.size) (h0 : w.cell? ⟨q, 0, none⟩ = some (.bool b)) (h1 : w.cell? ⟨q, 1, none⟩ = some (.int .i64 f)) (hsv : ∃ A n c, sv = .slice A n c) :
    Calls Tryz.prog 146 #[.agg #[.bool p.pre, .int .i64 p.flag, .bool p.cross, .string p.strip, .string p.add, sv], .pointer (some ⟨q, 0, none⟩)] w fun e w' => e = .returned (.bool (p.flag == f && !(p.pre == b))) ∧ Below w.heap.size w w' := by
  obtain ⟨A, n, c, rfl⟩ := hsv
  have HB := Lib.hid ((Below.refl w.heap.size w).alloc (Nat.le_refl _) (.cells #[.bool p.pre, .int .i64 p.flag, .bool p.cross, .string p.strip, .string p.add, .slice A n c] 123))
  have z0 := (HB.out.cell (p := ⟨q, 0, none⟩) hlt).trans h0
  have z1 := (HB.out.cell (p := ⟨q, 1, none⟩) hlt).trans h1
  obtain ⟨pp, pf, pc, ps, pa, pl⟩ := p
  dsimp only at HB z0 z1 ⊢
  clear h0 h1
  by_cases hf : pf = f
  · subst hf
    have d1 : (pf == pf) = true := by simp
    rw [d1, Bool.true_and]
    by_cases hp : pp = b
    · subst hp
      have d2 : (pp == pp) = true := by simp
      rw [d2]
      go_enter Tryz.func146, Tryz.ntmps146
      go_wp2_with fail
      go_ret
      exact ⟨rfl, HB.out⟩
    · have d2 : (pp == b) = false := by simpa using hp
      have d3 : (pp != b) = true := by simpa using hp
      rw [d2]
      clear hp
      go_enter Tryz.func146, Tryz.ntmps146
      go_wp2_with fail
      go_ret
      exact ⟨rfl, HB.out⟩
  · have d1 : (pf == f) = false := by simpa using hf
    have d3 : decide (pf = f) = false := decide_eq_false hf
    rw [d1, Bool.false_and]
    clear hf
    go_enter Tryz.func146, Tryz.ntmps146
    go_wp2_with fail
    go_ret
    exact ⟨rfl, HB.out⟩

theorem clash_take {rs : List Ru} {k : Nat} {p r : Ru} (h : rs[k]? = some p) : clash (rs.take (k + 1)) r = (clash (rs.take k) r || (p.flag == r.flag && !(p.pre == r.pre))) := by
  obtain ⟨hlt, he⟩ := List.getElem?_eq_some_iff.1 h
  unfold clash
  rw [List.take_succ_eq_append_getElem hlt, he, List.any_append]
  simp
theorem clash_in {rs : List Ru} {k : Nat} {p r : Ru} (h : rs[k]? = some p) (hc : (p.flag == r.flag && !(p.pre == r.pre)) = true) : clash rs r = true := by
  unfold clash
  rw [List.any_eq_true]
  exact ⟨p, List.mem_of_getElem? h, hc⟩

set_option maxRecDepth 100000 in
set_option maxHeartbeats 1000000 in
theorem wir_any (w : World) (v : Value) (rs : List Ru) (q : Nat) (r : Ru) (h : RulesAt w v rs) (hlt : q < w.heap.size) (h0 : w.cell? ⟨q, 0, none⟩ = some (.bool r.pre)) (h1 : w.cell? ⟨q, 1, none⟩ = some (.int .i64 r.flag)) :
    Calls Tryz.prog 198 #[v, .func (.func 146) #[] #[.pointer (some ⟨q, 0, none⟩)]] w fun e w' => (∃ x : Int, e = .returned (.int .i64 x) ∧ decide (0 ≤ x) = clash rs r) ∧ Below w.heap.size w w' := by
  obtain ⟨B, m, cB, rfl, hm⟩ : ∃ B m cB, v = .slice B m cB ∧ m = rs.length := by
    rcases h with ⟨rfl, a, c, rfl⟩ | ⟨b, off, c, rfl, _⟩
    · exact ⟨_, _, _, rfl, rfl⟩
    · exact ⟨_, _, _, rfl, rfl⟩
  have l2 := h.bd.1
  unfold maxLen at l2
  rw [← hm] at l2
  have HP := Lib.hid (rules_open h)
  have HM := Lib.hid hm
  have CT := Lib.hid (fun wx (hb : Below w.heap.size w wx) p A n c => wa1_any wx q p (.slice A n c) r.pre r.flag (Nat.lt_of_lt_of_le hlt hb.size) ((hb.cell (p := ⟨q, 0, none⟩) hlt).trans h0) ((hb.cell (p := ⟨q, 1, none⟩) hlt).trans h1) ⟨A, n, c, rfl⟩)
  clear h hm hlt h0 h1
  go_enter Tryz.func198, Tryz.ntmps198
  go_wp2_with fail
  go_loopg [5, 8] m (fun g _s5 i wr => ∃ k : Nat, k + g = m ∧ i = .int .i64 k ∧ Hid (Below w.heap.size w wr ∧ clash (rs.take k) r = false))
  case atStart => exact ⟨0, by omega, rfl, Lib.hid ⟨Below.refl _ _, by simp [clash]⟩⟩
  case round =>
    obtain ⟨k, hk, rfl, HK⟩ := hrel
    have hk0 : (0 : Int) ≤ k := by omega
    rcases Nat.eq_zero_or_pos gk with h0 | h0
    · have hkm : ¬ (k : Int) < m := by omega
      have HF := Lib.hid (show clash rs r = false by
        have h := HK.out.2
        rwa [List.take_of_length_le (by have := HM.out; omega)] at h)
      go_wp2_with fail
      go_ret
      exact ⟨⟨_, rfl, by rw [HF.out]; rfl⟩, HK.out.1⟩
    · have hkm : (k : Int) < m := by omega
      obtain ⟨p, hp⟩ : ∃ p, rs[k]? = some p := ⟨_, List.getElem?_eq_getElem (by have := HM.out; omega)⟩
      obtain ⟨b, off, rfl, hb, hc, hRU⟩ := HP.out k p hp
      obtain ⟨D, dc, e0, e1, e2, e3, e4, e5, -⟩ := (hRU.keep HK.out.1 hb).at_
      have hm1 : (m : Int) ≤ cB := by omega
      obtain ⟨dn, hdn⟩ : ∃ d, d = p.cond.length := ⟨_, rfl⟩
      rw [← hdn] at e5
      have C1 := Lib.hid (CT.out wr HK.out.1 p D dn dc)
      have HU := Lib.hid (clash_take (r := r) hp)
      have HI := Lib.hid (clash_in (r := r) hp)
      clear hRU hb hc hp hdn
      obtain ⟨pp, pf, pc, ps, pa, pl⟩ := p
      dsimp only at e0 e1 e2 e3 e4 C1 HU HI
      cases hz : (pf == r.flag && !(pp == r.pre)) with
      | true =>
        rw [hz] at C1 HI
        have HI2 := Lib.hid (HI.out rfl)
        clear hz HU HI
        go_wp2_with (go_at_call 146; refine C1.out.mono ?_)
        rintro e w2 ⟨rfl, hb2⟩
        have HB2 := Lib.hid (HK.out.1.trans (hb2.mono HK.out.1.size))
        clear hb2
        go_wp2_with fail
        go_ret
        exact ⟨⟨_, rfl, by rw [HI2.out]; exact decide_eq_true (by omega)⟩, HB2.out⟩
      | false =>
        rw [hz] at C1 HU
        have HU2 := Lib.hid (show clash (rs.take (k + 1)) r = false by rw [HU.out, HK.out.2]; rfl)
        clear hz HU HI
        go_wp2_with (go_at_call 146; refine C1.out.mono ?_)
        rintro e w2 ⟨rfl, hb2⟩
        have HB2 := Lib.hid (HK.out.1.trans (hb2.mono HK.out.1.size))
        clear hb2
        go_wp2_with fail
        go_roundg (gk - 1)
        case measure => omega
        case rel => exact ⟨k + 1, by omega, by go_num, Lib.hid ⟨HB2.out, HU2.out⟩⟩

set_option maxHeartbeats 1000000 in
theorem wcr_any (w : World) (v : Value) (rs : List Ru) (q : Nat) (r : Ru) (h : RulesAt w v rs) (hlt : q < w.heap.size) (h0 : w.cell? ⟨q, 0, none⟩ = some (.bool r.pre)) (h1 : w.cell? ⟨q, 1, none⟩ = some (.int .i64 r.flag)) :
    Calls Tryz.prog 147 #[v, .func (.func 146) #[] #[.pointer (some ⟨q, 0, none⟩)]] w fun e w' => e = .returned (.bool (clash rs r)) ∧ Below w.heap.size w w' := by
  have C := Lib.hid (wir_any w v rs q r h hlt h0 h1)
  obtain ⟨B, m, cB, rfl⟩ : ∃ B m cB, v = .slice B m cB := by
    rcases h with ⟨rfl, a, c, rfl⟩ | ⟨b, off, c, rfl, _⟩
    · exact ⟨_, _, _, rfl⟩
    · exact ⟨_, _, _, rfl⟩
  clear h hlt h0 h1
  go_enter Tryz.func147, Tryz.ntmps147
  go_wp2_with (go_at_call 198; refine C.out.mono ?_; rintro e w1 ⟨⟨x, rfl, hx⟩, hb⟩; have HR := Lib.hid hx; have HB := Lib.hid hb; clear hx hb)
  go_ret
  exact ⟨ret_bool HR.out, HB.out⟩

/-- What add has in memory: the file, the rule in a box. -/
structure AddAt (w0 wx : World) (HA : Nat) (F : Nat → Prop) (rv pv : Value) (xs : List Value) (d : Rd) (k m : Int) (q : Nat) (r : Ru) (A : Option Addr) (cap : Nat) : Prop where
  lq : LQ w0 wx HA F rv pv xs d k m
  bx : wx.heap[q]? = some (.cells #[.bool r.pre, .int .i64 r.flag, .bool r.cross, .string r.strip, .string r.add, .slice A r.cond.length cap] 123 (0, 0))
  it : ItemsIn F wx (.slice A r.cond.length cap) r.cond
  ne : HA < q
theorem AddAt.keep {w0 w w' : World} {HA : Nat} {F : Nat → Prop} {rv pv : Value} {xs : List Value} {d : Rd} {k m : Int} {q : Nat} {r : Ru} {A : Option Addr} {cap : Nat} (h : AddAt w0 w HA F rv pv xs d k m q r A cap) (hb : Below w.heap.size w w') : AddAt w0 w' HA F rv pv xs d k m q r A cap :=
  ⟨h.lq.keep hb, (hb.block q (Array.getElem?_eq_some_iff.1 h.bx).1).trans h.bx, h.it.still hb.size fun b _ hlt => hb.block b hlt, h.ne⟩
theorem AddAt.mixed {w0 w : World} {HA : Nat} {F : Nat → Prop} {rv pv : Value} {xs : List Value} {d : Rd} {k m : Int} {q : Nat} {r : Ru} {A : Option Addr} {cap : Nat} (h : AddAt w0 w HA F rv pv xs d k m q r A cap) (m' : Int) : AddAt w0 (w.setCell ⟨HA, 4, none⟩ (.int .i64 m')) HA F rv pv xs d k m' q r A cap :=
  ⟨h.lq.mixed m', (set_other _ _ _ _ (by have := h.ne; omega)).trans h.bx, h.it.still (by rw [set_size]; exact Nat.le_refl _) fun b hF _ => set_other _ _ _ _ (by have := (h.lq.foot b hF).1; omega), h.ne⟩
theorem AddAt.cells {w0 w : World} {HA : Nat} {F : Nat → Prop} {rv pv : Value} {xs : List Value} {d : Rd} {k m : Int} {q : Nat} {r : Ru} {A : Option Addr} {cap : Nat} (h : AddAt w0 w HA F rv pv xs d k m q r A cap) :
    w.cell? ⟨q, 0, none⟩ = some (.bool r.pre) ∧ w.cell? ⟨q, 1, none⟩ = some (.int .i64 r.flag) ∧ w.cell? ⟨q, 2, none⟩ = some (.bool r.cross) ∧ w.cell? ⟨q, 3, none⟩ = some (.string r.strip) ∧ w.cell? ⟨q, 4, none⟩ = some (.string r.add) ∧ w.cell? ⟨q, 5, none⟩ = some (.slice A r.cond.length cap) := by
  refine ⟨?_, ?_, ?_, ?_, ?_, ?_⟩ <;> simp [World.cell?, h.bx]
theorem AddAt.start {w0 w : World} {HA : Nat} {F : Nat → Prop} {rv pv : Value} {xs : List Value} {d : Rd} {k m : Int} {r : Ru} {A : Option Addr} {cap : Nat} (h : LQ w0 w HA F rv pv xs d k m) (hi : ItemsIn F w (.slice A r.cond.length cap) r.cond) :
    AddAt w0 (w.alloc (.cells #[.bool r.pre, .int .i64 r.flag, .bool r.cross, .string r.strip, .string r.add, .slice A r.cond.length cap] 123)) HA F rv pv xs d k m w.heap.size r A cap :=
  have hb := (Below.refl w.heap.size w).alloc (Nat.le_refl _) (.cells #[.bool r.pre, .int .i64 r.flag, .bool r.cross, .string r.strip, .string r.add, .slice A r.cond.length cap] 123)
  ⟨h.keep hb, World.alloc_heap_new w _, hi.still hb.size fun b _ hlt => hb.block b hlt, h.hi⟩
theorem rule_one1 (a : Bool) (b : Int) (c : Bool) (x y : ByteArray) (A : Option Addr) (n cp : Nat) : ∀ u ∈ [Value.bool a, .int .i64 b, .bool c, .string x, .string y, .slice A n cp], u.oneCell' = true := by
  intro u hu
  simp only [List.mem_cons, List.not_mem_nil, or_false] at hu
  rcases hu with rfl | rfl | rfl | rfl | rfl | rfl <;> rfl

set_option maxRecDepth 100000 in
set_option maxHeartbeats 2000000 in
theorem wadd_any (w0 w : World) (HA : Nat) (F : Nat → Prop) (rv pv : Value) (xs : List Value) (d : Rd) (k m : Int) (r : Ru) (A : Option Addr) (cap n : Nat) (h : LQ w0 w HA F rv pv xs d k m)
    (hm : m = (flagA [] d.rules d.at_ : Nat)) (ha : AtsOk d) (hk : k = (n : Nat)) (hn : d.rules.length ≤ 100000) (hi : ItemsIn F w (.slice A r.cond.length cap) r.cond) :
    Calls Tryz.prog 92 #[.pointer (some ⟨HA, 0, none⟩), .agg #[.bool r.pre, .int .i64 r.flag, .bool r.cross, .string r.strip, .string r.add, .slice A r.cond.length cap]] w fun e w' => e = .returned (.tuple #[]) ∧
      ∃ rv' xs', LQ w0 w' HA F rv' pv xs' { d with rules := d.rules ++ [r], at_ := d.at_ ++ [n] } k (flagA [] (d.rules ++ [r]) (d.at_ ++ [n]) : Nat) := by
  obtain ⟨i1, hi1, hz10, hz11, hz12⟩ := info_parts Tryz.infosL123
  have hS := AddAt.start h hi
  obtain ⟨W1, hW1⟩ : ∃ W1, W1 = w.alloc (.cells #[.bool r.pre, .int .i64 r.flag, .bool r.cross, .string r.strip, .string r.add, .slice A r.cond.length cap] 123) := ⟨_, rfl⟩
  rw [← hW1] at hS
  obtain ⟨q, hq⟩ : ∃ q, q = w.heap.size := ⟨_, rfl⟩
  rw [← hq] at hS
  have HS := Lib.hid hS
  obtain ⟨RA, cR, RB, cR', rfl, rfl, hRA, -⟩ := hS.lq.forms
  have hfl := flagA_snoc d.rules [] d.at_ r n ha.1 ha.2
  rw [List.nil_append] at hfl
  have HFL := Lib.hid hfl
  have HMK := Lib.hid (And.intro hm hk)
  have hqlt : q < W1.heap.size := (Array.getElem?_eq_some_iff.1 hS.bx).1
  have CC := Lib.hid (wcr_any W1 _ d.rules q r hRA hqlt hS.cells.1 hS.cells.2.1)
  obtain ⟨x0, x1, x2, x3, x4, fz⟩ := hS.lq.boxc
  obtain ⟨rn, hrn⟩ : ∃ n, n = d.rules.length := ⟨_, rfl⟩
  obtain ⟨pn, hpn⟩ : ∃ n, n = d.pairs.length := ⟨_, rfl⟩
  have HRN := Lib.hid (And.intro hrn hpn)
  rw [← hrn, ← hpn] at HS
  rw [← hpn] at x1 ⊢
  rw [← hrn] at CC x0 hn
  obtain ⟨dl, hdl⟩ : ∃ n, n = r.cond.length := ⟨_, rfl⟩
  have HDL := Lib.hid hdl
  have HW1 := Lib.hid hW1
  have HQ := Lib.hid hq
  obtain ⟨rp, rf, rc, rs, ra, rl⟩ := r
  dsimp only at hW1 HW1 hdl HDL ⊢
  rw [← hdl] at hW1 HW1 ⊢
  clear h hm ha hk hi hS hfl hRA hrn hpn hdl hqlt
  go_enter Tryz.func92, Tryz.ntmps92
  go_upto_region 1 with fail
  rw [← HW1.out, ← HQ.out]
  clear hW1 hq
  go_upto_region 2 with fail
  obtain ⟨cb, hcb⟩ : ∃ b, b = clash d.rules ⟨rp, rf, rc, rs, ra, rl⟩ := ⟨_, rfl⟩
  rw [← hcb] at CC HFL
  clear hcb
  go_cut [19] (fun t wx => ∃ b : Bool, t = .bool b ∧ Hid ((AddAt w0 wx HA F (.slice RA rn cR) (.slice RB pn cR') xs d k m q ⟨rp, rf, rc, rs, ra, rl⟩ A cap) ∧ b = (decide (m = 0) && cb)))
  case first =>
    by_cases hm0 : m = 0
    · subst hm0
      go_wp2_with (go_at_call 147; refine CC.out.mono ?_; rintro e w2 ⟨rfl, hb⟩; have HS2 := Lib.hid (HS.out.keep hb); clear hb)
      go_meet
      exact ⟨cb, rfl, Lib.hid ⟨HS2.out, by simp⟩⟩
    · have d0 : (m == 0) = false := by simpa using hm0
      have d1 : decide (m = 0) = false := decide_eq_false hm0
      have HD := Lib.hid d1
      clear hm0
      go_wp2_with fail
      go_meet
      exact ⟨false, rfl, Lib.hid ⟨HS.out, by rw [HD.out]; rfl⟩⟩
  case rest =>
  obtain ⟨b, rfl, HX⟩ := hcut
  clear CC x0 x1 x2 x3 x4 fz
  go_upto_if 19 with fail
  go_cut [] (fun wx => Hid (∃ m' : Int, (AddAt w0 wx HA F (.slice RA rn cR) (.slice RB pn cR') xs d k m' q ⟨rp, rf, rc, rs, ra, rl⟩ A cap) ∧ m' = (flagA [] (d.rules ++ [⟨rp, rf, rc, rs, ra, rl⟩]) (d.at_ ++ [n]) : Nat)))
  case first =>
    obtain ⟨x0, x1, x2, x3, x4, fz⟩ := HX.out.1.lq.boxc
    cases b with
    | true =>
      have HN := Lib.hid (show k = (flagA [] (d.rules ++ [⟨rp, rf, rc, rs, ra, rl⟩]) (d.at_ ++ [n]) : Nat) by
        have h1 := HX.out.2
        have hm0 : m = 0 := by
          rcases Decidable.em (m = 0) with h | h
          · exact h
          · rw [decide_eq_false h] at h1; cases h1
        rw [hm0] at h1
        have hcb : cb = true := by simpa using h1.symm
        rw [HFL.out, if_pos (by have := HMK.out.1; omega), if_pos hcb]
        exact HMK.out.2)
      go_wp2_with fail
      go_meet
      exact Lib.hid ⟨k, HX.out.1.mixed k, HN.out⟩
    | false =>
      have HN := Lib.hid (show m = (flagA [] (d.rules ++ [⟨rp, rf, rc, rs, ra, rl⟩]) (d.at_ ++ [n]) : Nat) by
        have h1 := HX.out.2
        rw [HFL.out]
        by_cases hm0 : m = 0
        · rw [decide_eq_true hm0] at h1
          have hcb : cb = false := by simpa using h1.symm
          rw [if_pos (by have := HMK.out.1; omega), if_neg (by rw [hcb]; decide)]
          exact hm0
        · rw [if_neg (by have := HMK.out.1; omega)]
          exact HMK.out.1)
      go_wp2_with fail
      go_meet
      exact Lib.hid ⟨m, HX.out.1, HN.out⟩
  case rest =>
  obtain ⟨m', hA, hm'⟩ := hcut.out
  clear hcut HX
  obtain ⟨x0, x1, x2, x3, x4, fz⟩ := hA.lq.boxc
  obtain ⟨p0, p1, p2, p3, p4, p5⟩ := hA.cells
  dsimp only at p0 p1 p2 p3 p4 p5
  rw [← HDL.out] at p5
  have hown := hA.lq.rrow
  rw [← HRN.out.1] at hown
  have HW := Lib.hid (And.intro hA hown)
  have HM' := Lib.hid hm'
  clear x1 x2 x3 x4 fz hA hown hm'
  obtain ⟨nw, hnw⟩ : ∃ l : List Value, l = [.bool rp, .int .i64 rf, .bool rc, .string rs, .string ra, .slice A dl cap] := ⟨_, rfl⟩
  have h1c := rule_one1 rp rf rc rs ra A dl cap
  have hgo : ∀ (w4 : World), ((wc.alloc (.cells #[.bool rp, .int .i64 rf, .bool rc, .string rs, .string ra, .slice A dl cap] 123)).drew).grownBy w4 (Value.slice RA rn cR).ownBlock → w4.heap[HA]? = some (.cells #[.slice RA rn cR, .slice RB pn cR', .int .i64 k, .int .i64 (d.bad : Nat), .int .i64 m'] 93 (0, 0)) := fun w4 hg => by
    have hlt : HA < wc.heap.size := HW.out.1.lq.hi
    have hsz : ((wc.alloc (.cells #[.bool rp, .int .i64 rf, .bool rc, .string rs, .string ra, .slice A dl cap] 123)).drew).heap.size = wc.heap.size + 1 := World.size_alloc _ _
    refine (hg.block HA (by omega) (fun e => ?_)).trans ((Below.heap_alloc wc _ _ hlt).trans HW.out.1.lq.box)
    have := (HW.out.2.lt HA e.symm).1
    omega
  have HGO := Lib.hid hgo
  clear hgo hnw
  have old : ∀ (k o : Nat) v, wc.cell? ⟨k, o, none⟩ = some v → (wc.alloc (.cells #[.bool rp, .int .i64 rf, .bool rc, .string rs, .string ra, .slice A dl cap] 123)).cell? ⟨k, o, none⟩ = some v := fun k o v hv =>
    (((Below.refl wc.heap.size wc).alloc (Nat.le_refl _) _).cell (p := ⟨k, o, none⟩) (World.block_lt_of_cell? wc _ hv)).trans hv
  have y0 := old _ _ _ x0
  clear old
  have HHI := Lib.hid HW.out.1.lq.hi
  go_upto_region 4 with fail
  go_region_law ((refine step_append_lies _ (by rfl) _ _ _ (by rfl) (HA + 1) 123 i1 _ 6 80 Tryz.underlying55 hi1 hz10 hz11 hz12 rfl (by omega) (.slice RA rn cR) rn xs (by rfl) ((HW.out.2.alloc _).drew) ⟨wc.heap.size, 0, none⟩ 1 1 [.bool rp, .int .i64 rf, .bool rc, .string rs, .string ra, .slice A dl cap] (by rfl) (by rfl) (World.news_of_block (cs := #[.bool rp, .int .i64 rf, .bool rc, .string rs, .string ra, .slice A dl cap]) (t := 123) (fr := (0, 0)) (World.alloc_heap_new wc _)) h1c (by omega) (by unfold maxLen; omega) (by omega) (by have := HHI.out; simp; omega) (wc.heap.size + 1) (by simp) ?_; intro gg cap4 w4 hown4 hgrow4 hat4 hlt4; have m4 := (show w4.cell? ⟨HA, 0, none⟩ = some (.slice RA rn cR) by simp [World.cell?, HGO.out _ hgrow4]); have f4 := (show w4.frozen? ⟨HA, 0, none⟩ = false by simp [World.frozen?, HGO.out _ hgrow4])))
  all_goals
    obtain rfl : rn = d.rules.length := HRN.out.1
    obtain rfl : dl = rl.length := HDL.out
    have hbK : Below wc.heap.size wc ((wc.alloc (.cells #[.bool rp, .int .i64 rf, .bool rc, .string rs, .string ra, .slice A rl.length cap] 123)).drew) := ((Below.refl _ _).alloc (Nat.le_refl _) _).drew
    have hK := HW.out.1.keep hbK
    have hsz : ((wc.alloc (.cells #[.bool rp, .int .i64 rf, .bool rc, .string rs, .string ra, .slice A rl.length cap] 123)).drew).heap.size = wc.heap.size + 1 := World.size_alloc _ _
    have HF := Lib.hid (hK.lq.rule (n := n) hK.it hown4 hgrow4 (hat4.imp (fun e => e.symm) fun e g hg => by
      simp only [Value.ownBlock, Option.some.injEq] at hg
      omega))
    clear hown4 hgrow4 hat4 hlt4 m4 f4 x0 p0 p1 p2 p3 p4 p5 y0 hbK hK hsz
    go_end0
    have hF := HF.out
    rw [HM'.out] at hF
    exact ⟨rfl, _, _, hF⟩
end Go.Proofs.YtfehpcbmdancoaaGreatDoor.Af
