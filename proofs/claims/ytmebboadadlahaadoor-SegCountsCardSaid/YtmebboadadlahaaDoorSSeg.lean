/- The document's own tokens of a text, by contract. -/
import Derived.Test.YtmebboadadlahaaDoorURef
import Derived.Test.YtmebboadadlahaaDoorKRefCheck
import Derived.Test.YtmebboadadlahaaDoorKTbl
import Derived.Test.YtmebboadadlahaaDoorSPlain
import Derived.Deep.RegionLaw
import Derived.Deep.AppendLies
import Derived.Deep.LoopGhost
import Derived.Deep.DeepCutAuto
import Derived.BigRegion
import Derived.Laws.Rows
import Derived.Outline
namespace Go.Proofs.YtmebboadadlahaaDoor
open Go Go.RowKit Go.Lib

theorem ret_bool {a b : Bool} (h : a = b) : Ending.returned (.bool a) = .returned (.bool b) := by rw [h]

theorem rfirm_any (k : Int) (w : World) : Calls Tryd.prog 20 #[.int .i64 k] w fun e w' => e = .returned (.bool (firmB k)) ∧ w = w' := by
  by_cases h1 : k = 1
  · subst h1
    go_enter Tryd.func20, Tryd.ntmps20
    go_wp2
    go_ret
    exact ⟨rfl, rfl⟩
  · by_cases h2 : k = 2
    · subst h2
      go_enter Tryd.func20, Tryd.ntmps20
      go_wp2
      go_ret
      exact ⟨rfl, rfl⟩
    · have hf : firmB k = false := by simp [firmB, h1, h2]
      rw [hf]
      have d1 : (k == 1) = false := by simpa using h1
      have d2 : (k == 2) = false := by simpa using h2
      clear h1 h2 hf
      go_enter Tryd.func20, Tryd.ntmps20
      go_wp2
      go_ret
      exact ⟨rfl, rfl⟩

theorem own_open {w : World} {B e size n : Nat} {v : Value} {xs : List Value} (h : w.ownsRow B e size v n xs) (hn : 0 < n) :
    ∃ g cap, v = .slice (some ⟨g, 0, none⟩) n cap ∧ B ≤ g ∧ g < w.heap.size ∧ n ≤ cap ∧ cap ≤ maxLen ∧ ∀ j u, xs[j]? = some u → w.cell? ⟨g, j, none⟩ = some u := by
  have hc := @World.ownsRow.cells _ _ _ _ _ _ _ h
  rcases h.2 with ⟨_, rfl⟩ | ⟨g, cap, cur, rfl, hb, hg, hnc, hcm, _⟩
  · omega
  · refine ⟨g, cap, rfl, hb, (Array.getElem?_eq_some_iff.1 hg).1, hnc, hcm, fun j u hu => ?_⟩
    have hadd : (⟨g, 0, none⟩ : Addr).add j = ⟨g, j, none⟩ := by unfold Addr.add; split <;> simp_all
    rw [← hadd]
    exact hc (g := g) rfl j u hu

/-- A row of the call's own behind a store into it. -/
theorem own_set {w : World} {B e size n g cap : Nat} {xs : List Value} (h : w.ownsRow B e size (.slice (some ⟨g, 0, none⟩) n cap) n xs) (k : Nat) (x : Value) (_hk : k < n * size) :
    (w.setCell ⟨g, k, none⟩ x).ownsRow B e size (.slice (some ⟨g, 0, none⟩) n cap) n (xs.set k x) := by
  refine ⟨by simpa using h.1, .inr ?_⟩
  rcases h.2 with ⟨hv, _⟩ | ⟨g', cap', cur, hv, hb, hg, hnc, hcm, hs, ht⟩
  · cases hv
  · cases hv
    refine ⟨g, cap, cur.setIfInBounds k x, rfl, hb, heap_setCell_same w g k cur e x hg, hnc, hcm, by simpa using hs, ?_⟩
    rw [Array.toList_setIfInBounds, List.take_set, ht]

theorem own_frozen {w : World} {B e size n g cap : Nat} {xs : List Value} (h : w.ownsRow B e size (.slice (some ⟨g, 0, none⟩) n cap) n xs) (k : Nat) : w.frozen? ⟨g, k, none⟩ = false := by
  rcases h.2 with ⟨hv, _⟩ | ⟨g', cap', cur, hv, hb, hg, _⟩
  · cases hv
  · cases hv
    exact frozen_of_row w g k cur e hg

/-- A token's cells. -/
def kCells (t : Tok) : List Value := [.int .i64 t.1, .int .i64 t.2.1, .bool t.2.2]
theorem kCells_one (t : Tok) : ∀ x ∈ kCells t, x.oneCell' = true := by
  intro x hx
  simp only [kCells, List.mem_cons, List.mem_nil_iff, or_false] at hx
  rcases hx with rfl | rfl | rfl <;> rfl
theorem kCells_len (ts : List Tok) : (ts.flatMap kCells).length = ts.length * 3 := by
  induction ts with
  | nil => rfl
  | cons t ts ih => rw [List.flatMap_cons, List.length_append, ih, List.length_cons]; simp [kCells]; omega
theorem kCells_at : ∀ (ts : List Tok) (k : Nat) (t : Tok), ts[k]? = some t →
    (ts.flatMap kCells)[k * 3]? = some (.int .i64 t.1) ∧ (ts.flatMap kCells)[k * 3 + 1]? = some (.int .i64 t.2.1) ∧ (ts.flatMap kCells)[k * 3 + 2]? = some (.bool t.2.2)
  | [], k, t, h => by simp at h
  | x :: ts, 0, t, h => by
    simp at h; subst h
    simp [kCells]
  | x :: ts, k + 1, t, h => by
    have ih := kCells_at ts k t (by simpa using h)
    have e : (x :: ts).flatMap kCells = kCells x ++ ts.flatMap kCells := rfl
    have hl : (kCells x).length = 3 := rfl
    rw [e]
    refine ⟨?_, ?_, ?_⟩
    · rw [List.getElem?_append_right (by omega), hl, show (k + 1) * 3 - 3 = k * 3 by omega]; exact ih.1
    · rw [List.getElem?_append_right (by omega), hl, show (k + 1) * 3 + 1 - 3 = k * 3 + 1 by omega]; exact ih.2.1
    · rw [List.getElem?_append_right (by omega), hl, show (k + 1) * 3 + 2 - 3 = k * 3 + 2 by omega]; exact ih.2.2
theorem kCells_last (ts : List Tok) (x y : Tok) (hx : x.1 = y.1) : (((ts ++ [x]).flatMap kCells).set (ts.length * 3 + 1) (.int .i64 y.2.1)).set (ts.length * 3 + 2) (.bool y.2.2) = (ts ++ [y]).flatMap kCells := by
  have hl := kCells_len ts
  rw [List.flatMap_append, List.flatMap_append, List.set_append_right _ _ (by omega), List.set_append_right _ _ (by omega), hl]
  rw [show ts.length * 3 + 1 - ts.length * 3 = 1 by omega, show ts.length * 3 + 2 - ts.length * 3 = 2 by omega]
  simp [kCells, hx]

/-- Tokens that the call fills in. -/
def Toks (wo wr : World) (v : Value) (ts : List Tok) : Prop := wr.ownsRow wo.heap.size 34 3 v ts.length (ts.flatMap kCells) ∧ Below wo.heap.size wo wr
theorem Toks.step {wo wr w4 : World} {v v' : Value} {ts : List Tok} {o : Obj} {n : Nat} {t : Tok} (h : Toks wo wr v ts) (hn : ts.length = n)
    (hown : w4.ownsRow wo.heap.size 34 3 v' (n + 1) (ts.flatMap kCells ++ kCells t)) (hg : (wr.alloc o).drew.grownBy w4 v.ownBlock) : Toks wo w4 v' (ts ++ [t]) := by
  have hg' : (wr.alloc o).grownBy w4 v.ownBlock := ⟨hg.os, hg.tape, hg.output, hg.size, hg.block⟩
  refine ⟨?_, (h.2.alloc h.2.size o).grown hg' (by have := h.2.size; simp; omega) (fun k hk => (h.1.lt k hk).1)⟩
  have : (ts ++ [t]).flatMap kCells = ts.flatMap kCells ++ kCells t := by simp
  rw [this, List.length_append, hn]
  exact hown

theorem Tryd.info34 : (Tryd.prog.info? 34).map (fun i => (i.zero, i.size, i.bytes)) = some (some (.agg #[.int .i64 0, .int .i64 0, .bool false]), 3, 24) := by kernel_rfl
theorem Tryd.info3 : (Tryd.prog.info? 3).map (fun i => (i.zero, i.size, i.bytes)) = some (some (.int .i64 0), 1, 8) := by kernel_rfl

theorem units_bound : ∀ (l : List UInt8) (p : Nat) (u : Nat × Nat × Int), u ∈ units p l → u.1 + u.2.1 ≤ p + l.length := by
  apply unit_ind
  · intro p u h; simp [units_nil] at h
  · intro l hne ih p u h
    have hw := decodeL_width l
    have hle := decodeL_le l hne
    rw [units_step p l hne, List.mem_cons] at h
    rcases h with rfl | h
    · dsimp only; omega
    · have := ih _ u h
      rw [List.length_drop] at this
      omega
end Go.Proofs.YtmebboadadlahaaDoor
