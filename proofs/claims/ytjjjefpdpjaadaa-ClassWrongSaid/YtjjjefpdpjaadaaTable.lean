/- The laws' own Table; tables that may not be. -/
import Derived.Test.YtjjjefpdpjaadaaLawMany
import Derived.Laws.Rows
namespace Go.Proofs.Ytjjjefpdpjaadaa
open Go Go.RowKit

def tab : List R3 := [(39, 39, 3), (48, 57, 2), (65, 90, 1), (97, 122, 1), (192, 591, 1)]
def tCells : Array Value := #[.int .i64 39, .int .i64 39, .int .i64 3, .int .i64 48, .int .i64 57, .int .i64 2, .int .i64 65, .int .i64 90, .int .i64 1, .int .i64 97, .int .i64 122, .int .i64 1, .int .i64 192, .int .i64 591, .int .i64 1]
theorem tCells_eq : tCells = (tab.flatMap rCells).toArray := rfl

set_option maxHeartbeats 1000000 in
theorem table_any (w : World) : Calls Try.prog 13 #[] w fun e w' => ∃ g, e = .returned (.slice (some ⟨g, 0, none⟩) 5 5) ∧ (w.heap.size ≤ g ∧ g < w'.heap.size) ∧ w'.heap[g]? = some (.cells tCells 27 (0, 0)) ∧ Below w.heap.size w w' := by
  go_enter Try.func13, Try.ntmps13
  go_wp2
  go_ret
  exact ⟨w.heap.size, rfl, ⟨Nat.le_refl _, by simp⟩, heap_alloc_new w _, (Below.refl _ _).alloc (Nat.le_refl _) _⟩

/-- A table that may not be. -/
def Bad (w : World) (v : Value) : Prop := ∃ rs, Tbl w v rs ∧ okT rs = false
theorem Bad.below {w w' : World} {v : Value} (h : Bad w v) (hb : Below w.heap.size w w') : Bad w' v := by
  obtain ⟨rs, ht, ho⟩ := h
  exact ⟨rs, ht.below hb, ho⟩
theorem bad_check (wx : World) (v : Value) (h : Bad wx v) : Calls Try.prog 8 #[v] wx fun e w' => e = .returned (.bool false) ∧ Below wx.heap.size wx w' := by
  obtain ⟨rs, ht, ho⟩ := h
  have := check_any v rs wx ht
  rwa [ho] at this
theorem bad_of (wx : World) (v : Value) (x : Int) (h : Bad wx v) : Calls Try.prog 10 #[v, .int .i64 x] wx fun e w' => e = .returned (.int .i64 0) ∧ Below wx.heap.size wx w' := by
  obtain ⟨rs, ht, ho⟩ := h
  have := of_any v rs x wx ht
  rwa [ofT_no ho] at this

/-- A block reads as a table. -/
theorem tbl_block {w : World} {g n cap : Nat} {rs : List R3} {cs : Array Value} {t : TypeId} {fr : Nat × Nat} (hg : w.heap[g]? = some (.cells cs t fr)) (hn : rs.length = n) (hc : n ≤ cap) (hm : cap ≤ maxLen)
    (hrs : cs.toList = rs.flatMap rCells) : Tbl w (.slice (some ⟨g, 0, none⟩) n cap) rs := by
  subst hn
  refine .inr ⟨g, 0, cap, rfl, (Array.getElem?_eq_some_iff.1 hg).1, hc, hm, fun i r hr => ?_⟩
  have hat : ∀ j, w.cell? ⟨g, j, none⟩ = (rs.flatMap rCells)[j]? := fun j => by
    rw [cell_of_row _ g j cs t fr hg, ← hrs]
    simp
  obtain ⟨x0, x1, x2⟩ := cells3 rs i r hr
  rw [Nat.zero_add, hat, hat, hat]
  exact ⟨x0, x1, x2⟩
/-- One cell of a table in a block of its own is written. -/
theorem tbl_store {w : World} {g n cap : Nat} {rs : List R3} {cs : Array Value} {t : TypeId} (hg : w.heap[g]? = some (.cells cs t (0, 0))) (k : Nat) (x : Value)
    (hn : rs.length = n) (hc : n ≤ cap) (hm : cap ≤ maxLen) (hrs : (cs.setIfInBounds k x).toList = rs.flatMap rCells) :
    Tbl (w.setCell ⟨g, k, none⟩ x) (.slice (some ⟨g, 0, none⟩) n cap) rs :=
  tbl_block (heap_setCell_same w g k cs t x hg) hn hc hm hrs

theorem five (i : Nat) (h : i < 5) : i = 0 ∨ i = 1 ∨ i = 2 ∨ i = 3 ∨ i = 4 := by omega
theorem five_max : 5 ≤ maxLen := by decide

section
variable {w : World} {g : Nat} (hg : w.heap[g]? = some (.cells tCells 27 (0, 0)))
include hg
theorem bad_class (i : Nat) (hi : i < 5) (c : Int) (hc : c = 0 ∨ c = 4) : Bad (w.setCell ⟨g, i * 3 + 2, none⟩ (.int .i64 c)) (.slice (some ⟨g, 0, none⟩) 5 5) := by
  rcases hc with rfl | rfl <;> rcases five i hi with rfl | rfl | rfl | rfl | rfl
  · exact ⟨[(39, 39, 0), (48, 57, 2), (65, 90, 1), (97, 122, 1), (192, 591, 1)], tbl_store hg _ _ rfl (Nat.le_refl _) five_max rfl, by decide⟩
  · exact ⟨[(39, 39, 3), (48, 57, 0), (65, 90, 1), (97, 122, 1), (192, 591, 1)], tbl_store hg _ _ rfl (Nat.le_refl _) five_max rfl, by decide⟩
  · exact ⟨[(39, 39, 3), (48, 57, 2), (65, 90, 0), (97, 122, 1), (192, 591, 1)], tbl_store hg _ _ rfl (Nat.le_refl _) five_max rfl, by decide⟩
  · exact ⟨[(39, 39, 3), (48, 57, 2), (65, 90, 1), (97, 122, 0), (192, 591, 1)], tbl_store hg _ _ rfl (Nat.le_refl _) five_max rfl, by decide⟩
  · exact ⟨[(39, 39, 3), (48, 57, 2), (65, 90, 1), (97, 122, 1), (192, 591, 0)], tbl_store hg _ _ rfl (Nat.le_refl _) five_max rfl, by decide⟩
  · exact ⟨[(39, 39, 4), (48, 57, 2), (65, 90, 1), (97, 122, 1), (192, 591, 1)], tbl_store hg _ _ rfl (Nat.le_refl _) five_max rfl, by decide⟩
  · exact ⟨[(39, 39, 3), (48, 57, 4), (65, 90, 1), (97, 122, 1), (192, 591, 1)], tbl_store hg _ _ rfl (Nat.le_refl _) five_max rfl, by decide⟩
  · exact ⟨[(39, 39, 3), (48, 57, 2), (65, 90, 4), (97, 122, 1), (192, 591, 1)], tbl_store hg _ _ rfl (Nat.le_refl _) five_max rfl, by decide⟩
  · exact ⟨[(39, 39, 3), (48, 57, 2), (65, 90, 1), (97, 122, 4), (192, 591, 1)], tbl_store hg _ _ rfl (Nat.le_refl _) five_max rfl, by decide⟩
  · exact ⟨[(39, 39, 3), (48, 57, 2), (65, 90, 1), (97, 122, 1), (192, 591, 4)], tbl_store hg _ _ rfl (Nat.le_refl _) five_max rfl, by decide⟩
theorem bad_from (i : Nat) (hi : i < 5) : Bad (w.setCell ⟨g, i * 3, none⟩ (.int .i64 (-1))) (.slice (some ⟨g, 0, none⟩) 5 5) := by
  rcases five i hi with rfl | rfl | rfl | rfl | rfl
  · exact ⟨[(-1, 39, 3), (48, 57, 2), (65, 90, 1), (97, 122, 1), (192, 591, 1)], tbl_store hg _ _ rfl (Nat.le_refl _) five_max rfl, by decide⟩
  · exact ⟨[(39, 39, 3), (-1, 57, 2), (65, 90, 1), (97, 122, 1), (192, 591, 1)], tbl_store hg _ _ rfl (Nat.le_refl _) five_max rfl, by decide⟩
  · exact ⟨[(39, 39, 3), (48, 57, 2), (-1, 90, 1), (97, 122, 1), (192, 591, 1)], tbl_store hg _ _ rfl (Nat.le_refl _) five_max rfl, by decide⟩
  · exact ⟨[(39, 39, 3), (48, 57, 2), (65, 90, 1), (-1, 122, 1), (192, 591, 1)], tbl_store hg _ _ rfl (Nat.le_refl _) five_max rfl, by decide⟩
  · exact ⟨[(39, 39, 3), (48, 57, 2), (65, 90, 1), (97, 122, 1), (-1, 591, 1)], tbl_store hg _ _ rfl (Nat.le_refl _) five_max rfl, by decide⟩
theorem bad_to (i : Nat) (hi : i < 5) (f t k : Int) (hr : tab[i]? = some (f, t, k)) : Bad (w.setCell ⟨g, i * 3 + 1, none⟩ (.int .i64 (f - 1))) (.slice (some ⟨g, 0, none⟩) 5 5) := by
  rcases five i hi with rfl | rfl | rfl | rfl | rfl <;> cases hr
  · exact ⟨[(39, 38, 3), (48, 57, 2), (65, 90, 1), (97, 122, 1), (192, 591, 1)], tbl_store hg _ _ rfl (Nat.le_refl _) five_max rfl, by decide⟩
  · exact ⟨[(39, 39, 3), (48, 47, 2), (65, 90, 1), (97, 122, 1), (192, 591, 1)], tbl_store hg _ _ rfl (Nat.le_refl _) five_max rfl, by decide⟩
  · exact ⟨[(39, 39, 3), (48, 57, 2), (65, 64, 1), (97, 122, 1), (192, 591, 1)], tbl_store hg _ _ rfl (Nat.le_refl _) five_max rfl, by decide⟩
  · exact ⟨[(39, 39, 3), (48, 57, 2), (65, 90, 1), (97, 96, 1), (192, 591, 1)], tbl_store hg _ _ rfl (Nat.le_refl _) five_max rfl, by decide⟩
  · exact ⟨[(39, 39, 3), (48, 57, 2), (65, 90, 1), (97, 122, 1), (192, 191, 1)], tbl_store hg _ _ rfl (Nat.le_refl _) five_max rfl, by decide⟩
theorem bad_last : Bad (w.setCell ⟨g, 13, none⟩ (.int .i64 1114112)) (.slice (some ⟨g, 0, none⟩) 5 5) :=
  ⟨[(39, 39, 3), (48, 57, 2), (65, 90, 1), (97, 122, 1), (192, 1114112, 1)], tbl_store hg _ _ rfl (Nat.le_refl _) five_max rfl, by decide⟩
theorem bad_touch : Bad (w.setCell ⟨g, 3, none⟩ (.int .i64 39)) (.slice (some ⟨g, 0, none⟩) 5 5) :=
  ⟨[(39, 39, 3), (39, 57, 2), (65, 90, 1), (97, 122, 1), (192, 591, 1)], tbl_store hg _ _ rfl (Nat.le_refl _) five_max rfl, by decide⟩
theorem tab_own {B : Nat} (hB : B ≤ g) : w.ownsRow B 27 3 (.slice (some ⟨g, 0, none⟩) 5 5) 5 (tab.flatMap rCells) :=
  ⟨rfl, .inr ⟨g, 5, tCells, rfl, hB, hg, Nat.le_refl _, five_max, rfl, rfl⟩⟩
theorem tab_cells (i : Nat) (f t k : Int) (hr : tab[i]? = some (f, t, k)) : w.cell? ⟨g, i * 3, none⟩ = some (.int .i64 f) ∧ w.cell? ⟨g, i * 3 + 1, none⟩ = some (.int .i64 t) ∧ w.cell? ⟨g, i * 3 + 2, none⟩ = some (.int .i64 k) := by
  have hat : ∀ j, w.cell? ⟨g, j, none⟩ = (tab.flatMap rCells)[j]? := fun j => by
    rw [cell_of_row _ g j tCells 27 (0, 0) hg, tCells_eq]
    simp
  rw [hat, hat, hat]
  exact cells3 tab i (f, t, k) hr
end

theorem tab_bounds (i : Nat) (f t k : Int) (hr : tab[i]? = some (f, t, k)) : 39 ≤ f ∧ f ≤ 192 := by
  have hi : i < 5 := (List.getElem?_eq_some_iff.1 hr).1
  rcases five i hi with rfl | rfl | rfl | rfl | rfl <;> cases hr <;> decide
theorem bad_twice (i : Nat) (r : R3) (hr : tab[i]? = some r) : okT (tab ++ [r]) = false := by
  have hi : i < 5 := (List.getElem?_eq_some_iff.1 hr).1
  rcases five i hi with rfl | rfl | rfl | rfl | rfl <;> cases hr <;> decide
theorem tab_ok : okT tab = true := by decide

/-- The table with more ranges of one code behind it. -/
def more (q : Nat) : List R3 := tab ++ (List.range q).map fun k : Nat => (593 + 2 * (k : Int), 593 + 2 * (k : Int), 1)
theorem more_zero : more 0 = tab := rfl
theorem more_len (q : Nat) : (more q).length = 5 + q := by simp [more, tab]; omega
theorem more_succ (q : Nat) : more (q + 1) = more q ++ [(593 + 2 * (q : Int), 593 + 2 * (q : Int), 1)] := by simp [more, List.range_succ]
theorem more_last (q : Nat) : ∃ f k, (more q)[4 + q]? = some (f, 591 + 2 * (q : Int), k) := by
  cases q with
  | zero => exact ⟨192, 1, rfl⟩
  | succ q =>
    rw [more_succ]
    refine ⟨593 + 2 * (q : Int), 1, ?_⟩
    rw [List.getElem?_append_right (by rw [more_len]; omega), more_len, show 4 + (q + 1) - (5 + q) = 0 by omega]
    simp
    omega
theorem more_no (q : Nat) (h : 95 < q) : okT (more q) = false := by
  rw [okT, more_len]
  simp; omega
end Go.Proofs.Ytjjjefpdpjaadaa
