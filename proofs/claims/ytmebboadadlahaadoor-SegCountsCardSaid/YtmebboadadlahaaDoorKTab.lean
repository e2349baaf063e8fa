/- The laws' own Table in a block of its own. -/
import Derived.Test.YtmebboadadlahaaDoorKTbl
import Derived.Laws.Rows
namespace Go.Proofs.YtmebboadadlahaaDoor.Cls
open Go Go.RowKit

def tab : List R3 := [(39, 39, 3), (48, 57, 2), (65, 90, 1), (97, 122, 1), (192, 591, 1)]
def tCells : Array Value := #[.int .i64 39, .int .i64 39, .int .i64 3, .int .i64 48, .int .i64 57, .int .i64 2, .int .i64 65, .int .i64 90, .int .i64 1, .int .i64 97, .int .i64 122, .int .i64 1, .int .i64 192, .int .i64 591, .int .i64 1]

/-- A block reads as a table. -/
theorem tbl_block {w : World} {g n cap : Nat} {rs : List R3} {cs : Array Value} {t : TypeId} {fr : Nat × Nat} (hg : w.heap[g]? = some (.cells cs t fr)) (hn : rs.length = n) (hc : n ≤ cap) (hm : cap ≤ maxLen)
    (hrs : cs.toList = rs.flatMap rCells) : Tbl w (.slice (some ⟨g, 0, none⟩) n cap) rs := by
  subst hn
  refine .inr ⟨g, 0, cap, rfl, (Array.getElem?_eq_some_iff.1 hg).1, hc, hm, fun i r hr => ?_⟩
  have hat : ∀ j, w.cell? ⟨g, j, none⟩ = (rs.flatMap rCells)[j]? := fun j => by
    rw [cell_of_row _ g j cs t fr hg, ← hrs]
    simp
  obtain ⟨x0, x1, x2⟩ := cells3 rs i r hr
  rw [Nat.zero_add, hat, hat, hat]
  exact ⟨x0, x1, x2⟩
set_option maxHeartbeats 1000000 in
theorem table_any (w : World) : Calls Tryd.prog 14 #[] w fun e w' => ∃ g, e = .returned (.slice (some ⟨g, 0, none⟩) 5 5) ∧ (w.heap.size ≤ g ∧ g < w'.heap.size) ∧ w'.heap[g]? = some (.cells tCells 54 (0, 0)) ∧ Below w.heap.size w w' := by
  go_enter Tryd.func14, Tryd.ntmps14
  go_wp2
  go_ret
  exact ⟨w.heap.size, rfl, ⟨Nat.le_refl _, by simp⟩, heap_alloc_new w _, (Below.refl _ _).alloc (Nat.le_refl _) _⟩
theorem table_tbl (w : World) : Calls Tryd.prog 14 #[] w fun e w' => ∃ v, e = .returned v ∧ Tbl w' v tab ∧ Below w.heap.size w w' := by
  refine (table_any w).mono ?_
  rintro e w' ⟨g, he, _, hg, hb⟩
  exact ⟨_, he, tbl_block hg rfl (Nat.le_refl _) (by decide) rfl, hb⟩
theorem tab_ok : okT tab = true := by decide
end Go.Proofs.YtmebboadadlahaaDoor.Cls
