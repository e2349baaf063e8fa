/- Tables in memory of the call's own. -/
import Derived.Test.YtmebboadadlahaaDoorKOf
import Derived.OwnWalk
import Derived.Laws.AppendOwn
import Derived.Lib.OthersKept
namespace Go.Proofs.YtmebboadadlahaaDoor.Cls
open Go Go.RowKit

/-- A range's cells. -/
def rCells (r : R3) : List Value := [.int .i64 r.1, .int .i64 r.2.1, .int .i64 r.2.2]
theorem rCells_one (r : R3) : ∀ x ∈ rCells r, x.oneCell' = true := by
  intro x hx
  simp only [rCells, List.mem_cons, List.mem_nil_iff, or_false] at hx
  rcases hx with rfl | rfl | rfl <;> rfl
theorem cells3 : ∀ (us : List R3) (k : Nat) (u : R3), us[k]? = some u →
    (us.flatMap rCells)[k * 3]? = some (.int .i64 u.1) ∧ (us.flatMap rCells)[k * 3 + 1]? = some (.int .i64 u.2.1) ∧ (us.flatMap rCells)[k * 3 + 2]? = some (.int .i64 u.2.2)
  | [], k, u, h => by simp at h
  | x :: us, 0, u, h => by
    simp at h; subst h
    simp [rCells]
  | x :: us, k + 1, u, h => by
    have ih := cells3 us k u (by simpa using h)
    have e : (x :: us).flatMap rCells = rCells x ++ us.flatMap rCells := rfl
    have hl : (rCells x).length = 3 := rfl
    rw [e]
    refine ⟨?_, ?_, ?_⟩
    · rw [List.getElem?_append_right (by omega), hl, show (k + 1) * 3 - 3 = k * 3 by omega]; exact ih.1
    · rw [List.getElem?_append_right (by omega), hl, show (k + 1) * 3 + 1 - 3 = k * 3 + 1 by omega]; exact ih.2.1
    · rw [List.getElem?_append_right (by omega), hl, show (k + 1) * 3 + 2 - 3 = k * 3 + 2 by omega]; exact ih.2.2
theorem cells_new (w : World) (cs : List Value) (t : TypeId) : ∀ j u, cs[j]? = some u → (w.alloc (.cells cs.toArray t)).cell? ((⟨w.heap.size, 0, none⟩ : Addr).add j) = some u := by
  intro j u hu
  have hadd : (⟨w.heap.size, 0, none⟩ : Addr).add j = ⟨w.heap.size, j, none⟩ := by unfold Addr.add; split <;> simp_all
  rw [hadd, cell_of_row _ w.heap.size j cs.toArray t (0, 0) (heap_alloc_new w _)]
  simpa using hu
theorem cells_new' (w : World) (cs : List Value) (t : TypeId) : ∀ j u, cs[j]? = some u → (w.alloc (.cells cs.toArray t)).cell? ⟨w.heap.size, j, none⟩ = some u := by
  intro j u hu
  rw [cell_of_row _ w.heap.size j cs.toArray t (0, 0) (heap_alloc_new w _)]
  simpa using hu

/-- A table in a block of its own. -/
theorem tbl_new (w : World) (t : TypeId) (rs : List R3) (cs : Array Value) (n : Nat) (hn : rs.length = n) (hm : n ≤ maxLen) (hcs : cs = (rs.flatMap rCells).toArray) :
    Tbl (w.alloc (.cells cs t)) (.slice (some ⟨w.heap.size, 0, none⟩) n n) rs := by
  subst hn
  subst hcs
  refine .inr ⟨_, 0, _, rfl, by simp, Nat.le_refl _, hm, fun i r hr => ?_⟩
  obtain ⟨x0, x1, x2⟩ := cells3 rs i r hr
  rw [Nat.zero_add]
  exact ⟨cells_new' w _ t _ _ x0, cells_new' w _ t _ _ x1, cells_new' w _ t _ _ x2⟩

/-- A row of the call's own reads as a table. -/
theorem tbl_own {w : World} {B n : Nat} {v : Value} {rs : List R3} (hn : rs.length = n) (h : w.ownsRow B 54 3 v n (rs.flatMap rCells)) : Tbl w v rs := by
  have hc := @World.ownsRow.cells _ _ _ _ _ _ _ h
  subst hn
  rcases h.2 with ⟨rfl, h0⟩ | ⟨g, cap, cur, rfl, hb, hg, hnc, hcm, _⟩
  · exact .inl ⟨⟨_, _, rfl⟩, List.eq_nil_of_length_eq_zero h0⟩
  · refine .inr ⟨g, 0, cap, rfl, (Array.getElem?_eq_some_iff.1 hg).1, hnc, hcm, fun i r hr => ?_⟩
    have hadd : ∀ j, (⟨g, 0, none⟩ : Addr).add j = ⟨g, j, none⟩ := fun j => by unfold Addr.add; split <;> simp_all
    obtain ⟨x0, x1, x2⟩ := cells3 rs i r hr
    rw [Nat.zero_add]
    exact ⟨by rw [← hadd]; exact hc (g := g) rfl _ _ x0, by rw [← hadd]; exact hc (g := g) rfl _ _ x1, by rw [← hadd]; exact hc (g := g) rfl _ _ x2⟩
end Go.Proofs.YtmebboadadlahaaDoor.Cls
