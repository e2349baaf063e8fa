/- The table in memory; a row of it by contract. -/
import Derived.Test.YtbghfbhchmoddaaMDBase
namespace Go.Proofs.Ytbghfbhchmoddaa
open Go Go.RowKit Go.Lib

/-- At p: the two words, the band, three rows behind it. -/
def Tab (w : World) (p : Nat) (va vb : Value) (B m : Nat) : Prop :=
  w.heap[p]? = some (.cells #[va, vb, .int .i64 B, .slice (some ⟨p + 1, 0, none⟩) (m + 1) (m + 1), .slice (some ⟨p + 2, 0, none⟩) (m + 1) (m + 1), .slice (some ⟨p + 3, 0, none⟩) (m + 1) (m + 1)] 40 (0, 0))
theorem Tab.cells {w : World} {p : Nat} {va vb : Value} {B m : Nat} (h : Tab w p va vb B m) : w.cell? ⟨p, 0, none⟩ = some va ∧ w.cell? ⟨p, 1, none⟩ = some vb ∧ w.cell? ⟨p, 2, none⟩ = some (.int .i64 B) ∧ ∀ i : Nat, w.cell? ⟨p, 3 + i % 3, none⟩ = some (.slice (some ⟨p + 1 + i % 3, 0, none⟩) (m + 1) (m + 1)) := by
  have hr : ∀ j, w.cell? ⟨p, j, none⟩ = _ := fun j => cell_of_row _ p j _ _ (0, 0) h
  refine ⟨(hr 0).trans rfl, (hr 1).trans rfl, (hr 2).trans rfl, fun i => (hr _).trans ?_⟩
  rcases show i % 3 = 0 ∨ i % 3 = 1 ∨ i % 3 = 2 by omega with e | e | e <;> rw [e] <;> rfl
theorem Tab.keep {T : Nat → Prop} {w w' : World} {p : Nat} {va vb : Value} {B m : Nat} (h : Tab w p va vb B m) (ho : OnlyAt T w w') (hp : ¬ T p) : Tab w' p va vb B m := (ho.block p (Array.getElem?_eq_some_iff.1 h).1 hp).trans h
set_option maxRecDepth 100000 in
set_option maxHeartbeats 1000000 in
theorem row_any (w : World) (p i r c : Nat) (q : Nat) (hi : i ≤ 1000000) (hr : i % 3 = r) (c0 : w.cell? ⟨p, 3 + r, none⟩ = some (.slice (some ⟨q, 0, none⟩) c c)) :
    Calls Try.prog 15 #[.pointer (some ⟨p, 0, none⟩), .int .i64 i] w fun e w' => e = .returned (.slice (some ⟨q, 0, none⟩) c c) ∧ w' = w := by
  have hw3 : Int.tmod (i : Int) 3 = (r : Int) := by rw [Int.tmod_eq_emod_of_nonneg (by omega)]; omega
  have hw2 : IntKind.i64.wrap (r : Int) = (r : Int) := by rw [IntWalk.i64_in _ (by omega)]
  have r3 : r < 3 := by omega
  have r0 : (0 : Int) ≤ r := by omega
  have r3' : (r : Int) < 3 := by omega
  clear hr
  go_enter Try.func15, Try.ntmps15
  go_wp2_with fail
  go_ret
  exact ⟨rfl, rfl⟩
end Go.Proofs.Ytbghfbhchmoddaa
