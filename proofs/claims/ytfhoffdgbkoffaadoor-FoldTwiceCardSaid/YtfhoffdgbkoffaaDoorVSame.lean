/- The document's Same of chapter 11 by contract. -/
import Derived.Test.YtfhoffdgbkoffaaDoorVLaws
import Derived.Test.YtfhoffdgbkoffaaDoorPSame
import Derived.StillTailTactics
import Derived.Deep.CutRange
import Derived.Deep.DeepCutAuto
namespace Go.Proofs.YtfhoffdgbkoffaaDoor
open Go Go.RowKit Go.Lib

theorem rules_open {w : World} {A : Option Addr} {n cap : Nat} {rs : List Ru} (h : RulesAt w (.slice A n cap) rs) : ∀ (k : Nat) r, rs[k]? = some r → ∃ b off, A = some ⟨b, off, none⟩ ∧ b < w.heap.size ∧ n ≤ cap ∧ RuCells w b (off + k * 6) r := by
  intro k r hk
  rcases h with ⟨rfl, _⟩ | ⟨b, off, c, e, h1, h2, h3, h4⟩
  · simp at hk
  · injection e with e1 e2 e3
    subst e1 e2 e3
    exact ⟨b, off, rfl, h1, h2, h4 k r hk⟩
theorem pairs_open {w : World} {A : Option Addr} {n cap : Nat} {ps : List (Int × Int)} (h : PairsAt w (.slice A n cap) ps) : ∀ (k : Nat) p, ps[k]? = some p → ∃ b off, A = some ⟨b, off, none⟩ ∧ b < w.heap.size ∧ n ≤ cap ∧ w.cell? ⟨b, off + k * 2, none⟩ = some (.int .i64 p.1) ∧ w.cell? ⟨b, off + k * 2 + 1, none⟩ = some (.int .i64 p.2) := by
  intro k p hk
  rcases h with ⟨rfl, _⟩ | ⟨b, off, c, e, h1, h2, h3, h4⟩
  · simp at hk
  · injection e with e1 e2 e3
    subst e1 e2 e3
    exact ⟨b, off, rfl, h1, h2, h4 k p hk⟩
theorem RuCells.at_ {w : World} {b o : Nat} {r : Ru} (h : RuCells w b o r) : ∃ A cap, w.cell? ⟨b, o, none⟩ = some (.bool r.pre) ∧ w.cell? ⟨b, o + 1, none⟩ = some (.int .i64 r.flag) ∧ w.cell? ⟨b, o + 2, none⟩ = some (.bool r.cross) ∧ w.cell? ⟨b, o + 3, none⟩ = some (.string r.strip) ∧ w.cell? ⟨b, o + 4, none⟩ = some (.string r.add) ∧ w.cell? ⟨b, o + 5, none⟩ = some (.slice A r.cond.length cap) ∧
    RuAt w (.agg #[.bool r.pre, .int .i64 r.flag, .bool r.cross, .string r.strip, .string r.add, .slice A r.cond.length cap]) r := by
  obtain ⟨h0, h1, h2, h3, h4, A, cap, h5, h6⟩ := h
  exact ⟨A, cap, h0, h1, h2, h3, h4, h5, A, cap, rfl, h6⟩
/-- Two boxes of two cells. -/
theorem box22 {w w' : World} {a b c d : Value} {t : TypeId} (hb : Below ((w.alloc (.cells #[a, b] t)).alloc (.cells #[c, d] t)).heap.size ((w.alloc (.cells #[a, b] t)).alloc (.cells #[c, d] t)) w') :
    (w'.cell? ⟨w.heap.size, 0, none⟩ = some a ∧ w'.cell? ⟨w.heap.size, 1, none⟩ = some b) ∧ w'.cell? ⟨w.heap.size + 1, 0, none⟩ = some c ∧ w'.cell? ⟨w.heap.size + 1, 1, none⟩ = some d := by
  have h2 := box2 hb
  rw [World.size_alloc] at h2
  exact ⟨box2 (((Below.refl _ _).alloc (Nat.le_refl _) _).trans (hb.mono (by rw [World.size_alloc (w.alloc _)]; omega))), h2⟩

end Go.Proofs.YtfhoffdgbkoffaaDoor
