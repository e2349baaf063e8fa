/- Conditions in memory. -/
import Derived.Test.YtfhoffdgbkoffaaDoorProg
import Derived.Test.YtfhoffdgbkoffaaDoorSGives
import Derived.Test.YtfhoffdgbkoffaaDoorWhere
import Derived.Test.YtfhoffdgbkoffaaDoorNCodes
import Derived.Lib.Hide
import Derived.Lib.MapLaws
import Derived.WalkKit
import Derived.WalkSpells
import Derived.WalkLawsBesides
import Derived.IntWalk
import Derived.BigQuiet
import Derived.BigRegion
import Derived.Deep.QuietTactic
import Derived.Deep.LoopGhost
import Derived.Below
import Derived.Outline
import Derived.WalkMore
import Derived.Laws.Rows
namespace Go.Proofs.YtfhoffdgbkoffaaDoor
open Go Go.RowKit

/-- A slice that reads as these numbers. -/
def IntsAt (w : World) (v : Value) (cs : List Int) : Prop :=
  (cs = [] ∧ ∃ a cap, v = .slice a 0 cap) ∨ ∃ b off cap, v = .slice (some ⟨b, off, none⟩) cs.length cap ∧ b < w.heap.size ∧ cs.length ≤ cap ∧ cap ≤ maxLen ∧ ∀ (i : Nat) c, cs[i]? = some c → w.cell? ⟨b, off + i, none⟩ = some (.int .i64 c)
/-- A slice that reads as these items. -/
def ItemsAt (w : World) (v : Value) (l : List It) : Prop :=
  (l = [] ∧ ∃ a cap, v = .slice a 0 cap) ∨ ∃ b off cap, v = .slice (some ⟨b, off, none⟩) l.length cap ∧ b < w.heap.size ∧ l.length ≤ cap ∧ cap ≤ maxLen ∧
    ∀ (i : Nat) it, l[i]? = some it → w.cell? ⟨b, off + i * 3, none⟩ = some (.bool it.any) ∧ w.cell? ⟨b, off + i * 3 + 1, none⟩ = some (.bool it.not) ∧ ∃ sv, w.cell? ⟨b, off + i * 3 + 2, none⟩ = some sv ∧ IntsAt w sv it.set
theorem cell_old {w w' : World} {p : Addr} (hb : Below w.heap.size w w') (hp : p.block < w.heap.size) : w'.cell? p = w.cell? p := by
  unfold World.cell?; rw [hb.block p.block hp]
theorem IntsAt.keep {w w' : World} {v : Value} {cs : List Int} (h : IntsAt w v cs) (hb : Below w.heap.size w w') : IntsAt w' v cs := by
  rcases h with h | ⟨b, off, cap, rfl, h1, h2, h3, h4⟩
  · exact .inl h
  · exact .inr ⟨b, off, cap, rfl, Nat.lt_of_lt_of_le h1 hb.size, h2, h3, fun i c hc => (cell_old (p := ⟨b, off + i, none⟩) hb h1).trans (h4 i c hc)⟩
theorem ItemsAt.keep {w w' : World} {v : Value} {l : List It} (h : ItemsAt w v l) (hb : Below w.heap.size w w') : ItemsAt w' v l := by
  rcases h with h | ⟨b, off, cap, rfl, h1, h2, h3, h4⟩
  · exact .inl h
  · refine .inr ⟨b, off, cap, rfl, Nat.lt_of_lt_of_le h1 hb.size, h2, h3, fun i it hi => ?_⟩
    obtain ⟨k1, k2, sv, k3, k4⟩ := h4 i it hi
    exact ⟨(cell_old (p := ⟨b, off + i * 3, none⟩) hb h1).trans k1, (cell_old (p := ⟨b, off + i * 3 + 1, none⟩) hb h1).trans k2, sv, (cell_old (p := ⟨b, off + i * 3 + 2, none⟩) hb h1).trans k3, k4.keep hb⟩
/-- Numbers in a new block. -/
theorem IntsAt.lit (w : World) (cs : List Int) (xs : Array Value) (t : TypeId) (hx : xs = (cs.map (Value.int .i64)).toArray) (hm : cs.length ≤ 1000) : IntsAt (w.alloc (.cells xs t)) (.slice (some ⟨w.heap.size, 0, none⟩) cs.length cs.length) cs := by
  subst hx
  refine .inr ⟨w.heap.size, 0, cs.length, rfl, by simp, Nat.le_refl _, by unfold maxLen; omega, fun i c hc => ?_⟩
  rw [cell_of_row _ w.heap.size (0 + i) _ t (0, 0) (World.alloc_heap_new w _)]
  simp [hc]

theorem ints_open {w : World} {v : Value} {cs : List Int} (h : IntsAt w v cs) : ∃ A cap, v = .slice A cs.length cap ∧ ∀ (i : Nat) c, cs[i]? = some c → ∃ q o, A = some ⟨q, o, none⟩ ∧ q < w.heap.size ∧ cs.length ≤ cap ∧ w.cell? ⟨q, o + i, none⟩ = some (.int .i64 c) := by
  obtain ⟨rfl, a, cap, rfl⟩ | ⟨b, off, cap, rfl, hlt, hcap, hm, hc⟩ := h
  · exact ⟨a, cap, rfl, fun i c hi => by simp at hi⟩
  · exact ⟨_, cap, rfl, fun i c hi => ⟨b, off, rfl, hlt, hcap, hc i c hi⟩⟩

end Go.Proofs.YtfhoffdgbkoffaaDoor
