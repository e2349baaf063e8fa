/- Rules in memory; what is asked of rule's calls; stage 10's laws' awake. -/
import Derived.Test.YtfhoffdgbkoffaaDoorQPlain
import Derived.Test.YtfhoffdgbkoffaaDoorNSame
namespace Go.Proofs.YtfhoffdgbkoffaaDoor
open Go Go.RowKit

/-- A value that reads as a rule. -/
def RuAt (w : World) (v : Value) (r : Ru) : Prop :=
  ∃ A cap, v = .agg #[.bool r.pre, .int .i64 r.flag, .bool r.cross, .string r.strip, .string r.add, .slice A r.cond.length cap] ∧ ItemsAt w (.slice A r.cond.length cap) r.cond
theorem RuAt.keep {w w' : World} {v : Value} {r : Ru} (h : RuAt w v r) (hb : Below w.heap.size w w') : RuAt w' v r := by
  obtain ⟨A, cap, rfl, h1⟩ := h
  exact ⟨A, cap, rfl, h1.keep hb⟩
/-- Not too much. -/
structure FewR (r : Ru) : Prop where
  items : r.cond.length ≤ 12
  sets : ∀ it ∈ r.cond, it.set.length ≤ 2000
  strip : r.strip.size ≤ 200
  add : r.add.size ≤ 200
def okB (s : ByteArray) : Bool := decide (s.size ≠ 0)

/-! ### What is asked of rule's calls -/
def exR : Ru := ⟨false, 83, true, ⟨#[121]⟩, ⟨#[105, 101, 115]⟩, [⟨false, false, [121]⟩]⟩
def exL : ByteArray := ⟨#[83, 70, 88, 32, 83, 32, 89, 32, 121, 32, 105, 101, 115, 32, 121]⟩
theorem exR_parse : parseR exL = some exR := by decide +kernel
theorem exR_text : textR exR = exL := by decide +kernel
theorem exR_city : applyR exR ⟨#[99, 105, 116, 121]⟩ = ⟨#[99, 105, 116, 105, 101, 115]⟩ := by decide +kernel
theorem exR_cat : applyR exR ⟨#[99, 97, 116]⟩ = ⟨#[]⟩ := by decide +kernel
theorem exR_few : FewR exR := ⟨by decide, by decide, by decide, by decide⟩

theorem exR_at {w : World} {v : Value} (h : RuAt w v exR) : ∃ A cap, v = .agg #[.bool false, .int .i64 83, .bool true, .string ⟨#[121]⟩, .string ⟨#[105, 101, 115]⟩, .slice A 1 cap] ∧ ItemsAt w (.slice A 1 cap) exR.cond := h

theorem box6 {w w' : World} {a b c d e f : Value} {t : TypeId} (hb : Below (w.alloc (.cells #[a, b, c, d, e, f] t)).heap.size (w.alloc (.cells #[a, b, c, d, e, f] t)) w') :
    w'.cell? ⟨w.heap.size, 0, none⟩ = some a ∧ w'.cell? ⟨w.heap.size, 1, none⟩ = some b ∧ w'.cell? ⟨w.heap.size, 2, none⟩ = some c ∧ w'.cell? ⟨w.heap.size, 3, none⟩ = some d ∧ w'.cell? ⟨w.heap.size, 4, none⟩ = some e ∧ w'.cell? ⟨w.heap.size, 5, none⟩ = some f := by
  have h : w'.heap[w.heap.size]? = some (.cells #[a, b, c, d, e, f] t (0, 0)) := (hb.block w.heap.size (by rw [World.size_alloc]; omega)).trans (World.alloc_heap_new w _)
  refine ⟨?_, ?_, ?_, ?_, ?_, ?_⟩ <;> simp [World.cell?, h]
variable {T : World → Prop}

end Go.Proofs.YtfhoffdgbkoffaaDoor
