/- The document's Same of chapter 10, where the rules are the same; stage 10's law RuleBack, out of what is asked of rule's calls. -/
import Derived.Test.YtjeehdbnliifnaaGreatDoorQLaws
namespace Go.Proofs.YtjeehdbnliifnaaGreatDoor
open Go Go.RowKit

set_option maxRecDepth 100000 in
set_option maxHeartbeats 2000000 in
theorem rsame_true (w : World) (v v' : Value) (r : Ru) (h : RuAt w v r) (h' : RuAt w v' r) (hl : r.cond.length ≤ 8) (hs : ∀ it ∈ r.cond, it.set.length ≤ 1200) :
    Calls Tryz.prog 8 #[v, v'] w fun e w' => e = .returned (.bool true) ∧ Below w.heap.size w w' := by
  obtain ⟨A, cap, rfl, h1⟩ := h
  obtain ⟨A', cap', rfl, h1'⟩ := h'
  obtain ⟨pre, flag, cross, strip, add, cond⟩ := r
  dsimp only at h1 h1' hl hs ⊢
  obtain ⟨n, hn⟩ : ∃ n, n = cond.length := ⟨_, rfl⟩
  rw [← hn] at h1 h1' hl ⊢
  have hb2 : Below w.heap.size w ((w.alloc (.cells #[.bool pre, .int .i64 flag, .bool cross, .string strip, .string add, .slice A n cap] /-t-/24)).alloc (.cells #[.bool pre, .int .i64 flag, .bool cross, .string strip, .string add, .slice A' n cap'] /-t-/24)) :=
    ((Below.refl _ _).alloc (Nat.le_refl _) _).alloc (by rw [World.size_alloc]; omega) _
  have C := Lib.hid (same_true _ _ _ cond (h1.keep hb2) (h1'.keep hb2) (by omega) hs)
  have HB := Lib.hid hb2
  have s1 : (strip.toList == strip.toList) = true := by simp
  have s2 : (add.toList == add.toList) = true := by simp
  clear h1 h1' hb2 hs hn
  go_enter Tryz.func8, Tryz.ntmps8
  go_wp2_with fail
  refine C.out.mono ?_
  rintro e w1 ⟨rfl, hb1⟩
  have HF := Lib.hid (HB.out.trans (hb1.mono HB.out.size))
  clear hb1
  go_wp2_with fail
  go_ret
  exact ⟨rfl, HF.out⟩
variable {T : World → Prop}
theorem ru_box {w : World} {v : Value} {r : Ru} (h : RuAt w v r) : ∃ p f c s a A n cap, v = .agg #[.bool p, .int .i64 f, .bool c, .string s, .string a, .slice A n cap] := by
  obtain ⟨A, cap, rfl, _⟩ := h
  exact ⟨_, _, _, _, _, _, _, _, rfl⟩
theorem fit_few {r : Ru} (h : Fit r.cond) (h1 : r.strip.size ≤ 20) (h2 : r.add.size ≤ 20) : FewR r := ⟨by have := h.few; omega, h.sets, by omega, by omega⟩

end Go.Proofs.YtjeehdbnliifnaaGreatDoor
