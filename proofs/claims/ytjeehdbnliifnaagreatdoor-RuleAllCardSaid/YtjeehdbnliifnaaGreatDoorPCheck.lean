/- The document's Check of chapter 10 by contract. -/
import Derived.Test.YtjeehdbnliifnaaGreatDoorPText
namespace Go.Proofs.YtjeehdbnliifnaaGreatDoor
open Go Go.RowKit Go.Lib

set_option maxRecDepth 100000 in
set_option maxHeartbeats 2000000 in
theorem rcheck10_any (w : World) (v : Value) (r : Ru) (h : RuAt w v r) (hf : FewR r) (f1 : -9223372036854775808 ≤ r.flag) (f2 : r.flag ≤ 9223372036854775807) :
    Calls Tryz.prog 12 #[v] w fun e w' => e = .returned (.bool (okB (textR r))) ∧ Below w.heap.size w w' := by
  have h0 := h
  obtain ⟨A, cap, rfl, hi⟩ := h
  obtain ⟨n, hn⟩ : ∃ n, n = r.cond.length := ⟨_, rfl⟩
  rw [← hn] at h0 hi ⊢
  have hba := (Below.refl w.heap.size w).alloc (Nat.le_refl _) (.cells #[.bool r.pre, .int .i64 r.flag, .bool r.cross, .string r.strip, .string r.add, .slice A n cap] /-t-/24)
  have C := Lib.hid (rtext10_any _ _ r (h0.keep hba) hf f1 f2)
  have HB := Lib.hid hba
  rw [okB_empty]
  obtain ⟨X, hX⟩ : ∃ X, X = textR r := ⟨_, rfl⟩
  rw [← hX] at C ⊢
  clear hX hf f1 f2 h0 hi hba hn
  go_enter Tryz.func12, Tryz.ntmps12
  go_wp2_with (go_at_call 14; refine C.out.mono ?_)
  rintro e w1 ⟨rfl, hb⟩
  have H1 := Lib.hid (HB.out.trans (hb.mono HB.out.size))
  clear hb
  go_wp2_with fail
  go_ret
  exact ⟨rfl, H1.out⟩
end Go.Proofs.YtjeehdbnliifnaaGreatDoor
