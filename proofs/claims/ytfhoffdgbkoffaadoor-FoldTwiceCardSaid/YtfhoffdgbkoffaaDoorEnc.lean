/- Plain: what a code point's bytes decode to; cut, they are none. -/
import Derived.Test.YtfhoffdgbkoffaaDoorPlain
namespace Go.Proofs.YtfhoffdgbkoffaaDoor
open Go Go.Lib

theorem ofNat_toNat (n : Nat) (h : n < 256) : (UInt8.ofNat n).toNat = n := by simp; omega

/-- A code point's bytes, by their number. -/
theorem enc_cases (k : Nat) (hv : Utf8.valid (k : Int) = true) :
    (k < 128 ∧ (Utf8.encode k).data.toList = [UInt8.ofNat k]) ∨
    (128 ≤ k ∧ k < 2048 ∧ (Utf8.encode k).data.toList = [UInt8.ofNat (192 + k / 64), UInt8.ofNat (128 + k % 64)]) ∨
    (2048 ≤ k ∧ k < 65536 ∧ (k < 55296 ∨ 57344 ≤ k) ∧ (Utf8.encode k).data.toList = [UInt8.ofNat (224 + k / 4096), UInt8.ofNat (128 + k / 64 % 64), UInt8.ofNat (128 + k % 64)]) ∨
    (65536 ≤ k ∧ k ≤ 1114111 ∧ (Utf8.encode k).data.toList = [UInt8.ofNat (240 + k / 262144), UInt8.ofNat (128 + k / 4096 % 64), UInt8.ofNat (128 + k / 64 % 64), UInt8.ofNat (128 + k % 64)]) := by
  have hv' : (k < 55296) ∨ (57344 ≤ k ∧ k ≤ 1114111) := by
    simp [Utf8.valid] at hv; omega
  unfold Utf8.encode
  simp only [hv, if_true, Int.toNat_natCast]
  by_cases h1 : k < 128
  · left; exact ⟨h1, by rw [if_pos h1]⟩
  · by_cases h2 : k < 2048
    · right; left; exact ⟨by omega, h2, by rw [if_neg h1, if_pos h2]⟩
    · by_cases h3 : k < 65536
      · right; right; left; exact ⟨by omega, h3, by omega, by rw [if_neg h1, if_neg h2, if_pos h3]⟩
      · right; right; right; exact ⟨by omega, by omega, by rw [if_neg h1, if_neg h2, if_neg h3]⟩

theorem decode_encode (k : Nat) (hv : Utf8.valid (k : Int) = true) : decodeL (Utf8.encode k).data.toList = (k, (Utf8.encode k).size) ∧ 1 ≤ (Utf8.encode k).size ∧ (Utf8.encode k).size ≤ 4 ∧
    ∀ n, 0 < n → n < (Utf8.encode k).size → decodeL ((Utf8.encode k).data.toList.take n) = (65533, 1) := by
  rw [Lib.size_eq]
  rcases enc_cases k hv with ⟨h, e⟩ | ⟨h1, h2, e⟩ | ⟨h1, h2, h3, e⟩ | ⟨h1, h2, e⟩
  · rw [e]
    refine ⟨?_, by simp, by simp, fun n a b => by simp at b; omega⟩
    rw [decodeL_N]
    simp only [List.getD_cons_zero, List.length_cons, List.length_nil]
    rw [ofNat_toNat k (by omega)]
    simp [decodeN, h]
  · rw [e]
    have e0 := ofNat_toNat (192 + k / 64) (by omega)
    have e1 := ofNat_toNat (128 + k % 64) (by omega)
    refine ⟨?_, by simp, by simp, fun n a b => ?_⟩
    · rw [decodeL_N]
      simp only [List.getD_cons_zero, List.getD_cons_succ, List.length_cons, List.length_nil]
      rw [e0, e1]
      unfold decodeN
      rw [if_neg (by omega), if_pos (by omega), if_pos (by omega)]
      simp; omega
    · obtain rfl : n = 1 := by simp at b; omega
      rw [decodeL_N]
      simp only [List.take_succ_cons, List.take_zero, List.getD_cons_zero, List.getD_cons_succ, List.length_cons, List.length_nil]
      rw [e0]
      exact decodeN_alone _ _ _ _ _ (by omega) (.inl (by omega))
  · rw [e]
    have e0 := ofNat_toNat (224 + k / 4096) (by omega)
    have e1 := ofNat_toNat (128 + k / 64 % 64) (by omega)
    have e2 := ofNat_toNat (128 + k % 64) (by omega)
    refine ⟨?_, by simp, by simp, fun n a b => ?_⟩
    · rw [decodeL_N]
      simp only [List.getD_cons_zero, List.getD_cons_succ, List.length_cons, List.length_nil]
      rw [e0, e1, e2]
      unfold decodeN
      rw [if_neg (by omega), if_neg (by omega), if_pos (by omega), if_pos (by omega)]
      simp; omega
    · have hn : n = 1 ∨ n = 2 := by simp at b; omega
      rcases hn with rfl | rfl
      · rw [decodeL_N]
        simp only [List.take_succ_cons, List.take_zero, List.getD_cons_zero, List.getD_cons_succ, List.length_cons, List.length_nil]
        rw [e0]
        exact decodeN_alone _ _ _ _ _ (by omega) (.inl (by omega))
      · rw [decodeL_N]
        simp only [List.take_succ_cons, List.take_zero, List.getD_cons_zero, List.getD_cons_succ, List.length_cons, List.length_nil]
        rw [e0, e1]
        unfold decodeN
        rw [if_neg (by omega), if_neg (by omega), if_neg (by omega), if_neg (by omega)]
  · rw [e]
    have e0 := ofNat_toNat (240 + k / 262144) (by omega)
    have e1 := ofNat_toNat (128 + k / 4096 % 64) (by omega)
    have e2 := ofNat_toNat (128 + k / 64 % 64) (by omega)
    have e3 := ofNat_toNat (128 + k % 64) (by omega)
    refine ⟨?_, by simp, by simp, fun n a b => ?_⟩
    · rw [decodeL_N]
      simp only [List.getD_cons_zero, List.getD_cons_succ, List.length_cons, List.length_nil]
      rw [e0, e1, e2, e3]
      unfold decodeN
      rw [if_neg (by omega), if_neg (by omega), if_neg (by omega), if_pos (by omega), if_pos (by omega)]
      simp; omega
    · have hn : n = 1 ∨ n = 2 ∨ n = 3 := by simp at b; omega
      rcases hn with rfl | rfl | rfl
      · rw [decodeL_N]
        simp only [List.take_succ_cons, List.take_zero, List.getD_cons_zero, List.getD_cons_succ, List.length_cons, List.length_nil]
        rw [e0]
        exact decodeN_alone _ _ _ _ _ (by omega) (.inl (by omega))
      · rw [decodeL_N]
        simp only [List.take_succ_cons, List.take_zero, List.getD_cons_zero, List.getD_cons_succ, List.length_cons, List.length_nil]
        rw [e0, e1]
        unfold decodeN
        rw [if_neg (by omega), if_neg (by omega), if_neg (by omega), if_neg (by omega)]
      · rw [decodeL_N]
        simp only [List.take_succ_cons, List.take_zero, List.getD_cons_zero, List.getD_cons_succ, List.length_cons, List.length_nil]
        rw [e0, e1, e2]
        unfold decodeN
        rw [if_neg (by omega), if_neg (by omega), if_neg (by omega), if_neg (by omega)]

/-- A code point's bytes are one unit. -/
theorem units_encode (k : Nat) (hv : Utf8.valid (k : Int) = true) : validD (Utf8.encode k).data.toList = true ∧ units 0 (Utf8.encode k).data.toList = [(0, (Utf8.encode k).size, (k : Int))] := by
  obtain ⟨hd, h1, _, _⟩ := decode_encode k hv
  have hne : (Utf8.encode k).data.toList ≠ [] := by
    intro h0
    have := congrArg List.length h0
    rw [← Lib.size_eq, List.length_nil] at this
    omega
  have hdrop : (Utf8.encode k).data.toList.drop (Utf8.encode k).size = [] := List.drop_eq_nil_of_le (by rw [← Lib.size_eq]; omega)
  have hbad : ¬ ((decodeL (Utf8.encode k).data.toList).1 = 65533 ∧ (decodeL (Utf8.encode k).data.toList).2 = 1) := by
    rw [hd]
    rintro ⟨e1, e2⟩
    dsimp only at e1 e2
    subst e1
    revert e2; decide
  constructor
  · rw [validD_step _ hne, if_neg hbad, hd]
    dsimp only
    rw [hdrop]; rfl
  · have hu : uBad (Utf8.encode k).data.toList = false := by simpa [uBad] using hbad
    rw [units_step _ _ hne]
    simp [uCode, hu, hd, hdrop, units_nil]

theorem valid_cut (k n : Nat) (hv : Utf8.valid (k : Int) = true) (h0 : 0 < n) (h1 : n < (Utf8.encode k).size) : validD ((Utf8.encode k).data.toList.take n) = false := by
  obtain ⟨_, _, _, hc⟩ := decode_encode k hv
  have hne : (Utf8.encode k).data.toList.take n ≠ [] := by
    intro h
    have := congrArg List.length h
    rw [List.length_take, ← Lib.size_eq, List.length_nil] at this
    omega
  rw [validD_step _ hne, if_pos]
  rw [hc n h0 h1]
  exact ⟨rfl, rfl⟩
end Go.Proofs.YtfhoffdgbkoffaaDoor
