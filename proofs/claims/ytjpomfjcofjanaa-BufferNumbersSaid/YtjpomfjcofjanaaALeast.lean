/- abecedaryref04.Least and Place by contract. -/
import Derived.Test.YtjpomfjcofjanaaProg
import Derived.Test.YtjpomfjcofjanaaAPlain
import Derived.WalkKit
import Derived.WalkSpells
import Derived.WalkLawsBesides
import Derived.IntWalk
import Derived.BigQuiet
import Derived.Deep.QuietTactic
import Derived.Below
import Derived.Outline
import Derived.WalkMore
namespace Go.Proofs.Ytjpomfjcofjanaa.Avl
open Go Go.RowKit

theorem tmod_facts (v n : Int) (hn : 0 < n) : (v.tmod n < 0 → v % n = v.tmod n + n) ∧ (0 ≤ v.tmod n → v % n = v.tmod n) ∧ -n < v.tmod n ∧ v.tmod n < n := by
  have h1 := Int.emod_nonneg v (show n ≠ 0 by omega)
  have h2 := Int.emod_lt_of_pos v hn
  have ht : v.tmod n = if 0 ≤ v then v % n else if v % n = 0 then 0 else v % n - n := by
    rw [Int.tmod_eq_emod]
    have hd : (n ∣ v) ↔ v % n = 0 := Int.dvd_iff_emod_eq_zero
    by_cases h0 : 0 ≤ v
    · simp [h0]
    · by_cases hz : v % n = 0
      · simp [h0, hd, hz]
      · have : (n.natAbs : Int) = n := by omega
        simp [h0, hd, hz, this]
  by_cases h0 : 0 ≤ v
  · have h : v.tmod n = v % n := by rw [ht, if_pos h0]
    omega
  · by_cases hz : v % n = 0
    · have h : v.tmod n = 0 := by rw [ht, if_neg h0, if_pos hz]
      omega
    · have h : v.tmod n = v % n - n := by rw [ht, if_neg h0, if_neg hz]
      omega

theorem ret_int {k : IntKind} {a b : Int} (h : a = b) : Ending.returned (.int k a) = .returned (.int k b) := by rw [h]

set_option maxHeartbeats 400000 in
theorem place_any (v n : Int) (w : World) (hn : 0 < n) (hn2 : n ≤ 1000000000000000000) :
    Calls Try.prog 11 #[.int .i64 v, .int .i64 n] w fun e w' => e = .returned (.int .i64 (v % n)) ∧ w = w' := by
  obtain ⟨hneg, hpos, hb1, hb2⟩ := tmod_facts v n hn
  have hz0 : (n == 0) = false := by simp; omega
  have HN := Lib.hid hneg
  have HP := Lib.hid hpos
  clear hneg hpos
  go_enter Try.func11, Try.ntmps11
  go_wp2
  all_goals go_ret
  · exact ⟨ret_int (HN.out (by assumption)).symm, rfl⟩
  · exact ⟨ret_int (HP.out (by omega)).symm, rfl⟩

theorem least_twice (h : Nat) : least (h + 1) ≤ 2 * least h + 1 := by
  match h with
  | 0 => decide
  | h + 1 =>
    have := least_mono h
    show least h + least (h + 1) + 1 ≤ _
    omega

set_option maxHeartbeats 1000000 in
theorem least_any (h : Nat) (w : World) (hh : h ≤ 9223372036854775807) :
    Calls Try.prog 27 #[.int .i64 h] w fun e w' => (∃ c : Nat, e = .returned (.int .i64 c) ∧ c ≤ least h ∧ c ≤ 4398046511104) ∧ w = w' := by
  go_enter Try.func27, Try.ntmps27
  go_wp2
  go_loop [3, 4, 5] (fun a b i => ∃ (k : Nat) (A B : Int), k ≤ h ∧ a = .int .i64 A ∧ b = .int .i64 B ∧ i = .int .i64 k ∧ Hid (A = (least k : Nat) ∧ B = (least (k + 1) : Nat) ∧ A ≤ 4398046511104)) (fun _ _ i => h - (RowKit.intOf i).toNat)
  case atStart => exact ⟨0, 0, 1, by omega, rfl, rfl, rfl, ⟨rfl, rfl, by omega⟩⟩
  case round =>
    obtain ⟨k, A, B, hk, rfl, rfl, rfl, hid⟩ := hrel
    have HA := hid
    obtain ⟨hA, hB, hA4⟩ := hid.out
    have h2 := least_twice k
    have hle := least_le hk
    have a0 : (0 : Int) ≤ A := by omega
    have b0 : (0 : Int) ≤ B := by omega
    have b1 : (B : Int) ≤ 8796093022209 := by omega
    have HL := Lib.hid (show A.toNat ≤ least h by omega)
    clear hA hB h2 hle hid
    by_cases hc : k < h ∧ A < 1099511627776
    · obtain ⟨c1, c2⟩ := hc
      have H3 := Lib.hid (show (least (k + 1 + 1) : Nat) = A + B + 1 by
        have := HA.out.1; have := HA.out.2.1
        show ((least k + least (k + 1) + 1 : Nat) : Int) = A + B + 1
        omega)
      have HB := Lib.hid HA.out.2.1
      have H4 := Lib.hid (show B ≤ 4398046511104 by
        have := least_twice k; have := HA.out.1; have := HA.out.2.1; omega)
      clear hA4
      go_wp2
      go_round
      case rel => exact ⟨k + 1, B, A + B + 1, by omega, rfl, by go_num, by go_num, ⟨HB.out, H3.out.symm, H4.out⟩⟩
      case measure => simp [RowKit.intOf]; omega
    · have hcs : (k < h ∧ 1099511627776 ≤ A) ∨ h ≤ k := by omega
      clear hc
      rcases hcs with ⟨c1, c2⟩ | c1
      all_goals
        go_wp2
        go_ret
        exact ⟨⟨A.toNat, ret_int (Int.toNat_of_nonneg a0).symm, HL.out, by omega⟩, rfl⟩
end Go.Proofs.Ytjpomfjcofjanaa.Avl
