/- abecedarylaw00.Digits by contract: a short text. -/
import Derived.Test.YtcbmfkgekhadkaaGreatDoorZGa
import Derived.BigRegion
import Derived.Deep.RegionWith
namespace Go.Proofs.YtcbmfkgekhadkaaGreatDoor
open Go Go.RowKit Go.Lib

theorem ten_sizeZ : (⟨#[48, 49, 50, 51, 52, 53, 54, 55, 56, 57]⟩ : ByteArray).size = 10 := rfl

set_option maxRecDepth 100000 in
set_option maxHeartbeats 1000000 in
theorem zdig_small (v : Int) (w : World) (h1 : -10 < v) (h2 : v < 10) :
    Calls Tryz.prog 20 #[.int .i64 v] w fun e w' => ∃ s : ByteArray, e = .returned (.string s) ∧ s.size ≤ 2 ∧ Below w.heap.size w w' := by
  have hc : (0 ≤ v ∧ v < 10) ∨ (-10 < v ∧ v < 0) := by omega
  rcases hc with ⟨h1, h2⟩ | ⟨h1, h2⟩
  · obtain ⟨K, rfl⟩ : ∃ K : Nat, v = K := ⟨v.toNat, by omega⟩
    have k2 : K < 10 := by omega
    go_enter Tryz.func20, Tryz.ntmps20
    go_wp2_with fail
    go_ret
    exact ⟨_, rfl, by rw [ByteArray.size_extract, ten_sizeZ]; omega, Below.refl _ _⟩
  · obtain ⟨K, rfl⟩ : ∃ K : Nat, v = -(K : Int) := ⟨(-v).toNat, by omega⟩
    have k1 : 0 < K := by omega
    have k2 : K < 10 := by omega
    go_enter Tryz.func20, Tryz.ntmps20
    go_wp2_with fail
    go_ret
    refine ⟨_, rfl, ?_, Below.refl _ _⟩
    rw [ByteArray.size_append, ByteArray.size_extract, ten_sizeZ]
    have : (⟨#[45]⟩ : ByteArray).size = 1 := rfl
    omega

set_option maxRecDepth 100000 in
set_option maxHeartbeats 2000000 in
theorem zdig_n : ∀ (n : Nat) (v : Int) (w : World), v.natAbs < 10 ^ (n + 1) → -9223372036854775808 ≤ v → v ≤ 9223372036854775807 → n ≤ 20 →
    Calls Tryz.prog 20 #[.int .i64 v] w fun e w' => ∃ s : ByteArray, e = .returned (.string s) ∧ s.size ≤ n + 2 ∧ Below w.heap.size w w' := by
  intro n
  induction n with
  | zero =>
    intro v w hv b1 b2 _
    exact zdig_small v w (by omega) (by omega)
  | succ n ih =>
    intro v w hv b1 b2 hn
    have hc : (-10 < v ∧ v < 10) ∨ 10 ≤ v ∨ v ≤ -10 := by omega
    rcases hc with ⟨h1, h2⟩ | h1 | h1
    · exact (zdig_small v w h1 h2).mono fun e w' ⟨s, he, hs, hb⟩ => ⟨s, he, by omega, hb⟩
    · have hp : (10 : Nat) ^ (n + 1 + 1) = 10 * 10 ^ (n + 1) := by rw [Nat.pow_succ]; omega
      rw [hp] at hv
      generalize 10 ^ (n + 1) = N at *
      obtain ⟨q, hq⟩ : ∃ q : Int, v.tdiv 10 = q := ⟨_, rfl⟩
      obtain ⟨K, hk⟩ : ∃ K : Nat, v.tmod 10 = K := ⟨(v.tmod 10).toNat, by rw [Int.tmod_eq_emod_of_nonneg (by omega)]; omega⟩
      have k2 : K < 10 := by rw [Int.tmod_eq_emod_of_nonneg (by omega)] at hk; omega
      have qq : v / 10 = q := by rw [← hq, Int.tdiv_eq_ediv_of_nonneg (by omega)]
      have C := Lib.hid (fun wx => ih q wx (by omega) (by omega) (by omega) (by omega))
      have wq : IntKind.i64.wrap q = q := IntWalk.i64_in _ (by omega)
      have wk : IntKind.i64.wrap (K : Int) = K := IntWalk.i64_in _ (by omega)
      have wk1 : IntKind.i64.wrap ((K : Int) + 1) = (K : Int) + 1 := IntWalk.i64_in _ (by omega)
      have k3 : (0 : Int) ≤ K := by omega
      have k4 : (K : Int) + 1 ≤ 10 := by omega
      have k5 : (K : Int) ≤ (K : Int) + 1 := by omega
      have k6 : (K + 1) ≤ 10 := by omega
      clear ih hv hp qq
      go_enter Tryz.func20, Tryz.ntmps20
      go_wp2_with fail
      go_region_with ((go_at_call 20; refine (C.out _).mono ?_; rintro e w5 ⟨s5, rfl, hs5, hb5⟩))
      all_goals
        have HS := Lib.hid hs5
        have HB := Lib.hid ((below_drewN (Below.refl w.heap.size w) 1).trans hb5)
        clear hs5 hb5
        go_wp2_with fail
        go_ret
        refine ⟨_, rfl, ?_, HB.out⟩
        have := HS.out
        rw [ByteArray.size_append, ByteArray.size_extract, ten_sizeZ]
        omega
    · have hp : (10 : Nat) ^ (n + 1 + 1) = 10 * 10 ^ (n + 1) := by rw [Nat.pow_succ]; omega
      rw [hp] at hv
      generalize 10 ^ (n + 1) = N at *
      obtain ⟨V, rfl⟩ : ∃ V : Nat, v = -(V : Int) := ⟨(-v).toNat, by omega⟩
      obtain ⟨q, hq⟩ : ∃ q : Int, (-(V : Int)).tdiv 10 = q := ⟨_, rfl⟩
      obtain ⟨K, hK⟩ : ∃ K : Nat, V % 10 = K := ⟨_, rfl⟩
      have hk : (-(V : Int)).tmod 10 = -(K : Int) := by rw [Int.neg_tmod, Int.tmod_eq_emod_of_nonneg (by omega)]; omega
      have k2 : K < 10 := by omega
      have qq : -((V : Int) / 10) = q := by rw [← hq, Int.neg_tdiv, Int.tdiv_eq_ediv_of_nonneg (by omega)]
      have C := Lib.hid (fun wx => ih q wx (by omega) (by omega) (by omega) (by omega))
      have wq : IntKind.i64.wrap q = q := IntWalk.i64_in _ (by omega)
      have wk : IntKind.i64.wrap (K : Int) = K := IntWalk.i64_in _ (by omega)
      have wkn : IntKind.i64.wrap (-(K : Int)) = -(K : Int) := IntWalk.i64_in _ (by omega)
      have wk1 : IntKind.i64.wrap ((K : Int) + 1) = (K : Int) + 1 := IntWalk.i64_in _ (by omega)
      have k3 : (0 : Int) ≤ K := by omega
      have k4 : (K : Int) + 1 ≤ 10 := by omega
      have k5 : (K : Int) ≤ (K : Int) + 1 := by omega
      have k6 : (K + 1) ≤ 10 := by omega
      have kn : - -(K : Int) = K := by omega
      clear ih hv hp qq hK
      go_enter Tryz.func20, Tryz.ntmps20
      go_wp2_with fail
      go_region_with ((go_at_call 20; refine (C.out _).mono ?_; rintro e w5 ⟨s5, rfl, hs5, hb5⟩))
      all_goals
        have HS := Lib.hid hs5
        have HB := Lib.hid ((below_drewN (Below.refl w.heap.size w) 1).trans hb5)
        clear hs5 hb5
        go_wp2_with fail
        go_ret
        refine ⟨_, rfl, ?_, HB.out⟩
        have := HS.out
        rw [ByteArray.size_append, ByteArray.size_extract, ten_sizeZ]
        omega

/-- Digits of a number that is not great: a short text. -/
theorem zdig_any (v : Int) (w : World) (b1 : -100000 ≤ v) (b2 : v ≤ 100000) :
    Calls Tryz.prog 20 #[.int .i64 v] w fun e w' => ∃ s : ByteArray, e = .returned (.string s) ∧ s.size ≤ 20 ∧ Below w.heap.size w w' :=
  zdig_n 18 v w (by omega) (by omega) (by omega) (by omega)
end Go.Proofs.YtcbmfkgekhadkaaGreatDoor
