/- The small callees of the rune laws: Place, ValidRune, RuneLen, HasPrefix, Bytes. -/
import Derived.Test.YtfhoffdgbkoffaaDoorProg
import Derived.WalkKit
import Derived.WalkSpells
import Derived.WalkLawsBesides
import Derived.Lib.Hide
import Derived.IntWalk
import Derived.BigQuiet
import Derived.Deep.QuietTactic
namespace Go.Proofs.YtfhoffdgbkoffaaDoor
open Go Go.RowKit

theorem tmod_facts (v n : Int) (hn : 0 < n) : (v.tmod n < 0 → v % n = v.tmod n + n) ∧ (0 ≤ v.tmod n → v % n = v.tmod n) ∧ -n < v.tmod n ∧ v.tmod n < n := by
  have h1 := Int.emod_nonneg v (show n ≠ 0 by omega)
  have h2 := Int.emod_lt_of_pos v hn
  have ht : v.tmod n = if 0 ≤ v then v % n else if v % n = 0 then 0 else v % n - n := by
    rw [Int.tmod_eq_emod]
    have hd : (n ∣ v) ↔ v % n = 0 := Int.dvd_iff_emod_eq_zero
    by_cases h0 : 0 ≤ v
    · simp [h0]
    · by_cases hz : v % n = 0
      · simp [h0, hd, hz]
      · have : (n.natAbs : Int) = n := by omega
        simp [h0, hd, hz, this]
  by_cases h0 : 0 ≤ v
  · have h : v.tmod n = v % n := by rw [ht, if_pos h0]
    omega
  · by_cases hz : v % n = 0
    · have h : v.tmod n = 0 := by rw [ht, if_neg h0, if_pos hz]
      omega
    · have h : v.tmod n = v % n - n := by rw [ht, if_neg h0, if_neg hz]
      omega

theorem ret_int {k : IntKind} {a b : Int} (h : a = b) : Ending.returned (.int k a) = .returned (.int k b) := by rw [h]

set_option maxHeartbeats 400000 in
theorem place_any (v n : Int) (w : World) (hn : 0 < n) (hn2 : n ≤ 1000000000) :
    Calls Tryd.prog 12 #[.int .i64 v, .int .i64 n] w fun e w' => e = .returned (.int .i64 (v % n)) ∧ w = w' := by
  obtain ⟨hneg, hpos, hb1, hb2⟩ := tmod_facts v n hn
  have hz0 : (n == 0) = false := by simp; omega
  have HN := Lib.hid hneg
  have HP := Lib.hid hpos
  clear hneg hpos
  go_enter Tryd.func12, Tryd.ntmps12
  go_wp2
  all_goals go_ret
  · exact ⟨ret_int (HN.out (by assumption)).symm, rfl⟩
  · exact ⟨ret_int (HP.out (by omega)).symm, rfl⟩

set_option maxHeartbeats 400000 in
theorem validRune_any (r : Int) (w : World) :
    Calls Tryd.prog 34 #[.int .i32 r] w fun e w' => e = .returned (.bool (Utf8.valid r)) ∧ w = w' := by
  by_cases h1 : r < 55296
  · by_cases h0 : 0 ≤ r
    · have hv : Utf8.valid r = true := by simp [Utf8.valid]; omega
      rw [hv]; clear hv
      go_enter Tryd.func34, Tryd.ntmps34
      go_wp2
      all_goals go_ret
      all_goals exact ⟨rfl, rfl⟩
    · have hv : Utf8.valid r = false := by simp [Utf8.valid]; omega
      rw [hv]; clear hv
      go_enter Tryd.func34, Tryd.ntmps34
      go_wp2
      all_goals go_ret
      all_goals exact ⟨rfl, rfl⟩
  · by_cases h2 : 57343 < r
    · by_cases h3 : r ≤ 1114111
      · have hv : Utf8.valid r = true := by simp [Utf8.valid]; omega
        rw [hv]; clear hv
        go_enter Tryd.func34, Tryd.ntmps34
        go_wp2
        all_goals go_ret
        all_goals exact ⟨rfl, rfl⟩
      · have hv : Utf8.valid r = false := by simp [Utf8.valid]; omega
        rw [hv]; clear hv
        go_enter Tryd.func34, Tryd.ntmps34
        go_wp2
        all_goals go_ret
        all_goals exact ⟨rfl, rfl⟩
    · have hv : Utf8.valid r = false := by simp [Utf8.valid]; omega
      rw [hv]; clear hv
      go_enter Tryd.func34, Tryd.ntmps34
      go_wp2
      all_goals go_ret
      all_goals exact ⟨rfl, rfl⟩

/-- runes.Bytes. -/
def bytesOf (c : Int) : ByteArray := if Utf8.valid c then Utf8.encode c else ⟨#[]⟩

set_option maxHeartbeats 400000 in
theorem bytes_any (c : Int) (w : World) :
    Calls Tryd.prog 20 #[.int .i64 c] w fun e w' => e = .returned (.string (bytesOf c)) ∧ w = w' := by
  by_cases h0 : c < 0
  · have hv : bytesOf c = ⟨#[]⟩ := by simp [bytesOf, Utf8.valid]; omega
    rw [hv]; clear hv
    go_enter Tryd.func20, Tryd.ntmps20
    go_wp2_with (fail)
    go_ret
    exact ⟨rfl, rfl⟩
  · by_cases h1 : c > 1114111
    · have hv : bytesOf c = ⟨#[]⟩ := by simp [bytesOf, Utf8.valid]; omega
      rw [hv]; clear hv
      go_enter Tryd.func20, Tryd.ntmps20
      go_wp2_with (fail)
      go_ret
      exact ⟨rfl, rfl⟩
    · have hw : IntKind.i32.wrap c = c := Go.IntWalk.i32_in c (by omega)
      cases hv : Utf8.valid c
      · have hb : bytesOf c = ⟨#[]⟩ := by simp [bytesOf, hv]
        rw [hb]
        go_enter Tryd.func20, Tryd.ntmps20
        go_wp2_with (go_at_call 34; refine (validRune_any _ _).mono ?_; rintro e w' ⟨rfl, rfl⟩)
        go_ret
        exact ⟨rfl, rfl⟩
      · have hb : bytesOf c = Utf8.encode c := by simp [bytesOf, hv]
        rw [hb]
        go_enter Tryd.func20, Tryd.ntmps20
        go_wp2_with (go_at_call 34; refine (validRune_any _ _).mono ?_; rintro e w' ⟨rfl, rfl⟩)
        go_ret
        exact ⟨rfl, rfl⟩
end Go.Proofs.YtfhoffdgbkoffaaDoor
