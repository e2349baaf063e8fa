/- EditKnown out of what is asked of Apply and Inverse. -/
import Derived.Test.YtfdnlbeancdajaaELaws
namespace Go.Proofs.Ytfdnlbeancdajaa
open Go Go.RowKit

theorem tmod_facts (v n : Int) (hn : 0 < n) : (v.tmod n < 0 → v % n = v.tmod n + n) ∧ (0 ≤ v.tmod n → v % n = v.tmod n) ∧ -n < v.tmod n ∧ v.tmod n < n := by
  have h1 := Int.emod_nonneg v (show n ≠ 0 by omega)
  have h2 := Int.emod_lt_of_pos v hn
  have ht : v.tmod n = if 0 ≤ v then v % n else if v % n = 0 then 0 else v % n - n := by
    rw [Int.tmod_eq_emod]
    have hd : (n ∣ v) ↔ v % n = 0 := Int.dvd_iff_emod_eq_zero
    by_cases h0 : 0 ≤ v
    · simp [h0]
    · by_cases hz : v % n = 0
      · simp [h0, hd, hz]
      · have : (n.natAbs : Int) = n := by omega
        simp [h0, hd, hz, this]
  by_cases h0 : 0 ≤ v
  · have h : v.tmod n = v % n := by rw [ht, if_pos h0]
    omega
  · by_cases hz : v % n = 0
    · have h : v.tmod n = 0 := by rw [ht, if_neg h0, if_pos hz]
      omega
    · have h : v.tmod n = v % n - n := by rw [ht, if_neg h0, if_neg hz]
      omega
theorem ret_int {k : IntKind} {a b : Int} (h : a = b) : Ending.returned (.int k a) = .returned (.int k b) := by rw [h]
set_option maxHeartbeats 400000 in
theorem place_any (v n : Int) (w : World) (hn : 0 < n) (hn2 : n ≤ 1000000000000000000) :
    Calls Try.prog 18 #[.int .i64 v, .int .i64 n] w fun e w' => e = .returned (.int .i64 (v % n)) ∧ w = w' := by
  obtain ⟨hneg, hpos, hb1, hb2⟩ := tmod_facts v n hn
  have hz0 : (n == 0) = false := by simp; omega
  have HN := Lib.hid hneg
  have HP := Lib.hid hpos
  clear hneg hpos
  go_enter Try.func18, Try.ntmps18
  go_wp2
  all_goals go_ret
  · exact ⟨ret_int (HN.out (by assumption)).symm, rfl⟩
  · exact ⟨ret_int (HP.out (by omega)).symm, rfl⟩

theorem fits_mid (a b c : ByteArray) : fitsE (a ++ b ++ c) a.size b := by
  refine ⟨by omega, by simp only [ByteArray.size_append]; omega, by simp only [ByteArray.size_append]; omega, ?_⟩
  have h := ByteArray.extract_append_size_add (a := a) (b := b ++ c) (i := 0) (j := b.size)
  rw [Nat.add_zero] at h
  rw [Int.toNat_natCast, ByteArray.append_assoc, h, ByteArray.extract_append_eq_left rfl]
theorem put_mid (a b c i : ByteArray) : putT (a ++ b ++ c) a.size b.size i = a ++ i ++ c := by
  rw [putT]
  have e1 : (a ++ b ++ c).extract 0 a.size = a := by rw [ByteArray.append_assoc]; exact ByteArray.extract_append_eq_left rfl
  have e2 : (a ++ b ++ c).extract (a.size + b.size) (a ++ b ++ c).size = c := ByteArray.extract_append_eq_right (by rw [ByteArray.size_append]) (by rw [ByteArray.size_append])
  rw [e1, e2]
theorem app_mid (a b c i : ByteArray) : appS (a ++ b ++ c) a.size b i = a ++ i ++ c := by
  rw [appS, if_pos (fits_mid a b c), Int.toNat_natCast, put_mid]

set_option maxRecDepth 100000 in
set_option maxHeartbeats 1000000 in
theorem known_out (S : SaysP) (a b c i : ByteArray) (off : Int) (w : World) (ha : a.size ≤ 281474976710656) (hb : b.size ≤ 281474976710656) (hc : c.size ≤ 281474976710656) (hi : i.size ≤ 281474976710656) (h : 2000 < a.size + b.size + c.size + i.size) :
    Calls Try.prog 6 #[.string a, .string b, .string c, .string i, .int .i64 off] w fun e w' => e = .returned (.bool true) ∧ Below w.heap.size w w' := by
  have W7 := Lib.hid (awake_any S)
  have a1 : (2000 : Int) < (a.size : Int) + b.size + c.size + i.size := by omega
  have a2 : (a.size : Int) ≤ 281474976710656 := by omega
  have a3 : (b.size : Int) ≤ 281474976710656 := by omega
  have a4 : (c.size : Int) ≤ 281474976710656 := by omega
  have a5 : (i.size : Int) ≤ 281474976710656 := by omega
  clear S ha hb hc hi h
  go_enter Try.func6, Try.ntmps6
  go_wp2_with fail
  refine (W7.out _).mono ?_
  rintro e w7 ⟨rfl, hb7⟩
  have HB7 := Lib.hid hb7
  clear hb7
  go_wp2_with fail
  go_ret
  exact ⟨rfl, HB7.out⟩

set_option maxRecDepth 100000 in
set_option maxHeartbeats 4000000 in
theorem known_in (S : SaysP) (a b c i : ByteArray) (off : Int) (w : World) (h : a.size + b.size + c.size + i.size ≤ 2000) :
    Calls Try.prog 6 #[.string a, .string b, .string c, .string i, .int .i64 off] w fun e w' => e = .returned (.bool true) ∧ Below w.heap.size w w' := by
  have W7 := Lib.hid (fun wx (hx : Hid (Boxed w w.heap.size a.size b i wx)) => (awake_any S wx).mono fun e w' (h : e = .returned (.bool true) ∧ Below wx.heap.size wx w') => show e = .returned (.bool true) ∧ Hid (Boxed w w.heap.size a.size b i w') from ⟨h.1, Lib.hid (hx.out.on h.2)⟩)
  obtain ⟨k, hk⟩ : ∃ k : Int, off % 100 = k := ⟨_, rfl⟩
  have k0 : 0 ≤ k := by omega
  have k1 : k < 100 := by omega
  have P1 := Lib.hid (fun wx => show Calls Try.prog 18 #[.int .i64 off, .int .i64 100] wx (fun e w' => e = .returned (.int .i64 k) ∧ wx = w') from by rw [← hk]; exact place_any off 100 wx (by omega) (by omega))
  have hsz : (a ++ b ++ c).size = a.size + b.size + c.size := by simp only [ByteArray.size_append]
  have hsz2 : (a ++ i ++ c).size = a.size + i.size + c.size := by simp only [ByteArray.size_append]
  have hsz3 : (b ++ c ++ ⟨#[120]⟩).size = b.size + c.size + 1 := by simp only [ByteArray.size_append]; rfl
  have gen : ∀ wx (s d t : ByteArray) (q : Int), s.size ≤ 2000 → d.size ≤ 3000 → t.size ≤ 2000 → -9223372036854775808 ≤ q → q ≤ 9223372036854775807 → Hid (Boxed w w.heap.size a.size b i wx) → Calls Try.prog 8 #[.string s, EdV q d t] wx fun e w' => e = .returned (.tuple #[.string (appS s q d t), .bool (decide (fitsE s q d))]) ∧ Hid (Boxed w w.heap.size a.size b i w') := fun wx s d t q h1 h2 h3 h4 h5 hx =>
    (S.apply wx s d t q (by omega) (by omega) (by omega) h4 h5).mono fun e w' h => ⟨h.1, Lib.hid (hx.out.on h.2)⟩
  have C1 := Lib.hid (fun wx hx => gen wx (a ++ b ++ c) b i a.size (by omega) (by omega) (by omega) (by omega) (by omega) hx)
  rw [app_mid, decide_eq_true (fits_mid a b c)] at C1
  have C2 := Lib.hid (fun wx hx => gen wx (a ++ i ++ c) i b a.size (by omega) (by omega) (by omega) (by omega) (by omega) hx)
  rw [app_mid, decide_eq_true (fits_mid a i c)] at C2
  have C3 := Lib.hid (fun wx hx => gen wx (a ++ b ++ c) ⟨#[]⟩ ⟨#[120]⟩ ((a.size : Int) + b.size + c.size + 1 + k) (by omega) (by decide) (by decide) (by omega) (by omega) hx)
  have n3 : ¬ fitsE (a ++ b ++ c) ((a.size : Int) + b.size + c.size + 1 + k) ⟨#[]⟩ := fun h => by have := h.2.1; omega
  rw [appS, if_neg n3, decide_eq_false n3] at C3
  have C4 := Lib.hid (fun wx hx => gen wx (a ++ b ++ c) ⟨#[]⟩ ⟨#[]⟩ (-1 - k) (by omega) (by decide) (by decide) (by omega) (by omega) hx)
  have n4 : ¬ fitsE (a ++ b ++ c) (-1 - k) ⟨#[]⟩ := fun h => by have := h.1; omega
  rw [appS, if_neg n4, decide_eq_false n4] at C4
  have C5 := Lib.hid (fun wx hx => gen wx (a ++ b ++ c) (b ++ c ++ ⟨#[120]⟩) ⟨#[]⟩ a.size (by omega) (by omega) (by decide) (by omega) (by omega) hx)
  have n5 : ¬ fitsE (a ++ b ++ c) a.size (b ++ c ++ ⟨#[120]⟩) := fun h => by have := h.2.2.1; omega
  rw [appS, if_neg n5, decide_eq_false n5] at C5
  have CI := Lib.hid (fun wx (hx : Hid (Boxed w w.heap.size a.size b i wx)) => (S.inverse wx a.size b i).mono fun e w' h => show e = .returned (EdV a.size i b) ∧ Hid (Boxed w w.heap.size a.size b i w') from ⟨h.1, Lib.hid (hx.out.on h.2)⟩)
  simp only [EdV] at C1 C2 C3 C4 C5 CI
  have a1 : (a.size : Int) + b.size + c.size + i.size ≤ 2000 := by omega
  have a2 : (0 : Int) ≤ a.size := by omega
  have a3 : (0 : Int) ≤ b.size := by omega
  have a4 : (0 : Int) ≤ c.size := by omega
  have a5 : (0 : Int) ≤ i.size := by omega
  have z1 : ¬ 9223372036854775807 < a.size + b.size := by omega
  have z2 : ¬ 9223372036854775807 < a.size + b.size + c.size := by omega
  have z3 : ¬ 9223372036854775807 < b.size + c.size := by omega
  have z4 : ¬ 9223372036854775807 < b.size + c.size + 1 := by omega
  have z5 : ¬ 9223372036854775807 < a.size + i.size := by omega
  have z6 : ¬ 9223372036854775807 < a.size + i.size + c.size := by omega
  have HB := Lib.hid (Boxed.new (W := w) a.size b i)
  clear S gen h hk hsz hsz2 hsz3 n3 n4 n5
  go_enter Try.func6, Try.ntmps6
  go_wp2_with fail
  refine (C1.out _ HB).mono ?_
  rintro e w1 ⟨rfl, hx1⟩
  obtain ⟨c0, c1, c2⟩ := hx1.out.1
  go_wp2_with fail
  refine (CI.out _ hx1).mono ?_
  rintro e w2 ⟨rfl, hx2⟩
  clear c0 c1 c2
  go_wp2_with fail
  refine (C2.out _ hx2).mono ?_
  rintro e w3 ⟨rfl, hx3⟩
  go_wp2_with fail
  refine (P1.out _).mono ?_
  rintro e w4 ⟨rfl, rfl⟩
  go_wp2_with fail
  refine (C3.out _ hx3).mono ?_
  rintro e w5 ⟨rfl, hx5⟩
  go_wp2_with fail
  refine (C4.out _ hx5).mono ?_
  rintro e w6 ⟨rfl, hx6⟩
  go_wp2_with fail
  refine (C5.out _ hx6).mono ?_
  rintro e w7 ⟨rfl, hx7⟩
  go_wp2_with fail
  refine (W7.out _ hx7).mono ?_
  rintro e w8 ⟨rfl, hx8⟩
  go_wp2_with fail
  go_ret
  exact ⟨rfl, hx8.out.2⟩
theorem known_law (S : SaysP) (a b c i : ByteArray) (off : Int) (w : World) (ha : a.size ≤ 281474976710656) (hb : b.size ≤ 281474976710656) (hc : c.size ≤ 281474976710656) (hi : i.size ≤ 281474976710656) :
    Calls Try.prog 6 #[.string a, .string b, .string c, .string i, .int .i64 off] w fun e w' => e = .returned (.bool true) ∧ Below w.heap.size w w' := by
  by_cases h : a.size + b.size + c.size + i.size ≤ 2000
  · exact known_in S a b c i off w h
  · exact known_out S a b c i off w ha hb hc hi (by omega)
theorem applies_law (S : SaysP) (s d i : ByteArray) (k : Int) (w : World) (hs : s.size ≤ 281474976710656) (hd : d.size ≤ 281474976710656) (hi : i.size ≤ 281474976710656) (b1 : -9223372036854775808 ≤ k) (b2 : k ≤ 9223372036854775807) :
    Calls Try.prog 3 #[.string s, EdV k d i] w fun e w' => e = .returned (.bool true) ∧ Below w.heap.size w w' := by
  by_cases h : s.size + d.size + i.size ≤ 3000
  · exact applies_in S s d i k w h b1 b2
  · exact applies_out S s d i k w hs hd hi (by omega)
end Go.Proofs.Ytfdnlbeancdajaa
