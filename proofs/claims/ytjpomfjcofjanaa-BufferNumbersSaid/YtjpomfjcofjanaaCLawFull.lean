/- BufferFull out of what is asked of a buffer's calls. -/
import Derived.Test.YtjpomfjcofjanaaCLawPlaces
namespace Go.Proofs.Ytjpomfjcofjanaa
open Go Go.RowKit

variable {R : Nat → (Nat → Prop) → World → Addr → ByteArray → Nat → Nat → Nat → Prop}

theorem tmod_facts (v n : Int) (hn : 0 < n) : (v.tmod n < 0 → v % n = v.tmod n + n) ∧ (0 ≤ v.tmod n → v % n = v.tmod n) ∧ -n < v.tmod n ∧ v.tmod n < n := by
  have h1 := Int.emod_nonneg v (show n ≠ 0 by omega)
  have h2 := Int.emod_lt_of_pos v hn
  have ht : v.tmod n = if 0 ≤ v then v % n else if v % n = 0 then 0 else v % n - n := by
    rw [Int.tmod_eq_emod]
    have hd : (n ∣ v) ↔ v % n = 0 := Int.dvd_iff_emod_eq_zero
    by_cases h0 : 0 ≤ v
    · simp [h0]
    · by_cases hz : v % n = 0
      · simp [h0, hd, hz]
      · have : (n.natAbs : Int) = n := by omega
        simp [h0, hd, hz, this]
  by_cases h0 : 0 ≤ v
  · have h : v.tmod n = v % n := by rw [ht, if_pos h0]
    omega
  · by_cases hz : v % n = 0
    · have h : v.tmod n = 0 := by rw [ht, if_neg h0, if_pos hz]
      omega
    · have h : v.tmod n = v % n - n := by rw [ht, if_neg h0, if_neg hz]
      omega
theorem ret_bool {a b : Bool} (h : a = b) : Ending.returned (.bool a) = .returned (.bool b) := by rw [h]
theorem ret_int {k : IntKind} {a b : Int} (h : a = b) : Ending.returned (.int k a) = .returned (.int k b) := by rw [h]
set_option maxHeartbeats 400000 in
theorem place_any (v n : Int) (w : World) (hn : 0 < n) (hn2 : n ≤ 1000000000000000000) :
    Calls Try.prog 11 #[.int .i64 v, .int .i64 n] w fun e w' => e = .returned (.int .i64 (v % n)) ∧ w = w' := by
  obtain ⟨hneg, hpos, hb1, hb2⟩ := tmod_facts v n hn
  have hz0 : (n == 0) = false := by simp; omega
  have HN := Lib.hid hneg
  have HP := Lib.hid hpos
  clear hneg hpos
  go_enter Try.func11, Try.ntmps11
  go_wp2
  all_goals go_ret
  · exact ⟨ret_int (HN.out (by assumption)).symm, rfl⟩
  · exact ⟨ret_int (HP.out (by omega)).symm, rfl⟩

theorem bytes_ext {a b : ByteArray} (h : a.data.toList = b.data.toList) : a = b := by
  apply ByteArray.ext
  exact Array.toList_inj.1 h
theorem ext_list (s : ByteArray) (i j : Nat) : (s.extract i j).data.toList = (s.data.toList.drop i).take (j - i) := by
  rw [ByteArray.data_extract, Array.toList_extract]
theorem size_list (s : ByteArray) : s.data.toList.length = s.size := by simp
theorem app_list (s t : ByteArray) : (s ++ t).data.toList = s.data.toList ++ t.data.toList := by rw [ByteArray.data_append, Array.toList_append]
theorem del_ins (s t : ByteArray) (k : Nat) (h : k ≤ s.size) : delT (insT s k t) k t.size = s := by
  apply bytes_ext
  have hz := insT_size s t k h
  have h1 : (List.take k s.data.toList).length = k := by rw [List.length_take, size_list]; omega
  rw [delT, app_list, ext_list, ext_list, hz, insT, app_list, app_list, ext_list, ext_list, List.drop_zero, List.drop_zero, Nat.sub_zero, List.append_assoc]
  rw [List.take_append_of_le_length (by omega), List.take_take, Nat.min_self]
  have e : List.drop (k + t.size - k) t.data.toList = [] := List.drop_eq_nil_of_le (by rw [size_list]; omega)
  rw [List.drop_append, h1, List.drop_eq_nil_of_le (by omega), List.nil_append, List.drop_append, size_list, e, List.nil_append]
  rw [show k + t.size - k - t.size = 0 by omega, List.drop_zero, List.take_take, List.take_of_length_le (i := min _ _) (by rw [List.length_drop, size_list]; omega), List.take_append_drop]
theorem del_all (s : ByteArray) : delT s 0 s.size = ⟨#[]⟩ := by
  apply bytes_ext
  rw [delT, app_list, ext_list, ext_list]
  simp
/-! ### The law -/
theorem clamp_le {m : Nat} (h : m ≤ 65536) : clamp m = m := by unfold clamp; omega

set_option maxRecDepth 100000 in
set_option maxHeartbeats 4000000 in
theorem full_out (S : Says R) (most : Int) (s more : ByteArray) (at_ : Int) (w : World) (h : most % 400 < s.size ∨ 500 < more.size) (_hs : s.size ≤ 9223372036854775807) (hm : more.size ≤ 9223372036854775807) :
    Calls Try.prog 5 #[.int .i64 most, .string s, .string more, .int .i64 at_] w fun e w' => e = .returned (.bool true) ∧ Below w.heap.size w w' := by
  have W7 := Lib.hid (awake_any S)
  have P1 := Lib.hid (fun wx => place_any most 400 wx (by omega) (by omega))
  have m0 := Int.emod_nonneg most (show (400 : Int) ≠ 0 by omega)
  have m1 := Int.emod_lt_of_pos most (show (0 : Int) < 400 by omega)
  generalize most % 400 = M at *
  have hh : M < s.size ∨ ((s.size : Int) ≤ M ∧ (500 : Int) < more.size) := by omega
  clear S h _hs hm
  rcases hh with h1 | ⟨h1, h2⟩
  all_goals
    go_enter Try.func5, Try.ntmps5
    go_wp2_with fail
    refine (P1.out _).mono ?_
    rintro e w1 ⟨rfl, rfl⟩
    go_wp2_with fail
    refine (W7.out _).mono ?_
    rintro e w7 ⟨rfl, hb7⟩
    have HB := Lib.hid hb7
    clear hb7
    go_wp2_with fail
    go_ret
    exact ⟨rfl, HB.out⟩

set_option maxRecDepth 100000 in
set_option maxHeartbeats 4000000 in
theorem full_big (S : Says R) (most : Int) (s more : ByteArray) (at_ : Int) (w : World) (m : Nat) (hm : most % 400 = m) (h1 : s.size ≤ m) (h2 : more.size ≤ 500) (h3 : m < s.size + more.size) :
    Calls Try.prog 5 #[.int .i64 most, .string s, .string more, .int .i64 at_] w fun e w' => e = .returned (.bool true) ∧ Below w.heap.size w w' := by
  have m1 := Int.emod_lt_of_pos most (show (0 : Int) < 400 by omega)
  have W7 := Lib.hid (awake_any S)
  have P1 := Lib.hid (fun wx => place_any most 400 wx (by omega) (by omega))
  have P2 := Lib.hid (fun wx => place_any at_ ((s.size : Int) + 1) wx (by omega) (by omega))
  rw [hm] at P1 m1
  have C1 := Lib.hid (S.new w s m (by rw [clamp_le (by omega)]; omega) (by omega) (by omega))
  rw [clamp_le (by omega)] at C1
  have q0 := Int.emod_nonneg at_ (show (s.size : Int) + 1 ≠ 0 by omega)
  have q1 := Int.emod_lt_of_pos at_ (show (0 : Int) < (s.size : Int) + 1 by omega)
  generalize at_ % ((s.size : Int) + 1) = K at *
  have C2 := Lib.hid (show ∀ wx a, HoldsN (R 0) w a s m wx → Calls Try.prog 13 #[.pointer (some a), .int .i64 K, .string more] wx fun e w' => e = .returned (.int .i64 3) ∧ Hid (HoldsN (R 0) w a s m w') from fun wx a h => by
    have := HoldsN.insert S h K more (by omega) (by omega) (by omega)
    have hi : insE s m K more = 3 := by rw [insE, if_neg (by omega), if_pos (by omega)]
    rw [hi, insS, bump, hi, if_neg (by omega), if_neg (by omega)] at this
    exact this)
  have C3 := Lib.hid (show ∀ wx a, HoldsN (R 0) w a s m wx → Calls Try.prog 14 #[.pointer (some a)] wx fun e w' => e = .returned (.string s) ∧ Hid (HoldsN (R 0) w a s m w') from fun wx a h => HoldsN.text S h)
  have C4 := Lib.hid (show ∀ wx a, HoldsN (R 0) w a s m wx → Calls Try.prog 15 #[.pointer (some a), .int .i64 0, .int .i64 s.size] wx fun e w' => e = .returned (.int .i64 0) ∧ Hid (HoldsN (R 0) w a ⟨#[]⟩ m w') from fun wx a h => by
    have := HoldsN.delete S h 0 s.size (by omega) (by omega) (by omega) (by omega)
    have hi : isIn s 0 s.size := ⟨by omega, by omega, by omega, by omega⟩
    rw [delE, if_pos hi, delS, if_pos hi] at this
    have e : delT s (0 : Int).toNat ((s.size : Int)).toNat = ⟨#[]⟩ := del_all s
    rw [e] at this
    exact this)
  have C5 := Lib.hid (show ∀ wx a, HoldsN (R 0) w a ⟨#[]⟩ m wx → Calls Try.prog 16 #[.pointer (some a)] wx fun e w' => e = .returned (.int .i64 0) ∧ Hid (HoldsN (R 0) w a ⟨#[]⟩ m w') from fun wx a h => HoldsN.len S h)
  have C6 := Lib.hid (show ∀ wx a, HoldsN (R 0) w a ⟨#[]⟩ m wx → Calls Try.prog 13 #[.pointer (some a), .int .i64 0, .string more] wx fun e w' => e = .returned (.int .i64 (insE ⟨#[]⟩ m 0 more)) ∧ Hid (Below w.heap.size w w') from fun wx a h =>
    (HoldsN.insert S h 0 more (by omega) (by omega) (by omega)).mono fun e w' ⟨he, hh⟩ => ⟨he, Lib.hid hh.out.2⟩)
  have hE : insE ⟨#[]⟩ m 0 more = if m < more.size then 3 else 0 := by
    have z : (⟨#[]⟩ : ByteArray).size = 0 := rfl
    rw [insE, if_neg (by rw [z]; omega), z, Nat.zero_add]
  rw [hE] at C6
  have g1 : (s.size : Int) ≤ m := by omega
  have g2 : (more.size : Int) ≤ 500 := by omega
  have g3 : (m : Int) < (s.size : Int) + more.size := by omega
  have g0 : (0 : Int) ≤ m := by omega
  clear S hm h1 h2 h3 hE
  by_cases hc : m < more.size
  · have hc' : (m : Int) < more.size := by omega
    rw [if_pos hc] at C6
    clear hc
    go_enter Try.func5, Try.ntmps5
    go_wp2_with (first
      | (go_at_call_of 11 (Value.int .i64 400); refine (P1.out _).mono ?_; rintro e w1 ⟨rfl, rfl⟩)
      | (go_at_call 11; refine (P2.out _).mono ?_; rintro e w1 ⟨rfl, rfl⟩)
      | (go_at_call 8; refine C1.out.mono ?_; rintro e w1 ⟨a, F, p, h, rfl, hr1, ho1, hf1⟩; have H1 := Lib.hid (Holds.new (X := fun _ => False) (Below.refl w.heap.size w) hr1 ho1 hf1 (fun _ h => h.elim)); clear hr1 ho1 hf1)
      | (go_at_call_of 13 (Value.int .i64 K); refine (C2.out _ _ H1.out).mono ?_; rintro e w2 ⟨rfl, H2⟩)
      | (go_at_call 14; refine (C3.out _ _ H2.out).mono ?_; rintro e w3 ⟨rfl, H3⟩)
      | (go_at_call 15; refine (C4.out _ _ H3.out).mono ?_; rintro e w4 ⟨rfl, H4⟩)
      | (go_at_call 16; refine (C5.out _ _ H4.out).mono ?_; rintro e w5 ⟨rfl, H5⟩)
      | (go_at_call 13; refine (C6.out _ _ H5.out).mono ?_; rintro e w6 ⟨rfl, H6⟩)
      | (go_at_call 7; refine (W7.out _).mono ?_; rintro e w7 ⟨rfl, hb7⟩; have HB := Lib.hid (H6.out.trans (hb7.mono H6.out.size)); clear hb7))
    go_ret
    exact ⟨ret_bool (by simp; omega), HB.out⟩
  · have hc' : (more.size : Int) ≤ m := by omega
    rw [if_neg hc] at C6
    clear hc
    go_enter Try.func5, Try.ntmps5
    go_wp2_with (first
      | (go_at_call_of 11 (Value.int .i64 400); refine (P1.out _).mono ?_; rintro e w1 ⟨rfl, rfl⟩)
      | (go_at_call 11; refine (P2.out _).mono ?_; rintro e w1 ⟨rfl, rfl⟩)
      | (go_at_call 8; refine C1.out.mono ?_; rintro e w1 ⟨a, F, p, h, rfl, hr1, ho1, hf1⟩; have H1 := Lib.hid (Holds.new (X := fun _ => False) (Below.refl w.heap.size w) hr1 ho1 hf1 (fun _ h => h.elim)); clear hr1 ho1 hf1)
      | (go_at_call_of 13 (Value.int .i64 K); refine (C2.out _ _ H1.out).mono ?_; rintro e w2 ⟨rfl, H2⟩)
      | (go_at_call 14; refine (C3.out _ _ H2.out).mono ?_; rintro e w3 ⟨rfl, H3⟩)
      | (go_at_call 15; refine (C4.out _ _ H3.out).mono ?_; rintro e w4 ⟨rfl, H4⟩)
      | (go_at_call 16; refine (C5.out _ _ H4.out).mono ?_; rintro e w5 ⟨rfl, H5⟩)
      | (go_at_call 13; refine (C6.out _ _ H5.out).mono ?_; rintro e w6 ⟨rfl, H6⟩)
      | (go_at_call 7; refine (W7.out _).mono ?_; rintro e w7 ⟨rfl, hb7⟩; have HB := Lib.hid (H6.out.trans (hb7.mono H6.out.size)); clear hb7))
    go_ret
    exact ⟨rfl, HB.out⟩

set_option maxRecDepth 100000 in
set_option maxHeartbeats 4000000 in
theorem full_fits (S : Says R) (most : Int) (s more : ByteArray) (at_ : Int) (w : World) (m k : Nat) (hm : most % 400 = m) (hk : at_ % ((s.size : Int) + 1) = k) (h1 : s.size ≤ m) (h2 : more.size ≤ 500) (h3 : s.size + more.size ≤ m) :
    Calls Try.prog 5 #[.int .i64 most, .string s, .string more, .int .i64 at_] w fun e w' => e = .returned (.bool true) ∧ Below w.heap.size w w' := by
  have m1 := Int.emod_lt_of_pos most (show (0 : Int) < 400 by omega)
  have W7 := Lib.hid (awake_any S)
  have P1 := Lib.hid (fun wx => place_any most 400 wx (by omega) (by omega))
  have P2 := Lib.hid (fun wx => place_any at_ ((s.size : Int) + 1) wx (by omega) (by omega))
  rw [hm] at P1 m1
  have C1 := Lib.hid (S.new w s m (by rw [clamp_le (by omega)]; omega) (by omega) (by omega))
  rw [clamp_le (by omega)] at C1
  have q1 := Int.emod_lt_of_pos at_ (show (0 : Int) < (s.size : Int) + 1 by omega)
  rw [hk] at P2 q1
  have C2 := Lib.hid (show ∀ wx a, HoldsN (R 0) w a s m wx → Calls Try.prog 13 #[.pointer (some a), .int .i64 k, .string more] wx fun e w' => e = .returned (.int .i64 0) ∧ Hid (HoldsN (R (0 + more.size)) w a (s.extract 0 k ++ more ++ s.extract k s.size) m w') from fun wx a h => by
    have := HoldsN.insert S h k more (by omega) (by omega) (by omega)
    have hi : insE s m k more = 0 := by rw [insE, if_neg (by omega), if_neg (by omega)]
    rw [hi, insS, bump, hi, if_pos rfl, if_pos rfl] at this
    exact this)
  have C3 := Lib.hid (show ∀ u wx a t, HoldsN (R u) w a t m wx → Calls Try.prog 14 #[.pointer (some a)] wx fun e w' => e = .returned (.string t) ∧ Hid (HoldsN (R u) w a t m w') from fun _ wx a t h => HoldsN.text S h)
  have C4 := Lib.hid (show ∀ wx a, HoldsN (R (0 + more.size)) w a (s.extract 0 k ++ more ++ s.extract k s.size) m wx → Calls Try.prog 15 #[.pointer (some a), .int .i64 k, .int .i64 more.size] wx fun e w' => e = .returned (.int .i64 0) ∧ Hid (HoldsN (R (0 + more.size)) w a s m w') from fun wx a h => by
    have hz := insT_size s more k (by omega)
    have := HoldsN.delete S h k more.size (by omega) (by omega) (by omega) (by omega)
    have hi : isIn (s.extract 0 k ++ more ++ s.extract k s.size) k more.size := by
      have hz' : (s.extract 0 k ++ more ++ s.extract k s.size).size = s.size + more.size := hz
      exact ⟨by omega, by omega, by rw [hz']; omega, by rw [hz']; omega⟩
    rw [delE, if_pos hi, delS, if_pos hi] at this
    have e : delT (s.extract 0 k ++ more ++ s.extract k s.size) ((k : Int)).toNat ((more.size : Int)).toNat = s := del_ins s more k (by omega)
    rw [e] at this
    exact this)
  have HS := Lib.hid S
  have g1 : (s.size : Int) ≤ m := by omega
  have g2 : (more.size : Int) ≤ 500 := by omega
  have g3 : (s.size : Int) + more.size ≤ m := by omega
  have g0 : (0 : Int) ≤ m := by omega
  have k0 : (0 : Int) ≤ k := by omega
  have k1 : (k : Int) ≤ s.size := by omega
  have hN1 : ¬ 9223372036854775807 < min k s.size + more.size := by omega
  have hN2 : ¬ 9223372036854775807 < min k s.size + more.size + (s.size - k) := by omega
  clear S hm hk h1 h2 h3
  go_enter Try.func5, Try.ntmps5
  go_wp2_with (first
    | (go_at_call_of 11 (Value.int .i64 400); refine (P1.out _).mono ?_; rintro e w1 ⟨rfl, rfl⟩)
    | (go_at_call 11; refine (P2.out _).mono ?_; rintro e w1 ⟨rfl, rfl⟩)
    | (go_at_call 8; refine C1.out.mono ?_; rintro e w1 ⟨a, F, p, h, rfl, hr1, ho1, hf1⟩; have H1 := Lib.hid (Holds.new (X := fun _ => False) (Below.refl w.heap.size w) hr1 ho1 hf1 (fun _ h => h.elim)); clear hr1 ho1 hf1)
    | (go_at_call 13; refine (C2.out _ _ H1.out).mono ?_; rintro e w2 ⟨rfl, H2⟩))
  have H2d := Lib.hid (HoldsN.drew HS.out H2.out)
  go_region_held3 (fun wx => True)
    (trivial)
    (first
      | (go_at_call 14; first | (refine (C3.out _ _ _ _ H4.out).mono ?_; rintro e w5 ⟨rfl, H5⟩) | (refine (C3.out _ _ _ _ H2d.out).mono ?_; rintro e w3 ⟨rfl, H3⟩))
      | (go_at_call 15; refine (C4.out _ _ H3.out).mono ?_; rintro e w4 ⟨rfl, H4⟩)
      | (go_at_call 7; refine (W7.out _).mono ?_; rintro e w7 ⟨rfl, hb7⟩; have HB := Lib.hid (H5.out.2.trans (hb7.mono H5.out.2.size)); clear hb7))
  go_wp2_with fail
  go_ret
  exact ⟨rfl, HB.out⟩
theorem full_law (S : Says R) (most : Int) (s more : ByteArray) (at_ : Int) (w : World) (hs : s.size ≤ 9223372036854775807) (hm : more.size ≤ 9223372036854775807) :
    Calls Try.prog 5 #[.int .i64 most, .string s, .string more, .int .i64 at_] w fun e w' => e = .returned (.bool true) ∧ Below w.heap.size w w' := by
  have m0 := Int.emod_nonneg most (show (400 : Int) ≠ 0 by omega)
  have q0 := Int.emod_nonneg at_ (show (s.size : Int) + 1 ≠ 0 by omega)
  obtain ⟨m, hM⟩ : ∃ m : Nat, most % 400 = m := ⟨(most % 400).toNat, by omega⟩
  obtain ⟨k, hK⟩ : ∃ k : Nat, at_ % ((s.size : Int) + 1) = k := ⟨(at_ % ((s.size : Int) + 1)).toNat, by omega⟩
  by_cases h : m < s.size ∨ 500 < more.size
  · exact full_out S most s more at_ w (by omega) hs hm
  · by_cases h3 : m < s.size + more.size
    · exact full_big S most s more at_ w m hM (by omega) (by omega) h3
    · exact full_fits S most s more at_ w m k hM hK (by omega) (by omega) (by omega)
end Go.Proofs.Ytjpomfjcofjanaa
