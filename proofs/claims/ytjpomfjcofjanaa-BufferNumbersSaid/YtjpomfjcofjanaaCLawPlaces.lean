/- BufferPlaces out of what is asked of a buffer's calls. -/
import Derived.Test.YtjpomfjcofjanaaCLaws
import Derived.Deep.RegionHeld3
import Derived.Laws.DeepStrings4
namespace Go.Proofs.Ytjpomfjcofjanaa
open Go Go.RowKit

variable {R : Nat → (Nat → Prop) → World → Addr → ByteArray → Nat → Nat → Nat → Prop}

theorem HoldsN.drew {u : Nat} (S : Says R) {w wr : World} {a : Addr} {s : ByteArray} {m : Nat} (h : HoldsN (R u) w a s m wr) : HoldsN (R u) w a s m wr.drew := by
  obtain ⟨⟨F, p, hh, hr, hp, hF⟩, hb⟩ := h
  exact ⟨⟨F, p, hh, S.frame F wr _ a _ _ p hh hr ⟨Nat.le_refl _, fun _ _ _ => rfl⟩, hp, hF⟩, below_drewN hb 1⟩
theorem clamp_1000 : clamp 1000 = 1000 := by decide

set_option maxRecDepth 100000 in
set_option maxHeartbeats 4000000 in
theorem places_in (S : Says R) (s : ByteArray) (k n : Nat) (w : World) (hs : s.size ≤ 300) (hkn : k + n ≤ s.size) :
    Calls Try.prog 6 #[.string s, .int .i64 k, .int .i64 n] w fun e w' => e = .returned (.bool true) ∧ Below w.heap.size w w' := by
  have W7 := Lib.hid (awake_any S)
  have hin : isIn s k n := ⟨by omega, by omega, by omega, by omega⟩
  have C1 := Lib.hid (S.new w s 1000 (by rw [clamp_1000]; omega) (by omega) (by omega))
  rw [clamp_1000] at C1
  have C2 := Lib.hid (show ∀ wx a, HoldsN (R 0) w a s 1000 wx → Calls Try.prog 17 #[.pointer (some a), .int .i64 k, .int .i64 n] wx fun e w' => (∃ t, e = .returned (.tuple #[.string t, .int .i64 0])) ∧ Hid (HoldsN (R 0) w a s 1000 w') from fun wx a h =>
    (HoldsN.slice S h k n (by omega) (by omega) (by omega) (by omega)).mono fun e w' ⟨he, hh⟩ => ⟨⟨cutS s k n, by rw [he, delE, if_pos hin]⟩, hh⟩)
  have C3 := Lib.hid (show ∀ wx a, HoldsN (R 0) w a s 1000 wx → Calls Try.prog 15 #[.pointer (some a), .int .i64 k, .int .i64 n] wx fun e w' => e = .returned (.int .i64 0) ∧ Hid (HoldsN (R 0) w a (s.extract 0 k ++ s.extract (k + n) s.size) 1000 w') from fun wx a h => by
    have := HoldsN.delete S h k n (by omega) (by omega) (by omega) (by omega)
    rw [delE, if_pos hin, delS, if_pos hin] at this
    exact this)
  have C4 := Lib.hid (show ∀ wx a t, HoldsN (R 0) w a t 1000 wx → Calls Try.prog 14 #[.pointer (some a)] wx fun e w' => e = .returned (.string t) ∧ Hid (HoldsN (R 0) w a t 1000 w') from fun wx a t h => HoldsN.text S h)
  have HS := Lib.hid S
  have k0 : (0 : Int) ≤ k := by omega
  have n0 : (0 : Int) ≤ n := by omega
  have k1 : (k : Int) ≤ s.size := by omega
  have k2 : (n : Int) ≤ (s.size : Int) - k := by omega
  have k3 : (k : Int) + n ≤ s.size := by omega
  have s3 : (s.size : Int) ≤ 300 := by omega
  have k4 : (0 : Int) ≤ (k : Int) + n := by omega
  have hw : IntKind.i64.wrap ((k : Int) + n) = (k : Int) + n := IntWalk.i64_in _ (by omega)
  have hN : ¬ 9223372036854775807 < min k s.size + (s.size - ((k : Int) + n).toNat) := by omega
  clear S hin hs hkn
  go_enter Try.func6, Try.ntmps6
  go_wp2_with fail
  refine C1.out.mono ?_
  rintro e w1 ⟨a, F, p, h, rfl, hr1, ho1, hf1⟩
  have H1 := Lib.hid (Holds.new (X := fun _ => False) (Below.refl w.heap.size w) hr1 ho1 hf1 (fun _ h => h.elim))
  clear hr1 ho1 hf1
  go_wp2_with fail
  refine (C2.out _ _ H1.out).mono ?_
  rintro e w2 ⟨⟨t, rfl⟩, H2⟩
  go_wp2_with fail
  have H2d := Lib.hid (HoldsN.drew HS.out H2.out)
  go_region_held3 (fun wx => True)
    (trivial)
    (first
      | (go_at_call 15; refine (C3.out _ _ H2d.out).mono ?_; rintro e w3 ⟨rfl, H3⟩)
      | (go_at_call 14; refine (C4.out _ _ _ H3.out).mono ?_; rintro e w4 ⟨rfl, H4⟩)
      | (go_at_call 7; refine (W7.out _).mono ?_; rintro e w5 ⟨rfl, hb5⟩; have HB5 := Lib.hid (H4.out.2.trans (hb5.mono H4.out.2.size)); clear hb5))
  go_wp2_with fail
  go_ret
  exact ⟨rfl, HB5.out⟩

set_option maxRecDepth 100000 in
set_option maxHeartbeats 4000000 in
theorem places_a (S : Says R) (s : ByteArray) (k n : Int) (w : World) (hs : s.size ≤ 300) (h1 : k < 0) (b1 : -9223372036854775808 ≤ k) (b2 : k ≤ 9223372036854775807) (b3 : -9223372036854775808 ≤ n) (b4 : n ≤ 9223372036854775807) :
    Calls Try.prog 6 #[.string s, .int .i64 k, .int .i64 n] w fun e w' => e = .returned (.bool true) ∧ Below w.heap.size w w' := by
  have W7 := Lib.hid (awake_any S)
  have hin : ¬ isIn s k n := fun ⟨h1, h2, h3, h4⟩ => by omega
  have C1 := Lib.hid (S.new w s 1000 (by rw [clamp_1000]; omega) (by omega) (by omega))
  rw [clamp_1000] at C1
  have C2 := Lib.hid (show ∀ wx a, HoldsN (R 0) w a s 1000 wx → Calls Try.prog 17 #[.pointer (some a), .int .i64 k, .int .i64 n] wx fun e w' => (∃ t, e = .returned (.tuple #[.string t, .int .i64 2])) ∧ Hid (HoldsN (R 0) w a s 1000 w') from fun wx a h =>
    (HoldsN.slice S h k n b1 b2 b3 b4).mono fun e w' ⟨he, hh⟩ => ⟨⟨cutS s k n, by rw [he, delE, if_neg hin]⟩, hh⟩)
  have C3 := Lib.hid (show ∀ wx a, HoldsN (R 0) w a s 1000 wx → Calls Try.prog 15 #[.pointer (some a), .int .i64 k, .int .i64 n] wx fun e w' => e = .returned (.int .i64 2) ∧ Hid (HoldsN (R 0) w a s 1000 w') from fun wx a h => by
    have := HoldsN.delete S h k n b1 b2 b3 b4
    rw [delE, if_neg hin, delS, if_neg hin] at this
    exact this)
  have C4 := Lib.hid (show ∀ wx a, HoldsN (R 0) w a s 1000 wx → Calls Try.prog 14 #[.pointer (some a)] wx fun e w' => e = .returned (.string s) ∧ Hid (HoldsN (R 0) w a s 1000 w') from fun wx a h => HoldsN.text S h)
  have C5 := Lib.hid (show ∀ wx a, HoldsN (R 0) w a s 1000 wx → Calls Try.prog 13 #[.pointer (some a), .int .i64 k, .string ⟨#[120]⟩] wx fun e w' => e = .returned (.int .i64 2) ∧ Hid (HoldsN (R 0) w a s 1000 w') from fun wx a h => by
    have := HoldsN.insert S h k ⟨#[120]⟩ (by decide) b1 b2
    have hi : insE s 1000 k ⟨#[120]⟩ = 2 := by rw [insE, if_pos (by omega)]
    rw [hi, insS, bump, hi, if_neg (by omega), if_neg (by omega)] at this
    exact this)
  clear S hin b1 b2 b3 b4
  have s3 : (s.size : Int) ≤ 300 := by omega
  clear hs
  go_enter Try.func6, Try.ntmps6
  go_wp2_with fail
  refine C1.out.mono ?_
  rintro e w1 ⟨a, F, p, h, rfl, hr1, ho1, hf1⟩
  have H1 := Lib.hid (Holds.new (X := fun _ => False) (Below.refl w.heap.size w) hr1 ho1 hf1 (fun _ h => h.elim))
  clear hr1 ho1 hf1
  go_wp2_with fail
  refine (C2.out _ _ H1.out).mono ?_
  rintro e w2 ⟨⟨t, rfl⟩, H2⟩
  go_wp2_with fail
  refine (C3.out _ _ H2.out).mono ?_
  rintro e w3 ⟨rfl, H3⟩
  go_wp2_with fail
  refine (C4.out _ _ H3.out).mono ?_
  rintro e w4 ⟨rfl, H4⟩
  go_wp2_with fail
  refine (C5.out _ _ H4.out).mono ?_
  rintro e w5 ⟨rfl, H5⟩
  go_wp2_with fail
  refine (C4.out _ _ H5.out).mono ?_
  rintro e w6 ⟨rfl, H6⟩
  go_wp2_with fail
  refine (W7.out _).mono ?_
  rintro e w7 ⟨rfl, hb7⟩
  have HB := Lib.hid (H6.out.2.trans (hb7.mono H6.out.2.size))
  clear hb7
  go_wp2_with fail
  go_ret
  exact ⟨rfl, HB.out⟩

set_option maxRecDepth 100000 in
set_option maxHeartbeats 4000000 in
theorem places_b (S : Says R) (s : ByteArray) (k n : Int) (w : World) (hs : s.size ≤ 300) (h0 : 0 ≤ k) (h1 : (s.size : Int) < k) (h2 : n < 0) (b1 : -9223372036854775808 ≤ k) (b2 : k ≤ 9223372036854775807) (b3 : -9223372036854775808 ≤ n) (b4 : n ≤ 9223372036854775807) :
    Calls Try.prog 6 #[.string s, .int .i64 k, .int .i64 n] w fun e w' => e = .returned (.bool true) ∧ Below w.heap.size w w' := by
  have W7 := Lib.hid (awake_any S)
  have hin : ¬ isIn s k n := fun ⟨h1, h2, h3, h4⟩ => by omega
  have C1 := Lib.hid (S.new w s 1000 (by rw [clamp_1000]; omega) (by omega) (by omega))
  rw [clamp_1000] at C1
  have C2 := Lib.hid (show ∀ wx a, HoldsN (R 0) w a s 1000 wx → Calls Try.prog 17 #[.pointer (some a), .int .i64 k, .int .i64 n] wx fun e w' => (∃ t, e = .returned (.tuple #[.string t, .int .i64 2])) ∧ Hid (HoldsN (R 0) w a s 1000 w') from fun wx a h =>
    (HoldsN.slice S h k n b1 b2 b3 b4).mono fun e w' ⟨he, hh⟩ => ⟨⟨cutS s k n, by rw [he, delE, if_neg hin]⟩, hh⟩)
  have C3 := Lib.hid (show ∀ wx a, HoldsN (R 0) w a s 1000 wx → Calls Try.prog 15 #[.pointer (some a), .int .i64 k, .int .i64 n] wx fun e w' => e = .returned (.int .i64 2) ∧ Hid (HoldsN (R 0) w a s 1000 w') from fun wx a h => by
    have := HoldsN.delete S h k n b1 b2 b3 b4
    rw [delE, if_neg hin, delS, if_neg hin] at this
    exact this)
  have C4 := Lib.hid (show ∀ wx a, HoldsN (R 0) w a s 1000 wx → Calls Try.prog 14 #[.pointer (some a)] wx fun e w' => e = .returned (.string s) ∧ Hid (HoldsN (R 0) w a s 1000 w') from fun wx a h => HoldsN.text S h)
  have C5 := Lib.hid (show ∀ wx a, HoldsN (R 0) w a s 1000 wx → Calls Try.prog 13 #[.pointer (some a), .int .i64 k, .string ⟨#[120]⟩] wx fun e w' => e = .returned (.int .i64 2) ∧ Hid (HoldsN (R 0) w a s 1000 w') from fun wx a h => by
    have := HoldsN.insert S h k ⟨#[120]⟩ (by decide) b1 b2
    have hi : insE s 1000 k ⟨#[120]⟩ = 2 := by rw [insE, if_pos (by omega)]
    rw [hi, insS, bump, hi, if_neg (by omega), if_neg (by omega)] at this
    exact this)
  clear S hin b1 b2 b3 b4
  have s3 : (s.size : Int) ≤ 300 := by omega
  clear hs
  go_enter Try.func6, Try.ntmps6
  go_wp2_with fail
  refine C1.out.mono ?_
  rintro e w1 ⟨a, F, p, h, rfl, hr1, ho1, hf1⟩
  have H1 := Lib.hid (Holds.new (X := fun _ => False) (Below.refl w.heap.size w) hr1 ho1 hf1 (fun _ h => h.elim))
  clear hr1 ho1 hf1
  go_wp2_with fail
  refine (C2.out _ _ H1.out).mono ?_
  rintro e w2 ⟨⟨t, rfl⟩, H2⟩
  go_wp2_with fail
  refine (C3.out _ _ H2.out).mono ?_
  rintro e w3 ⟨rfl, H3⟩
  go_wp2_with fail
  refine (C4.out _ _ H3.out).mono ?_
  rintro e w4 ⟨rfl, H4⟩
  go_wp2_with fail
  refine (C5.out _ _ H4.out).mono ?_
  rintro e w5 ⟨rfl, H5⟩
  go_wp2_with fail
  refine (C4.out _ _ H5.out).mono ?_
  rintro e w6 ⟨rfl, H6⟩
  go_wp2_with fail
  refine (W7.out _).mono ?_
  rintro e w7 ⟨rfl, hb7⟩
  have HB := Lib.hid (H6.out.2.trans (hb7.mono H6.out.2.size))
  clear hb7
  go_wp2_with fail
  go_ret
  exact ⟨rfl, HB.out⟩

set_option maxRecDepth 100000 in
set_option maxHeartbeats 4000000 in
theorem places_c (S : Says R) (s : ByteArray) (k n : Int) (w : World) (hs : s.size ≤ 300) (h0 : 0 ≤ k) (h1 : (s.size : Int) < k) (h2 : 0 ≤ n) (b1 : -9223372036854775808 ≤ k) (b2 : k ≤ 9223372036854775807) (b3 : -9223372036854775808 ≤ n) (b4 : n ≤ 9223372036854775807) :
    Calls Try.prog 6 #[.string s, .int .i64 k, .int .i64 n] w fun e w' => e = .returned (.bool true) ∧ Below w.heap.size w w' := by
  have W7 := Lib.hid (awake_any S)
  have hin : ¬ isIn s k n := fun ⟨h1, h2, h3, h4⟩ => by omega
  have C1 := Lib.hid (S.new w s 1000 (by rw [clamp_1000]; omega) (by omega) (by omega))
  rw [clamp_1000] at C1
  have C2 := Lib.hid (show ∀ wx a, HoldsN (R 0) w a s 1000 wx → Calls Try.prog 17 #[.pointer (some a), .int .i64 k, .int .i64 n] wx fun e w' => (∃ t, e = .returned (.tuple #[.string t, .int .i64 2])) ∧ Hid (HoldsN (R 0) w a s 1000 w') from fun wx a h =>
    (HoldsN.slice S h k n b1 b2 b3 b4).mono fun e w' ⟨he, hh⟩ => ⟨⟨cutS s k n, by rw [he, delE, if_neg hin]⟩, hh⟩)
  have C3 := Lib.hid (show ∀ wx a, HoldsN (R 0) w a s 1000 wx → Calls Try.prog 15 #[.pointer (some a), .int .i64 k, .int .i64 n] wx fun e w' => e = .returned (.int .i64 2) ∧ Hid (HoldsN (R 0) w a s 1000 w') from fun wx a h => by
    have := HoldsN.delete S h k n b1 b2 b3 b4
    rw [delE, if_neg hin, delS, if_neg hin] at this
    exact this)
  have C4 := Lib.hid (show ∀ wx a, HoldsN (R 0) w a s 1000 wx → Calls Try.prog 14 #[.pointer (some a)] wx fun e w' => e = .returned (.string s) ∧ Hid (HoldsN (R 0) w a s 1000 w') from fun wx a h => HoldsN.text S h)
  have C5 := Lib.hid (show ∀ wx a, HoldsN (R 0) w a s 1000 wx → Calls Try.prog 13 #[.pointer (some a), .int .i64 k, .string ⟨#[120]⟩] wx fun e w' => e = .returned (.int .i64 2) ∧ Hid (HoldsN (R 0) w a s 1000 w') from fun wx a h => by
    have := HoldsN.insert S h k ⟨#[120]⟩ (by decide) b1 b2
    have hi : insE s 1000 k ⟨#[120]⟩ = 2 := by rw [insE, if_pos (by omega)]
    rw [hi, insS, bump, hi, if_neg (by omega), if_neg (by omega)] at this
    exact this)
  clear S hin b1 b2 b3 b4
  have s3 : (s.size : Int) ≤ 300 := by omega
  clear hs
  go_enter Try.func6, Try.ntmps6
  go_wp2_with fail
  refine C1.out.mono ?_
  rintro e w1 ⟨a, F, p, h, rfl, hr1, ho1, hf1⟩
  have H1 := Lib.hid (Holds.new (X := fun _ => False) (Below.refl w.heap.size w) hr1 ho1 hf1 (fun _ h => h.elim))
  clear hr1 ho1 hf1
  go_wp2_with fail
  refine (C2.out _ _ H1.out).mono ?_
  rintro e w2 ⟨⟨t, rfl⟩, H2⟩
  go_wp2_with fail
  refine (C3.out _ _ H2.out).mono ?_
  rintro e w3 ⟨rfl, H3⟩
  go_wp2_with fail
  refine (C4.out _ _ H3.out).mono ?_
  rintro e w4 ⟨rfl, H4⟩
  go_wp2_with fail
  refine (C5.out _ _ H4.out).mono ?_
  rintro e w5 ⟨rfl, H5⟩
  go_wp2_with fail
  refine (C4.out _ _ H5.out).mono ?_
  rintro e w6 ⟨rfl, H6⟩
  go_wp2_with fail
  refine (W7.out _).mono ?_
  rintro e w7 ⟨rfl, hb7⟩
  have HB := Lib.hid (H6.out.2.trans (hb7.mono H6.out.2.size))
  clear hb7
  go_wp2_with fail
  go_ret
  exact ⟨rfl, HB.out⟩

set_option maxRecDepth 100000 in
set_option maxHeartbeats 4000000 in
theorem places_d (S : Says R) (s : ByteArray) (k n : Int) (w : World) (hs : s.size ≤ 300) (h0 : 0 ≤ k) (h1 : k ≤ s.size) (h2 : n < 0) (b1 : -9223372036854775808 ≤ k) (b2 : k ≤ 9223372036854775807) (b3 : -9223372036854775808 ≤ n) (b4 : n ≤ 9223372036854775807) :
    Calls Try.prog 6 #[.string s, .int .i64 k, .int .i64 n] w fun e w' => e = .returned (.bool true) ∧ Below w.heap.size w w' := by
  have W7 := Lib.hid (awake_any S)
  have hin : ¬ isIn s k n := fun ⟨h1, h2, h3, h4⟩ => by omega
  have C1 := Lib.hid (S.new w s 1000 (by rw [clamp_1000]; omega) (by omega) (by omega))
  rw [clamp_1000] at C1
  have C2 := Lib.hid (show ∀ wx a, HoldsN (R 0) w a s 1000 wx → Calls Try.prog 17 #[.pointer (some a), .int .i64 k, .int .i64 n] wx fun e w' => (∃ t, e = .returned (.tuple #[.string t, .int .i64 2])) ∧ Hid (HoldsN (R 0) w a s 1000 w') from fun wx a h =>
    (HoldsN.slice S h k n b1 b2 b3 b4).mono fun e w' ⟨he, hh⟩ => ⟨⟨cutS s k n, by rw [he, delE, if_neg hin]⟩, hh⟩)
  have C3 := Lib.hid (show ∀ wx a, HoldsN (R 0) w a s 1000 wx → Calls Try.prog 15 #[.pointer (some a), .int .i64 k, .int .i64 n] wx fun e w' => e = .returned (.int .i64 2) ∧ Hid (HoldsN (R 0) w a s 1000 w') from fun wx a h => by
    have := HoldsN.delete S h k n b1 b2 b3 b4
    rw [delE, if_neg hin, delS, if_neg hin] at this
    exact this)
  have C4 := Lib.hid (show ∀ wx a, HoldsN (R 0) w a s 1000 wx → Calls Try.prog 14 #[.pointer (some a)] wx fun e w' => e = .returned (.string s) ∧ Hid (HoldsN (R 0) w a s 1000 w') from fun wx a h => HoldsN.text S h)
  clear S hin b1 b2 b3 b4
  have s3 : (s.size : Int) ≤ 300 := by omega
  clear hs
  go_enter Try.func6, Try.ntmps6
  go_wp2_with fail
  refine C1.out.mono ?_
  rintro e w1 ⟨a, F, p, h, rfl, hr1, ho1, hf1⟩
  have H1 := Lib.hid (Holds.new (X := fun _ => False) (Below.refl w.heap.size w) hr1 ho1 hf1 (fun _ h => h.elim))
  clear hr1 ho1 hf1
  go_wp2_with fail
  refine (C2.out _ _ H1.out).mono ?_
  rintro e w2 ⟨⟨t, rfl⟩, H2⟩
  go_wp2_with fail
  refine (C3.out _ _ H2.out).mono ?_
  rintro e w3 ⟨rfl, H3⟩
  go_wp2_with fail
  refine (C4.out _ _ H3.out).mono ?_
  rintro e w4 ⟨rfl, H4⟩
  go_wp2_with fail
  refine (W7.out _).mono ?_
  rintro e w7 ⟨rfl, hb7⟩
  have HB := Lib.hid (H4.out.2.trans (hb7.mono H4.out.2.size))
  clear hb7
  go_wp2_with fail
  go_ret
  exact ⟨rfl, HB.out⟩

set_option maxRecDepth 100000 in
set_option maxHeartbeats 4000000 in
theorem places_e (S : Says R) (s : ByteArray) (k n : Int) (w : World) (hs : s.size ≤ 300) (h0 : 0 ≤ k) (h1 : k ≤ s.size) (h2 : 0 ≤ n) (h3 : (s.size : Int) - k < n) (b1 : -9223372036854775808 ≤ k) (b2 : k ≤ 9223372036854775807) (b3 : -9223372036854775808 ≤ n) (b4 : n ≤ 9223372036854775807) :
    Calls Try.prog 6 #[.string s, .int .i64 k, .int .i64 n] w fun e w' => e = .returned (.bool true) ∧ Below w.heap.size w w' := by
  have W7 := Lib.hid (awake_any S)
  have hin : ¬ isIn s k n := fun ⟨h1, h2, h3, h4⟩ => by omega
  have C1 := Lib.hid (S.new w s 1000 (by rw [clamp_1000]; omega) (by omega) (by omega))
  rw [clamp_1000] at C1
  have C2 := Lib.hid (show ∀ wx a, HoldsN (R 0) w a s 1000 wx → Calls Try.prog 17 #[.pointer (some a), .int .i64 k, .int .i64 n] wx fun e w' => (∃ t, e = .returned (.tuple #[.string t, .int .i64 2])) ∧ Hid (HoldsN (R 0) w a s 1000 w') from fun wx a h =>
    (HoldsN.slice S h k n b1 b2 b3 b4).mono fun e w' ⟨he, hh⟩ => ⟨⟨cutS s k n, by rw [he, delE, if_neg hin]⟩, hh⟩)
  have C3 := Lib.hid (show ∀ wx a, HoldsN (R 0) w a s 1000 wx → Calls Try.prog 15 #[.pointer (some a), .int .i64 k, .int .i64 n] wx fun e w' => e = .returned (.int .i64 2) ∧ Hid (HoldsN (R 0) w a s 1000 w') from fun wx a h => by
    have := HoldsN.delete S h k n b1 b2 b3 b4
    rw [delE, if_neg hin, delS, if_neg hin] at this
    exact this)
  have C4 := Lib.hid (show ∀ wx a, HoldsN (R 0) w a s 1000 wx → Calls Try.prog 14 #[.pointer (some a)] wx fun e w' => e = .returned (.string s) ∧ Hid (HoldsN (R 0) w a s 1000 w') from fun wx a h => HoldsN.text S h)
  clear S hin b1 b2 b3 b4
  have s3 : (s.size : Int) ≤ 300 := by omega
  clear hs
  have hd : decide (n ≤ (s.size : Int) - k) = false := by simpa using h3
  go_enter Try.func6, Try.ntmps6
  go_wp2_with fail
  refine C1.out.mono ?_
  rintro e w1 ⟨a, F, p, h, rfl, hr1, ho1, hf1⟩
  have H1 := Lib.hid (Holds.new (X := fun _ => False) (Below.refl w.heap.size w) hr1 ho1 hf1 (fun _ h => h.elim))
  clear hr1 ho1 hf1
  go_wp2_with fail
  refine (C2.out _ _ H1.out).mono ?_
  rintro e w2 ⟨⟨t, rfl⟩, H2⟩
  go_wp2_with fail
  refine (C3.out _ _ H2.out).mono ?_
  rintro e w3 ⟨rfl, H3⟩
  go_wp2_with fail
  refine (C4.out _ _ H3.out).mono ?_
  rintro e w4 ⟨rfl, H4⟩
  go_wp2_with fail
  refine (W7.out _).mono ?_
  rintro e w7 ⟨rfl, hb7⟩
  have HB := Lib.hid (H4.out.2.trans (hb7.mono H4.out.2.size))
  clear hb7
  go_wp2_with fail
  go_ret
  exact ⟨rfl, HB.out⟩

set_option maxRecDepth 100000 in
theorem places_big (S : Says R) (s : ByteArray) (k n : Int) (w : World) (hs : 300 < s.size) :
    Calls Try.prog 6 #[.string s, .int .i64 k, .int .i64 n] w fun e w' => e = .returned (.bool true) ∧ Below w.heap.size w w' := by
  have W7 := Lib.hid (awake_any S)
  have s3 : (300 : Int) < s.size := by omega
  clear S hs
  go_enter Try.func6, Try.ntmps6
  go_wp2_with fail
  refine (W7.out _).mono ?_
  rintro e w7 ⟨rfl, hb7⟩
  have HB := Lib.hid hb7
  clear hb7
  go_wp2_with fail
  go_ret
  exact ⟨rfl, HB.out⟩
theorem places_law (S : Says R) (s : ByteArray) (k n : Int) (w : World) (b1 : -9223372036854775808 ≤ k) (b2 : k ≤ 9223372036854775807) (b3 : -9223372036854775808 ≤ n) (b4 : n ≤ 9223372036854775807) :
    Calls Try.prog 6 #[.string s, .int .i64 k, .int .i64 n] w fun e w' => e = .returned (.bool true) ∧ Below w.heap.size w w' := by
  by_cases hs : s.size ≤ 300
  · by_cases h0 : 0 ≤ k
    · by_cases h1 : k ≤ s.size
      · by_cases h2 : 0 ≤ n
        · by_cases h3 : n ≤ (s.size : Int) - k
          · obtain ⟨k', rfl⟩ : ∃ k' : Nat, k = k' := ⟨k.toNat, by omega⟩
            obtain ⟨n', rfl⟩ : ∃ n' : Nat, n = n' := ⟨n.toNat, by omega⟩
            exact places_in S s k' n' w hs (by omega)
          · exact places_e S s k n w hs h0 h1 h2 (by omega) b1 b2 b3 b4
        · exact places_d S s k n w hs h0 h1 (by omega) b1 b2 b3 b4
      · by_cases h2 : 0 ≤ n
        · exact places_c S s k n w hs h0 (by omega) h2 b1 b2 b3 b4
        · exact places_b S s k n w hs h0 (by omega) (by omega) b1 b2 b3 b4
    · exact places_a S s k n w hs (by omega) b1 b2 b3 b4
  · exact places_big S s k n w (by omega)
end Go.Proofs.Ytjpomfjcofjanaa
