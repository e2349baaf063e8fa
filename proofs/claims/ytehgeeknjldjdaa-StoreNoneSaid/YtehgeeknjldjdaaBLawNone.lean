/- StoreNone out of what is asked of a store's calls. -/
import Derived.Test.YtehgeeknjldjdaaBLaws
namespace Go.Proofs.Ytehgeeknjldjdaa
open Go Go.RowKit

variable {Rep : (Nat → Prop) → World → Addr → ByteArray → Prop}

set_option maxHeartbeats 4000000 in
theorem none_law (S : Says Rep) (f : ByteArray) (k m : Int) (w : World) (hm : f.size ≤ 9223372036854775807) (k1 : -9223372036854775808 ≤ k) (k2 : k ≤ 9223372036854775807) (m1 : -9223372036854775808 ≤ m) (m2 : m ≤ 9223372036854775807) :
    Calls Try.prog 4 #[.string f, .int .i64 k, .int .i64 m] w fun e w' => e = .returned (.bool true) ∧ Below w.heap.size w w' := by
  have W8 := Lib.hid (awake_any S)
  by_cases hbig : 500 < f.size
  · clear S
    go_enter Try.func4, Try.ntmps4
    go_wp2_with (go_at_call 7; refine (W8.out _).mono ?_; rintro e w1 ⟨rfl, hb1⟩)
    go_ret
    exact ⟨rfl, hb1⟩
  · have hs : f.size ≤ 500 := by omega
    clear hbig
    have C1 := Lib.hid (S.new w f (by omega))
    by_cases hin : 0 ≤ k ∧ 0 ≤ m ∧ k ≤ (f.size : Int) ∧ m ≤ (f.size : Int) - k
    · obtain ⟨i1, i2, i3, i4⟩ := hin
      obtain ⟨p, rfl⟩ : ∃ p : Nat, k = p := ⟨k.toNat, by omega⟩
      obtain ⟨q, rfl⟩ : ∃ q : Nat, m = q := ⟨m.toNat, by omega⟩
      have C2 := Lib.hid (show ∀ wx a, Holds Rep w a f wx → Calls Try.prog 11 #[.pointer (some a), .int .i64 p, .int .i64 q] wx fun e w' => e = .returned (.tuple #[.string (f.extract p (p + q)), .bool true]) ∧ Hid (Holds Rep w a f w') from fun wx a h =>
        Holds.yes S h p q (by omega) (by omega) _ rfl)
      have e1 : ((p : Int) + (q : Int)).toNat = p + q := by omega
      have e2 : (p : Int) + (q : Int) ≤ (f.size : Int) := by omega
      have e3 : (p : Int) ≤ (p : Int) + (q : Int) := by omega
      clear S k1 k2 m1 m2
      go_enter Try.func4, Try.ntmps4
      go_wp2_with (first
        | (go_at_call 8; refine (C1.out).mono ?_; rintro e w1 ⟨a, F, rfl, hr1, ho1, hf1⟩; have H1 := Lib.hid (Holds.new hr1 ho1 hf1); clear hr1 ho1 hf1)
        | (go_at_call 11; refine (C2.out _ _ H1.out).mono ?_; rintro e w2 ⟨rfl, H2⟩)
        | (go_at_call 7; refine (W8.out _).mono ?_; rintro e w3 ⟨rfl, hb3⟩; have HB := Lib.hid (H2.out.2.trans (hb3.mono H2.out.2.size)); clear hb3))
      go_ret
      exact ⟨rfl, HB.out⟩
    · have C2 := Lib.hid (show ∀ wx a, Holds Rep w a f wx → Calls Try.prog 11 #[.pointer (some a), .int .i64 k, .int .i64 m] wx fun e w' => e = .returned (.tuple #[.string ⟨#[]⟩, .bool false]) ∧ Hid (Holds Rep w a f w') from fun wx a h =>
        Holds.no S h k m (by omega) (by omega) k1 k2 m1 m2)
      have hcs : k < 0 ∨ (0 ≤ k ∧ m < 0) ∨ (0 ≤ k ∧ 0 ≤ m ∧ (f.size : Int) < k) ∨ (0 ≤ k ∧ 0 ≤ m ∧ k ≤ (f.size : Int) ∧ (f.size : Int) - k < m) := by omega
      clear S hin
      rcases hcs with c1 | ⟨c1, c2⟩ | ⟨c1, c2, c3⟩ | ⟨c1, c2, c3, c4⟩
      all_goals
        go_enter Try.func4, Try.ntmps4
        go_wp2_with (first
          | (go_at_call 8; refine (C1.out).mono ?_; rintro e w1 ⟨a, F, rfl, hr1, ho1, hf1⟩; have H1 := Lib.hid (Holds.new hr1 ho1 hf1); clear hr1 ho1 hf1)
          | (go_at_call 11; refine (C2.out _ _ H1.out).mono ?_; rintro e w2 ⟨rfl, H2⟩)
          | (go_at_call 7; refine (W8.out _).mono ?_; rintro e w3 ⟨rfl, hb3⟩; have HB := Lib.hid (H2.out.2.trans (hb3.mono H2.out.2.size)); clear hb3))
        go_ret
        exact ⟨rfl, HB.out⟩
end Go.Proofs.Ytehgeeknjldjdaa
