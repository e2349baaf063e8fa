/- Stage 5's laws out of what is asked of a store's calls. -/
import Derived.Test.YtehgeeknjldjdaaProg
import Derived.Test.YtehgeeknjldjdaaSGives
import Derived.Lib.Hide
import Derived.Lib.MapLaws
import Derived.WalkKit
import Derived.WalkSpells
import Derived.WalkLawsBesides
import Derived.IntWalk
import Derived.BigQuiet
import Derived.Deep.QuietTactic
import Derived.Below
import Derived.Outline
import Derived.WalkMore
namespace Go.Proofs.Ytehgeeknjldjdaa
open Go Go.RowKit

theorem tmod_facts (v n : Int) (hn : 0 < n) : (v.tmod n < 0 → v % n = v.tmod n + n) ∧ (0 ≤ v.tmod n → v % n = v.tmod n) ∧ -n < v.tmod n ∧ v.tmod n < n := by
  have h1 := Int.emod_nonneg v (show n ≠ 0 by omega)
  have h2 := Int.emod_lt_of_pos v hn
  have ht : v.tmod n = if 0 ≤ v then v % n else if v % n = 0 then 0 else v % n - n := by
    rw [Int.tmod_eq_emod]
    have hd : (n ∣ v) ↔ v % n = 0 := Int.dvd_iff_emod_eq_zero
    by_cases h0 : 0 ≤ v
    · simp [h0]
    · by_cases hz : v % n = 0
      · simp [h0, hd, hz]
      · have : (n.natAbs : Int) = n := by omega
        simp [h0, hd, hz, this]
  by_cases h0 : 0 ≤ v
  · have h : v.tmod n = v % n := by rw [ht, if_pos h0]
    omega
  · by_cases hz : v % n = 0
    · have h : v.tmod n = 0 := by rw [ht, if_neg h0, if_pos hz]
      omega
    · have h : v.tmod n = v % n - n := by rw [ht, if_neg h0, if_neg hz]
      omega

theorem ret_int {k : IntKind} {a b : Int} (h : a = b) : Ending.returned (.int k a) = .returned (.int k b) := by rw [h]

set_option maxHeartbeats 400000 in
theorem place_any (v n : Int) (w : World) (hn : 0 < n) (hn2 : n ≤ 1000000000000000000) :
    Calls Try.prog 9 #[.int .i64 v, .int .i64 n] w fun e w' => e = .returned (.int .i64 (v % n)) ∧ w = w' := by
  obtain ⟨hneg, hpos, hb1, hb2⟩ := tmod_facts v n hn
  have hz0 : (n == 0) = false := by simp; omega
  have HN := Lib.hid hneg
  have HP := Lib.hid hpos
  clear hneg hpos
  go_enter Try.func9, Try.ntmps9
  go_wp2
  all_goals go_ret
  · exact ⟨ret_int (HN.out (by assumption)).symm, rfl⟩
  · exact ⟨ret_int (HP.out (by omega)).symm, rfl⟩


/-- What is asked of a store's calls. Rep F w a s: at a, in the blocks F, lies a store of the text s. -/
structure Says (Rep : (Nat → Prop) → World → Addr → ByteArray → Prop) : Prop where
  new : ∀ w (f : ByteArray), f.size ≤ 1000000 → Calls Try.prog 8 #[.string f] w fun e w' => ∃ a F, e = .returned (.pointer (some a)) ∧ Rep F w' a f ∧ OnlyAt (fun _ => False) w w' ∧ ∀ k, F k → w.heap.size ≤ k
  add : ∀ F w a s (t : ByteArray), Rep F w a s → s.size + t.size ≤ 1000000 →
    Calls Try.prog 10 #[.pointer (some a), .string t] w fun e w' => ∃ F', e = .returned (.int .i64 s.size) ∧ Rep F' w' a (s ++ t) ∧ OnlyAt F w w' ∧ ∀ k, F' k → F k ∨ w.heap.size ≤ k
  yes : ∀ F w a s (k m : Nat), Rep F w a s → k + m ≤ s.size → s.size ≤ 1000000 →
    Calls Try.prog 11 #[.pointer (some a), .int .i64 k, .int .i64 m] w fun e w' => ∃ F', e = .returned (.tuple #[.string (s.extract k (k + m)), .bool true]) ∧ Rep F' w' a s ∧ OnlyAt F w w' ∧ ∀ k, F' k → F k ∨ w.heap.size ≤ k
  no : ∀ F w a s (k m : Int), Rep F w a s → (k < 0 ∨ m < 0 ∨ (s.size : Int) < k ∨ (s.size : Int) - k < m) → s.size ≤ 1000000 → -9223372036854775808 ≤ k → k ≤ 9223372036854775807 → -9223372036854775808 ≤ m → m ≤ 9223372036854775807 →
    Calls Try.prog 11 #[.pointer (some a), .int .i64 k, .int .i64 m] w fun e w' => ∃ F', e = .returned (.tuple #[.string ⟨#[]⟩, .bool false]) ∧ Rep F' w' a s ∧ OnlyAt F w w' ∧ ∀ k, F' k → F k ∨ w.heap.size ≤ k
  len : ∀ F w a s, Rep F w a s → s.size ≤ 1000000 →
    Calls Try.prog 12 #[.pointer (some a)] w fun e w' => ∃ F', e = .returned (.int .i64 s.size) ∧ Rep F' w' a s ∧ OnlyAt F w w' ∧ ∀ k, F' k → F k ∨ w.heap.size ≤ k
  lt : ∀ F w a s, Rep F w a s → ∀ k, F k → k < w.heap.size
  frame : ∀ F w w' a s, Rep F w a s → KeepsAt F w w' → Rep F w' a s

variable {Rep : (Nat → Prop) → World → Addr → ByteArray → Prop}

/-- Between two calls: a store of just this text, in blocks of the law's own. -/
def Holds (Rep : (Nat → Prop) → World → Addr → ByteArray → Prop) (w : World) (a : Addr) (s : ByteArray) (wr : World) : Prop :=
  (∃ F, Rep F wr a s ∧ ∀ k, F k → w.heap.size ≤ k) ∧ Below w.heap.size w wr
theorem Holds.new {w w1 : World} {a : Addr} {f : ByteArray} {F : Nat → Prop} (h1 : Rep F w1 a f) (h2 : OnlyAt (fun _ => False) w w1) (h3 : ∀ k, F k → w.heap.size ≤ k) : Holds Rep w a f w1 :=
  ⟨⟨F, h1, h3⟩, OnlyAt.below (Below.refl _ _) h2 (Nat.le_refl _) (fun _ h => h.elim)⟩
theorem Holds.on {w wr w' : World} {a : Addr} {s : ByteArray} {F F' : Nat → Prop} (hb : Below w.heap.size w wr) (hF : ∀ k, F k → w.heap.size ≤ k) (h1 : Rep F' w' a s) (h2 : OnlyAt F wr w') (h3 : ∀ k, F' k → F k ∨ wr.heap.size ≤ k) : Holds Rep w a s w' :=
  ⟨⟨F', h1, fun k hk => by
    rcases h3 k hk with h | h
    · exact hF k h
    · exact Nat.le_trans hb.size h⟩, OnlyAt.below hb h2 hb.size hF⟩
theorem Holds.add (S : Says Rep) {w wr : World} {a : Addr} {s : ByteArray} (h : Holds Rep w a s wr) (t : ByteArray) (hs : s.size + t.size ≤ 1000000) :
    Calls Try.prog 10 #[.pointer (some a), .string t] wr fun e w' => e = .returned (.int .i64 s.size) ∧ Hid (Holds Rep w a (s ++ t) w') := by
  obtain ⟨⟨F, hr, hF⟩, hb⟩ := h
  exact (S.add _ _ _ _ t hr hs).mono fun _ _ ⟨_, he, h1, h2, h3⟩ => ⟨he, Holds.on hb hF h1 h2 h3⟩
theorem Holds.yes (S : Says Rep) {w wr : World} {a : Addr} {s : ByteArray} (h : Holds Rep w a s wr) (k m : Nat) (hk : k + m ≤ s.size) (hs : s.size ≤ 1000000) (t : ByteArray) (ht : s.extract k (k + m) = t) :
    Calls Try.prog 11 #[.pointer (some a), .int .i64 k, .int .i64 m] wr fun e w' => e = .returned (.tuple #[.string t, .bool true]) ∧ Hid (Holds Rep w a s w') := by
  obtain ⟨⟨F, hr, hF⟩, hb⟩ := h
  exact (S.yes _ _ _ _ k m hr hk hs).mono fun _ _ ⟨_, he, h1, h2, h3⟩ => ⟨by rw [he, ht], Holds.on hb hF h1 h2 h3⟩
theorem Holds.no (S : Says Rep) {w wr : World} {a : Addr} {s : ByteArray} (h : Holds Rep w a s wr) (k m : Int) (hk : k < 0 ∨ m < 0 ∨ (s.size : Int) < k ∨ (s.size : Int) - k < m) (hs : s.size ≤ 1000000)
    (h1 : -9223372036854775808 ≤ k) (h2 : k ≤ 9223372036854775807) (h3 : -9223372036854775808 ≤ m) (h4 : m ≤ 9223372036854775807) :
    Calls Try.prog 11 #[.pointer (some a), .int .i64 k, .int .i64 m] wr fun e w' => e = .returned (.tuple #[.string ⟨#[]⟩, .bool false]) ∧ Hid (Holds Rep w a s w') := by
  obtain ⟨⟨F, hr, hF⟩, hb⟩ := h
  exact (S.no _ _ _ _ k m hr hk hs h1 h2 h3 h4).mono fun _ _ ⟨_, he, h1, h2, h3⟩ => ⟨he, Holds.on hb hF h1 h2 h3⟩
theorem Holds.len (S : Says Rep) {w wr : World} {a : Addr} {s : ByteArray} (h : Holds Rep w a s wr) (hs : s.size ≤ 1000000) :
    Calls Try.prog 12 #[.pointer (some a)] wr fun e w' => e = .returned (.int .i64 s.size) ∧ Hid (Holds Rep w a s w') := by
  obtain ⟨⟨F, hr, hF⟩, hb⟩ := h
  exact (S.len _ _ _ _ hr hs).mono fun _ _ ⟨_, he, h1, h2, h3⟩ => ⟨he, Holds.on hb hF h1 h2 h3⟩

theorem abc_eq : (⟨#[97, 98]⟩ ++ ⟨#[99]⟩ : ByteArray) = ⟨#[97, 98, 99]⟩ := by decide
theorem abc_cut : (⟨#[97, 98, 99]⟩ : ByteArray).extract 1 (1 + 2) = ⟨#[98, 99]⟩ := by decide

set_option maxHeartbeats 1000000 in
theorem awake_any (S : Says Rep) (w : World) : Calls Try.prog 7 #[] w fun e w' => e = .returned (.bool true) ∧ Below w.heap.size w w' := by
  have C1 := Lib.hid (S.new w ⟨#[97, 98]⟩ (by decide))
  have C2 := Lib.hid (show ∀ wx a, Holds Rep w a ⟨#[97, 98]⟩ wx → Calls Try.prog 10 #[.pointer (some a), .string ⟨#[99]⟩] wx fun e w' => e = .returned (.int .i64 2) ∧ Hid (Holds Rep w a ⟨#[97, 98, 99]⟩ w') from fun wx a h => by
    have := Holds.add S h ⟨#[99]⟩ (by decide)
    rwa [abc_eq] at this)
  have C3 := Lib.hid (show ∀ wx a, Holds Rep w a ⟨#[97, 98, 99]⟩ wx → Calls Try.prog 11 #[.pointer (some a), .int .i64 1, .int .i64 2] wx fun e w' => e = .returned (.tuple #[.string ⟨#[98, 99]⟩, .bool true]) ∧ Hid (Holds Rep w a ⟨#[97, 98, 99]⟩ w') from fun wx a h =>
    Holds.yes S h 1 2 (by decide) (by decide) _ abc_cut)
  have C4 := Lib.hid (show ∀ wx a, Holds Rep w a ⟨#[97, 98, 99]⟩ wx → Calls Try.prog 12 #[.pointer (some a)] wx fun e w' => e = .returned (.int .i64 3) ∧ Hid (Holds Rep w a ⟨#[97, 98, 99]⟩ w') from fun wx a h => Holds.len S h (by decide))
  clear S
  go_enter Try.func7, Try.ntmps7
  go_wp2_with (first
    | (go_at_call 8; refine (C1.out).mono ?_; rintro e w1 ⟨a, F, rfl, hr1, ho1, hf1⟩; have H1 := Lib.hid (Holds.new hr1 ho1 hf1); clear hr1 ho1 hf1)
    | (go_at_call 10; refine (C2.out _ _ H1.out).mono ?_; rintro e w2 ⟨rfl, H2⟩)
    | (go_at_call 11; refine (C3.out _ _ H2.out).mono ?_; rintro e w3 ⟨rfl, H3⟩)
    | (go_at_call 12; refine (C4.out _ _ H3.out).mono ?_; rintro e w4 ⟨rfl, H4⟩))
  go_ret
  exact ⟨rfl, H4.out.2⟩

theorem cut_none (s : ByteArray) (k : Nat) : s.extract k (k + 0) = ⟨#[]⟩ := by
  apply ByteArray.ext
  simp
theorem cut_all (s : ByteArray) : s.extract 0 (0 + s.size) = s := by
  rw [Nat.zero_add]
  apply ByteArray.ext
  simp

set_option maxHeartbeats 2000000 in
theorem empty_law (S : Says Rep) (f : ByteArray) (n at_ : Int) (w : World) (_hm : f.size ≤ 9223372036854775807) :
    Calls Try.prog 6 #[.string f, .int .i64 n, .int .i64 at_] w fun e w' => e = .returned (.bool true) ∧ Below w.heap.size w w' := by
  have W8 := Lib.hid (awake_any S)
  by_cases hbig : 300 < f.size
  · clear S
    go_enter Try.func6, Try.ntmps6
    go_wp2_with (go_at_call 7; refine (W8.out _).mono ?_; rintro e w1 ⟨rfl, hb1⟩)
    go_ret
    exact ⟨rfl, hb1⟩
  · have hs : f.size ≤ 300 := by omega
    obtain ⟨kk, hkk⟩ : ∃ kk : Nat, (kk : Int) = n % 20 := ⟨(n % 20).toNat, by omega⟩
    obtain ⟨q, hq⟩ : ∃ q : Nat, (q : Int) = at_ % ((f.size : Int) + 1) := ⟨(at_ % ((f.size : Int) + 1)).toNat, by have := Int.emod_nonneg at_ (show (f.size : Int) + 1 ≠ 0 by omega); omega⟩
    have hqf : q ≤ f.size := by have := Int.emod_lt_of_pos at_ (show (0 : Int) < (f.size : Int) + 1 by omega); omega
    have hk20 : kk < 20 := by omega
    have P1 := Lib.hid (fun wx => place_any n 20 wx (by omega) (by omega))
    have P2 := Lib.hid (fun wx => place_any at_ ((f.size : Int) + 1) wx (by omega) (by omega))
    rw [← hkk] at P1
    rw [← hq] at P2
    have C1 := Lib.hid (S.new w f (by omega))
    have C2 := Lib.hid (show ∀ wx a, Holds Rep w a f wx → Calls Try.prog 10 #[.pointer (some a), .string ⟨#[]⟩] wx fun e w' => e = .returned (.int .i64 f.size) ∧ Hid (Holds Rep w a f w') from fun wx a h => by
      have := Holds.add S h ⟨#[]⟩ (by show f.size + 0 ≤ _; omega)
      rwa [show f ++ (⟨#[]⟩ : ByteArray) = f from ByteArray.append_empty] at this)
    have C3 := Lib.hid (show ∀ wx a, Holds Rep w a f wx → Calls Try.prog 11 #[.pointer (some a), .int .i64 q, .int .i64 0] wx fun e w' => e = .returned (.tuple #[.string ⟨#[]⟩, .bool true]) ∧ Hid (Holds Rep w a f w') from fun wx a h =>
      Holds.yes S h q 0 (by omega) (by omega) _ (cut_none f q))
    have C4 := Lib.hid (show ∀ wx a, Holds Rep w a f wx → Calls Try.prog 11 #[.pointer (some a), .int .i64 0, .int .i64 f.size] wx fun e w' => e = .returned (.tuple #[.string f, .bool true]) ∧ Hid (Holds Rep w a f w') from fun wx a h =>
      Holds.yes S h 0 f.size (by omega) (by omega) _ (cut_all f))
    have C5 := Lib.hid (show ∀ wx a, Holds Rep w a f wx → Calls Try.prog 11 #[.pointer (some a), .int .i64 ((f.size : Int) + 1 + q), .int .i64 0] wx fun e w' => e = .returned (.tuple #[.string ⟨#[]⟩, .bool false]) ∧ Hid (Holds Rep w a f w') from fun wx a h =>
      Holds.no S h _ 0 (by omega) (by omega) (by omega) (by omega) (by omega) (by omega))
    have C6 := Lib.hid (show ∀ wx a, Holds Rep w a f wx → Calls Try.prog 12 #[.pointer (some a)] wx fun e w' => e = .returned (.int .i64 f.size) ∧ Hid (Holds Rep w a f w') from fun wx a h => Holds.len S h (by omega))
    have k20 : (kk : Int) < 20 := by omega
    have q0 : (0 : Int) ≤ q := by omega
    have qf : (q : Int) ≤ f.size := by omega
    clear S hkk hq hbig
    go_enter Try.func6, Try.ntmps6
    go_wp2_with (go_at_call 8; refine (C1.out).mono ?_; rintro e w1 ⟨a, F, rfl, hr1, ho1, hf1⟩; have H1 := Lib.hid (Holds.new hr1 ho1 hf1); clear hr1 ho1 hf1)
    go_loopw [8] (fun i wr => ∃ j : Nat, j ≤ kk ∧ i = .int .i64 j ∧ Hid (Holds Rep w a f wr)) (fun i _ => kk - (RowKit.intOf i).toNat)
    case atStart => exact ⟨0, Nat.zero_le _, rfl, H1⟩
    case round =>
      obtain ⟨j, hj, rfl, HT⟩ := hrel
      have j0 : (0 : Int) ≤ j := by omega
      by_cases hjk : j < kk
      · have jk : (j : Int) < kk := by omega
        go_wp2_with (first
          | (go_at_call 9; refine (P1.out _).mono ?_; rintro e w2 ⟨rfl, rfl⟩)
          | (go_at_call 10; refine (C2.out _ _ HT.out).mono ?_; rintro e w3 ⟨rfl, H3⟩)
          | (go_at_call 12; refine (C6.out _ _ H3.out).mono ?_; rintro e w4 ⟨rfl, H4⟩))
        go_roundw
        case rel => exact ⟨j + 1, by omega, by go_num, H4⟩
        case measure => simp [RowKit.intOf]; omega
      · obtain rfl : j = kk := by omega
        clear hj hjk
        go_wp2_with fail
        refine (P1.out _).mono ?_
        rintro e w2 ⟨rfl, rfl⟩
        go_wp2_with fail
        refine (P2.out _).mono ?_
        rintro e w2 ⟨rfl, rfl⟩
        go_wp2_with fail
        refine (C3.out _ _ HT.out).mono ?_
        rintro e w3 ⟨rfl, H3⟩
        go_wp2_with fail
        refine (C4.out _ _ H3.out).mono ?_
        rintro e w4 ⟨rfl, H4⟩
        go_wp2_with fail
        refine (C5.out _ _ H4.out).mono ?_
        rintro e w5 ⟨rfl, H5⟩
        go_wp2_with fail
        refine (W8.out _).mono ?_
        rintro e w6 ⟨rfl, hb6⟩
        have HB := Lib.hid (H5.out.2.trans (hb6.mono H5.out.2.size))
        clear hb6
        go_wp2_with fail
        go_ret
        exact ⟨rfl, HB.out⟩
end Go.Proofs.Ytehgeeknjldjdaa
