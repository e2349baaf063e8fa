/- Stage 4's laws out of what is asked of a tree's calls. -/
import Derived.Test.YtfkoephfcjpioaaALeast
namespace Go.Proofs.Ytfkoephfcjpioaa
open Go Go.RowKit

/-- What is asked of a tree's calls. Rep base w a L h: at a, in blocks from base on, lies a tree of the items L, of height h. -/
structure Says (Rep : Nat → World → Addr → List It → Nat → Prop) : Prop where
  new : ∀ w, Calls Try.prog 5 #[] w fun e w' => ∃ a, e = .returned (.pointer (some a)) ∧ Rep w.heap.size w' a [] 0 ∧ Below w.heap.size w w'
  insert : ∀ base w a L h (i : Nat) (key : Int) (size : Nat), Rep base w a L h → base ≤ w.heap.size → i ≤ L.length → size ≤ 1099511627776 → L.length < 65536 →
    Calls Try.prog 8 #[.pointer (some a), .int .i64 i, .int .i64 key, .int .i64 size] w fun e w' => e = .returned (.bool true) ∧ (∃ h', Rep base w' a (putL L i (key, size)) h') ∧ Below base w w'
  remove : ∀ base w a L h (i : Nat), Rep base w a L h → base ≤ w.heap.size → i < L.length →
    Calls Try.prog 12 #[.pointer (some a), .int .i64 i] w fun e w' => e = .returned (.bool true) ∧ (∃ h', Rep base w' a (dropL L i) h') ∧ Below base w w'
  len : ∀ base w a L h, Rep base w a L h → base ≤ w.heap.size →
    Calls Try.prog 9 #[.pointer (some a)] w fun e w' => e = .returned (.int .i64 L.length) ∧ Rep base w' a L h ∧ Below base w w'
  sum : ∀ base w a L h, Rep base w a L h → base ≤ w.heap.size →
    Calls Try.prog 15 #[.pointer (some a)] w fun e w' => e = .returned (.int .i64 (total L)) ∧ Rep base w' a L h ∧ Below base w w'
  height : ∀ base w a L h, Rep base w a L h → base ≤ w.heap.size →
    Calls Try.prog 11 #[.pointer (some a)] w fun e w' => e = .returned (.int .i64 h) ∧ Rep base w' a L h ∧ Below base w w'
  get : ∀ base w a L h (i : Nat) (x : It), Rep base w a L h → base ≤ w.heap.size → L[i]? = some x →
    Calls Try.prog 16 #[.pointer (some a), .int .i64 i] w fun e w' => e = .returned (.tuple #[.int .i64 x.1, .int .i64 x.2, .bool true]) ∧ Rep base w' a L h ∧ Below base w w'
  find : ∀ base w a L h (p : Nat), Rep base w a L h → base ≤ w.heap.size → p ≤ 9223372036854775807 →
    Calls Try.prog 13 #[.pointer (some a), .int .i64 p] w fun e w' => e = .returned (.tuple #[.int .i64 (findL L p).1, .int .i64 (findL L p).2]) ∧ Rep base w' a L h ∧ Below base w w'
  before : ∀ base w a L h (i : Nat), Rep base w a L h → base ≤ w.heap.size → i ≤ 9223372036854775807 →
    Calls Try.prog 14 #[.pointer (some a), .int .i64 i] w fun e w' => e = .returned (.int .i64 (before L (i : Int))) ∧ Rep base w' a L h ∧ Below base w w'
  low : ∀ base w a L h, Rep base w a L h → least h ≤ L.length ∧ L.length < 2 ^ h ∧ h ≤ 1000

variable {Rep : Nat → World → Addr → List It → Nat → Prop}

/-- The first k items of the example. -/
def exL (k : Nat) : List It := (List.range k).map fun (j : Nat) => ((10 : Int) + (j : Int), 5)
theorem exL_succ (k : Nat) : exL (k + 1) = putL (exL k) k (10 + (k : Int), 5) := by
  have hl : (exL k).length = k := by simp [exL]
  have := putL_end (exL k) (10 + (k : Int), 5)
  rw [hl] at this
  rw [this, exL, List.range_succ, List.map_append]; rfl
theorem two_high {h : Nat} (h1 : least h ≤ 3) (h2 : 3 < 2 ^ h) : h = 2 := by
  match h with
  | 0 => simp at h2
  | 1 => simp at h2
  | 2 => rfl
  | h + 3 =>
    have := least_le (show 3 ≤ h + 3 by omega)
    have h3 : least 3 = 4 := rfl
    omega

set_option maxHeartbeats 2000000 in
theorem awake_any (S : Says Rep) (w : World) : Calls Try.prog 7 #[] w fun e w' => e = .returned (.bool true) ∧ Below w.heap.size w w' := by
  have HS := Lib.hid S
  clear S
  go_enter Try.func7, Try.ntmps7
  go_wp2_with (go_at_call 5; refine (HS.out.new _).mono ?_; rintro e w1 ⟨a, rfl, hr1, hb1⟩)
  have hz1 := hb1.size
  have HR1 := Lib.hid hr1
  have HB1 := Lib.hid hb1
  clear hr1 hb1
  go_loopw [2] (fun i wr => ∃ k : Nat, k ≤ 3 ∧ i = .int .i64 k ∧ Hid (∃ h, Rep w.heap.size wr a (exL k) h) ∧ Hid (Below w.heap.size w wr)) (fun i _ => 3 - (RowKit.intOf i).toNat)
  case atStart => exact ⟨0, by omega, rfl, ⟨0, HR1.out⟩, HB1.out⟩
  case round =>
    obtain ⟨k, hk, rfl, HR, HB⟩ := hrel
    have hz := HB.out.size
    by_cases hk3 : k < 3
    · have C := Lib.hid (show Calls Try.prog 8 #[.pointer (some a), .int .i64 k, .int .i64 (10 + (k : Int)), .int .i64 5] wr fun e w' => e = .returned (.bool true) ∧ Hid (∃ h, Rep w.heap.size w' a (exL (k + 1)) h) ∧ Below w.heap.size wr w' by
        obtain ⟨h, hr⟩ := HR.out
        have hl : (exL k).length = k := by simp [exL]
        refine (HS.out.insert _ _ _ _ _ k (10 + (k : Int)) 5 hr hz (by omega) (by omega) (by omega)).mono ?_
        rintro e w' ⟨he, ⟨h', hr'⟩, hb⟩
        exact ⟨he, ⟨h', by rw [exL_succ]; exact hr'⟩, hb⟩)
      have k0 : (0 : Int) ≤ k := by omega
      have k3 : (k : Int) < 3 := by omega
      go_wp2_with (go_at_call 8; refine (C.out).mono ?_; rintro e w2 ⟨rfl, hr2, hb2⟩)
      have HB2 := Lib.hid (HB.out.trans hb2)
      clear hb2
      go_roundw
      case rel => exact ⟨k + 1, by omega, by go_num, hr2, HB2.out⟩
      case measure => simp [RowKit.intOf]; omega
    · obtain rfl : k = 3 := by omega
      obtain ⟨h, hr⟩ := HR.out
      obtain ⟨l1, l2, _⟩ := HS.out.low _ _ _ _ _ hr
      obtain rfl := two_high l1 l2
      have cF : ∀ wx, Rep w.heap.size wx a (exL 3) 2 → w.heap.size ≤ wx.heap.size → Calls Try.prog 13 #[.pointer (some a), .int .i64 7] wx fun e w' => e = .returned (.tuple #[.int .i64 1, .int .i64 2]) ∧ Rep w.heap.size w' a (exL 3) 2 ∧ Below w.heap.size wx w' := fun wx hx hxz => HS.out.find _ _ _ _ _ 7 hx hxz (by omega)
      have cH : ∀ wx, Rep w.heap.size wx a (exL 3) 2 → w.heap.size ≤ wx.heap.size → Calls Try.prog 11 #[.pointer (some a)] wx fun e w' => e = .returned (.int .i64 2) ∧ Rep w.heap.size w' a (exL 3) 2 ∧ Below w.heap.size wx w' := fun wx hx hxz => HS.out.height _ _ _ _ _ hx hxz
      have cL : ∀ wx, Rep w.heap.size wx a (exL 3) 2 → w.heap.size ≤ wx.heap.size → Calls Try.prog 9 #[.pointer (some a)] wx fun e w' => e = .returned (.int .i64 3) ∧ Rep w.heap.size w' a (exL 3) 2 ∧ Below w.heap.size wx w' := fun wx hx hxz => HS.out.len _ _ _ _ _ hx hxz
      have cS : ∀ wx, Rep w.heap.size wx a (exL 3) 2 → w.heap.size ≤ wx.heap.size → Calls Try.prog 15 #[.pointer (some a)] wx fun e w' => e = .returned (.int .i64 15) ∧ Rep w.heap.size w' a (exL 3) 2 ∧ Below w.heap.size wx w' := fun wx hx hxz => HS.out.sum _ _ _ _ _ hx hxz
      have cB : ∀ wx, Rep w.heap.size wx a (exL 3) 2 → w.heap.size ≤ wx.heap.size → Calls Try.prog 14 #[.pointer (some a), .int .i64 2] wx fun e w' => e = .returned (.int .i64 10) ∧ Rep w.heap.size w' a (exL 3) 2 ∧ Below w.heap.size wx w' := fun wx hx hxz => HS.out.before _ _ _ _ _ 2 hx hxz (by omega)
      have CF := Lib.hid cF
      have CH := Lib.hid cH
      have CL := Lib.hid cL
      have CS := Lib.hid cS
      have CB := Lib.hid cB
      have HR3 := Lib.hid hr
      clear cF cH cL cS cB hr l1 l2 HR hk hk3
      go_wp2_with (first
        | (go_at_call 13; refine (CF.out _ HR3.out hz).mono ?_; rintro e w3 ⟨rfl, r3, b3⟩; have hz3 := Nat.le_trans hz b3.size; have R3 := Lib.hid r3; have B3 := Lib.hid (HB.out.trans b3); clear r3 b3)
        | (go_at_call 11; refine (CH.out _ R3.out hz3).mono ?_; rintro e w4 ⟨rfl, r4, b4⟩; have hz4 := Nat.le_trans hz3 b4.size; have R4 := Lib.hid r4; have B4 := Lib.hid (B3.out.trans b4); clear r4 b4)
        | (go_at_call 9; refine (CL.out _ R4.out hz4).mono ?_; rintro e w5 ⟨rfl, r5, b5⟩; have hz5 := Nat.le_trans hz4 b5.size; have R5 := Lib.hid r5; have B5 := Lib.hid (B4.out.trans b5); clear r5 b5)
        | (go_at_call 15; refine (CS.out _ R5.out hz5).mono ?_; rintro e w6 ⟨rfl, r6, b6⟩; have hz6 := Nat.le_trans hz5 b6.size; have R6 := Lib.hid r6; have B6 := Lib.hid (B5.out.trans b6); clear r6 b6)
        | (go_at_call 14; refine (CB.out _ R6.out hz6).mono ?_; rintro e w7 ⟨rfl, r7, b7⟩; have B7 := Lib.hid (B6.out.trans b7); clear r7 b7))
      go_ret
      exact ⟨rfl, B7.out⟩
end Go.Proofs.Ytfkoephfcjpioaa
