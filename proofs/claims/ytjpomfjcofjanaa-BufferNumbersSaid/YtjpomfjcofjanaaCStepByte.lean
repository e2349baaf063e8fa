/- A step that reads a byte. -/
import Derived.Test.YtjpomfjcofjanaaCStepCut
import Derived.Deep.RegionHeld3
namespace Go.Proofs.Ytjpomfjcofjanaa
open Go Go.RowKit
variable {R : Nat → (Nat → Prop) → World → Addr → ByteArray → Nat → Nat → Nat → Prop} {u : Nat}

theorem get_at (s : ByteArray) (q : Nat) (h : q < s.size) : s.get! q = s[q]'h := by
  rw [ByteArray.get!]
  exact getElem!_pos s.data q h
set_option maxRecDepth 100000 in
set_option maxHeartbeats 8000000 in
theorem step_byte_yes (S0 : Says R) {w : World} {a : Addr} {mb : Nat} {s : ByteArray} {m : Nat} {wr : World} (h : JJ (R u) w a mb s m wr) (K B : Int) (S : ByteArray) (q : Nat) (hq : q < s.size) (hK : K % 7 = 6) :
    Calls Try.prog 9 #[.pointer (some a), .pointer (some ⟨mb, 0, none⟩), .agg #[.int .i64 K, .int .i64 q, .int .i64 B, .string S]] wr fun e w' => e = .returned (.bool true) ∧ JJ (R u) w a mb s m w' := by
  have hj0 := h.box S0 K q B S
  obtain ⟨i1, i2, -⟩ := hj0.inv S0
  have P1 := Lib.hid (fun wx => place_any K 7 wx (by omega) (by omega))
  rw [hK] at P1
  obtain ⟨ob, hob⟩ : ∃ ob, ob = wr.heap.size := ⟨_, rfl⟩
  obtain ⟨wb, hwb⟩ : ∃ wb, wb = wr.alloc (.cells #[.int .i64 K, .int .i64 q, .int .i64 B, .string S] /-t-/32) := ⟨_, rfl⟩
  rw [← hob, ← hwb] at hj0
  obtain ⟨z0, z1, z2, z3, z4⟩ := hj0.cells
  have HJ0 := Lib.hid hj0
  have HW := Lib.hid (And.intro hob hwb)
  have hin : (0 : Int) ≤ (q : Int) ∧ (q : Int) < s.size := ⟨by omega, by omega⟩
  have CC : Hid (∀ p0 h0 wx, J (R u) w a mb ob K q B S s s m (fun p' h' => p' = p0 ∧ h' = h0) wx → Calls Try.prog 26 #[.pointer (some a), .int .i64 q] wx fun e w' => e = .returned (.tuple #[.int .u8 ((s[q]'hq).toNat : Int), .int .i64 0]) ∧ J (R u) w a mb ob K q B S s s m (fun p' h' => p' = p0 ∧ h' = h0) w') := Lib.hid (fun p0 h0 wx hx => by
    have := J.byte S0 hx (by omega) (by omega)
    rw [byteV, if_pos hin, byteE, if_pos hin, Int.toNat_natCast, get_at s q hq] at this
    exact this)
  have q0 : (0 : Int) ≤ q := by omega
  have q1 : (q : Int) < s.size := by omega
  clear hin
  have HS := Lib.hid S0
  clear h hj0 hob hwb hK i1 i2 S0
  go_enter Try.func9, Try.ntmps9
  go_wp2_with fail
  rw [← HW.out.2, ← HW.out.1]
  refine (J.pieces HS.out HJ0.out).mono ?_
  rintro e w1 ⟨p0, h0, -, -, rfl, hj1⟩
  obtain ⟨x0, y1, y2, y3, -⟩ := hj1.cells
  have HJ1 := Lib.hid hj1
  clear hj1 z0 z1 z2 z3 z4
  go_wp2_with (go_at_call 11; refine (P1.out _).mono ?_; rintro e w1 ⟨rfl, rfl⟩)
  refine (CC.out _ _ _ HJ1.out).mono ?_
  rintro e w2 ⟨rfl, hj2⟩
  obtain ⟨-, x1, x2, -, x4⟩ := hj2.cells
  have HJT := Lib.hid hj2
  clear hj2 y1 y2 y3 x0
  go_wp2_with fail
  go_quiet (fail)
  generalize nq = n1 at *
  go_wp2_with fail
  go_quiet (fail)
  have hjt := J.drewN HS.out HJT.out (n1 + nq)
  go_wp2_with fail
  refine (J.pieces HS.out hjt).mono ?_
  rintro e w5 ⟨p2, h2, -, ⟨q1, q2, q3, q4, q5⟩, rfl, hj5⟩
  obtain ⟨-, -, -, -, y4⟩ := hj5.cells
  have HJ5 := Lib.hid (hj5.drew HS.out)
  have r1 : (p2 : Int) ≤ s.size := by omega
  have CLE := Lib.hid (fun wx => least_any h2 wx (by omega))
  have HQ := Lib.hid (And.intro q1 q4)
  have HNB := Lib.hid (none_bool q3)
  clear hjt hj5 q1 q2 q3 q4 q5
  go_wp2_with fail
  go_region_held3 (fun wx => wx.cell? ⟨mb, 0, none⟩ = some (.string s))
    (first | exact y4 | assumption)
    (first
      | (go_at_call 16; refine (J.len HS.out HJ5.out).mono ?_; rintro e w6 ⟨rfl, hj6⟩; have hs6 := hj6.cells.2.2.2.2; have HJ6 := Lib.hid hj6; clear hj6)
      | (go_at_call 14; refine (J.text HS.out HJ6.out).mono ?_; rintro e w7 ⟨rfl, hj7⟩; have hs7 := hj7.cells.2.2.2.2; have HJ7 := Lib.hid hj7; clear hj7)
      | (go_at_call 28; refine (J.height HS.out HJ7.out).mono ?_; rintro e w8 ⟨rfl, hj8⟩; have hs8 := hj8.cells.2.2.2.2; have HJ8 := Lib.hid hj8; clear hj8)
      | (go_at_call 27; refine (CLE.out _).mono ?_; rintro e w9 ⟨⟨c, rfl, hc1, -⟩, rfl⟩; have hc : (c : Int) ≤ p2 := (by have := HQ.out.1; omega); clear hc1))
  go_wp2_with fail
  go_ret
  exact ⟨ret_bool HNB.out, HJ8.out.unbox⟩

set_option maxRecDepth 100000 in
set_option maxHeartbeats 8000000 in
theorem step_byte_below (S0 : Says R) {w : World} {a : Addr} {mb : Nat} {s : ByteArray} {m : Nat} {wr : World} (h : JJ (R u) w a mb s m wr) (K A B : Int) (S : ByteArray) (hn : A < 0) (b1 : -9223372036854775808 ≤ A) (hK : K % 7 = 6) :
    Calls Try.prog 9 #[.pointer (some a), .pointer (some ⟨mb, 0, none⟩), .agg #[.int .i64 K, .int .i64 A, .int .i64 B, .string S]] wr fun e w' => e = .returned (.bool true) ∧ JJ (R u) w a mb s m w' := by
  have hj0 := h.box S0 K A B S
  obtain ⟨i1, i2, -⟩ := hj0.inv S0
  have P1 := Lib.hid (fun wx => place_any K 7 wx (by omega) (by omega))
  rw [hK] at P1
  obtain ⟨ob, hob⟩ : ∃ ob, ob = wr.heap.size := ⟨_, rfl⟩
  obtain ⟨wb, hwb⟩ : ∃ wb, wb = wr.alloc (.cells #[.int .i64 K, .int .i64 A, .int .i64 B, .string S] /-t-/32) := ⟨_, rfl⟩
  rw [← hob, ← hwb] at hj0
  obtain ⟨z0, z1, z2, z3, z4⟩ := hj0.cells
  have HJ0 := Lib.hid hj0
  have HW := Lib.hid (And.intro hob hwb)
  have hin : ¬ ((0 : Int) ≤ A ∧ A < s.size) := fun h => by omega
  have CC : Hid (∀ p0 h0 wx, J (R u) w a mb ob K A B S s s m (fun p' h' => p' = p0 ∧ h' = h0) wx → Calls Try.prog 26 #[.pointer (some a), .int .i64 A] wx fun e w' => e = .returned (.tuple #[.int .u8 0, .int .i64 2]) ∧ J (R u) w a mb ob K A B S s s m (fun p' h' => p' = p0 ∧ h' = h0) w') := Lib.hid (fun p0 h0 wx hx => by
    have := J.byte S0 hx (by omega) (by omega)
    rw [byteV, if_neg hin, byteE, if_neg hin] at this
    exact this)
  have hd : decide (0 ≤ A) = false := by simpa using hn
  clear hin b1 hn
  have HS := Lib.hid S0
  clear h hj0 hob hwb hK i1 i2 S0
  go_enter Try.func9, Try.ntmps9
  go_wp2_with fail
  rw [← HW.out.2, ← HW.out.1]
  refine (J.pieces HS.out HJ0.out).mono ?_
  rintro e w1 ⟨p0, h0, -, -, rfl, hj1⟩
  obtain ⟨x0, y1, y2, y3, -⟩ := hj1.cells
  have HJ1 := Lib.hid hj1
  clear hj1 z0 z1 z2 z3 z4
  go_wp2_with (go_at_call 11; refine (P1.out _).mono ?_; rintro e w1 ⟨rfl, rfl⟩)
  refine (CC.out _ _ _ HJ1.out).mono ?_
  rintro e w2 ⟨rfl, hj2⟩
  obtain ⟨-, x1, x2, -, x4⟩ := hj2.cells
  have HJT := Lib.hid hj2
  clear hj2 y1 y2 y3 x0
  go_wp2_with fail
  go_quiet (fail)
  generalize nq = n1 at *
  go_wp2_with fail
  go_quiet (fail)
  have hjt := J.drewN HS.out HJT.out (n1 + nq)
  go_wp2_with fail
  refine (J.pieces HS.out hjt).mono ?_
  rintro e w5 ⟨p2, h2, -, ⟨q1, q2, q3, q4, q5⟩, rfl, hj5⟩
  obtain ⟨-, -, -, -, y4⟩ := hj5.cells
  have HJ5 := Lib.hid (hj5.drew HS.out)
  have r1 : (p2 : Int) ≤ s.size := by omega
  have CLE := Lib.hid (fun wx => least_any h2 wx (by omega))
  have HQ := Lib.hid (And.intro q1 q4)
  have HNB := Lib.hid (none_bool q3)
  clear hjt hj5 q1 q2 q3 q4 q5
  go_wp2_with fail
  go_region_held3 (fun wx => wx.cell? ⟨mb, 0, none⟩ = some (.string s))
    (first | exact y4 | assumption)
    (first
      | (go_at_call 16; refine (J.len HS.out HJ5.out).mono ?_; rintro e w6 ⟨rfl, hj6⟩; have hs6 := hj6.cells.2.2.2.2; have HJ6 := Lib.hid hj6; clear hj6)
      | (go_at_call 14; refine (J.text HS.out HJ6.out).mono ?_; rintro e w7 ⟨rfl, hj7⟩; have hs7 := hj7.cells.2.2.2.2; have HJ7 := Lib.hid hj7; clear hj7)
      | (go_at_call 28; refine (J.height HS.out HJ7.out).mono ?_; rintro e w8 ⟨rfl, hj8⟩; have hs8 := hj8.cells.2.2.2.2; have HJ8 := Lib.hid hj8; clear hj8)
      | (go_at_call 27; refine (CLE.out _).mono ?_; rintro e w9 ⟨⟨c, rfl, hc1, -⟩, rfl⟩; have hc : (c : Int) ≤ p2 := (by have := HQ.out.1; omega); clear hc1))
  go_wp2_with fail
  go_ret
  exact ⟨ret_bool HNB.out, HJ8.out.unbox⟩

set_option maxRecDepth 100000 in
set_option maxHeartbeats 8000000 in
theorem step_byte_above (S0 : Says R) {w : World} {a : Addr} {mb : Nat} {s : ByteArray} {m : Nat} {wr : World} (h : JJ (R u) w a mb s m wr) (K A B : Int) (S : ByteArray) (hn0 : 0 ≤ A) (hn : (s.size : Int) ≤ A) (b2 : A ≤ 9223372036854775807) (hK : K % 7 = 6) :
    Calls Try.prog 9 #[.pointer (some a), .pointer (some ⟨mb, 0, none⟩), .agg #[.int .i64 K, .int .i64 A, .int .i64 B, .string S]] wr fun e w' => e = .returned (.bool true) ∧ JJ (R u) w a mb s m w' := by
  have hj0 := h.box S0 K A B S
  obtain ⟨i1, i2, -⟩ := hj0.inv S0
  have P1 := Lib.hid (fun wx => place_any K 7 wx (by omega) (by omega))
  rw [hK] at P1
  obtain ⟨ob, hob⟩ : ∃ ob, ob = wr.heap.size := ⟨_, rfl⟩
  obtain ⟨wb, hwb⟩ : ∃ wb, wb = wr.alloc (.cells #[.int .i64 K, .int .i64 A, .int .i64 B, .string S] /-t-/32) := ⟨_, rfl⟩
  rw [← hob, ← hwb] at hj0
  obtain ⟨z0, z1, z2, z3, z4⟩ := hj0.cells
  have HJ0 := Lib.hid hj0
  have HW := Lib.hid (And.intro hob hwb)
  have hin : ¬ ((0 : Int) ≤ A ∧ A < s.size) := fun h => by omega
  have CC : Hid (∀ p0 h0 wx, J (R u) w a mb ob K A B S s s m (fun p' h' => p' = p0 ∧ h' = h0) wx → Calls Try.prog 26 #[.pointer (some a), .int .i64 A] wx fun e w' => e = .returned (.tuple #[.int .u8 0, .int .i64 2]) ∧ J (R u) w a mb ob K A B S s s m (fun p' h' => p' = p0 ∧ h' = h0) w') := Lib.hid (fun p0 h0 wx hx => by
    have := J.byte S0 hx (by omega) (by omega)
    rw [byteV, if_neg hin, byteE, if_neg hin] at this
    exact this)
  have hd : decide (A < (s.size : Int)) = false := by simpa using hn
  clear hin b2 hn
  have HS := Lib.hid S0
  clear h hj0 hob hwb hK i1 i2 S0
  go_enter Try.func9, Try.ntmps9
  go_wp2_with fail
  rw [← HW.out.2, ← HW.out.1]
  refine (J.pieces HS.out HJ0.out).mono ?_
  rintro e w1 ⟨p0, h0, -, -, rfl, hj1⟩
  obtain ⟨x0, y1, y2, y3, -⟩ := hj1.cells
  have HJ1 := Lib.hid hj1
  clear hj1 z0 z1 z2 z3 z4
  go_wp2_with (go_at_call 11; refine (P1.out _).mono ?_; rintro e w1 ⟨rfl, rfl⟩)
  refine (CC.out _ _ _ HJ1.out).mono ?_
  rintro e w2 ⟨rfl, hj2⟩
  obtain ⟨-, x1, x2, -, x4⟩ := hj2.cells
  have HJT := Lib.hid hj2
  clear hj2 y1 y2 y3 x0
  go_wp2_with fail
  go_quiet (fail)
  generalize nq = n1 at *
  go_wp2_with fail
  go_quiet (fail)
  have hjt := J.drewN HS.out HJT.out (n1 + nq)
  go_wp2_with fail
  refine (J.pieces HS.out hjt).mono ?_
  rintro e w5 ⟨p2, h2, -, ⟨q1, q2, q3, q4, q5⟩, rfl, hj5⟩
  obtain ⟨-, -, -, -, y4⟩ := hj5.cells
  have HJ5 := Lib.hid (hj5.drew HS.out)
  have r1 : (p2 : Int) ≤ s.size := by omega
  have CLE := Lib.hid (fun wx => least_any h2 wx (by omega))
  have HQ := Lib.hid (And.intro q1 q4)
  have HNB := Lib.hid (none_bool q3)
  clear hjt hj5 q1 q2 q3 q4 q5
  go_wp2_with fail
  go_region_held3 (fun wx => wx.cell? ⟨mb, 0, none⟩ = some (.string s))
    (first | exact y4 | assumption)
    (first
      | (go_at_call 16; refine (J.len HS.out HJ5.out).mono ?_; rintro e w6 ⟨rfl, hj6⟩; have hs6 := hj6.cells.2.2.2.2; have HJ6 := Lib.hid hj6; clear hj6)
      | (go_at_call 14; refine (J.text HS.out HJ6.out).mono ?_; rintro e w7 ⟨rfl, hj7⟩; have hs7 := hj7.cells.2.2.2.2; have HJ7 := Lib.hid hj7; clear hj7)
      | (go_at_call 28; refine (J.height HS.out HJ7.out).mono ?_; rintro e w8 ⟨rfl, hj8⟩; have hs8 := hj8.cells.2.2.2.2; have HJ8 := Lib.hid hj8; clear hj8)
      | (go_at_call 27; refine (CLE.out _).mono ?_; rintro e w9 ⟨⟨c, rfl, hc1, -⟩, rfl⟩; have hc : (c : Int) ≤ p2 := (by have := HQ.out.1; omega); clear hc1))
  go_wp2_with fail
  go_ret
  exact ⟨ret_bool HNB.out, HJ8.out.unbox⟩

end Go.Proofs.Ytjpomfjcofjanaa
