/- A step that reads a part. -/
import Derived.Test.YtjpomfjcofjanaaCStep
import Derived.Deep.RegionHeld3
namespace Go.Proofs.Ytjpomfjcofjanaa
open Go Go.RowKit
variable {R : Nat → (Nat → Prop) → World → Addr → ByteArray → Nat → Nat → Nat → Prop} {u : Nat}

theorem J.drewN (S0 : Says R) {w : World} {a : Addr} {mb ob : Nat} {K A B : Int} {S s1 s2 : ByteArray} {m : Nat} {P : Nat → Nat → Prop} {wr : World} (h : J (R u) w a mb ob K A B S s1 s2 m P wr) (n : Nat) : J (R u) w a mb ob K A B S s1 s2 m P (wr.drewN n) :=
  h.turn S0 (h.mod.keep (T := fun _ => True) ⟨Nat.le_refl _, fun _ _ _ => rfl⟩ trivial) ⟨rfl, rfl, rfl, Nat.le_refl _, fun _ _ _ => rfl⟩

set_option maxRecDepth 100000 in
set_option maxHeartbeats 8000000 in
theorem step_cut_yes (S0 : Says R) {w : World} {a : Addr} {mb : Nat} {s : ByteArray} {m : Nat} {wr : World} (h : JJ (R u) w a mb s m wr) (K : Int) (S : ByteArray) (q z : Nat) (hq : q + z ≤ s.size) (hK : K % 7 = 5) :
    Calls Try.prog 9 #[.pointer (some a), .pointer (some ⟨mb, 0, none⟩), .agg #[.int .i64 K, .int .i64 q, .int .i64 z, .string S]] wr fun e w' => e = .returned (.bool true) ∧ JJ (R u) w a mb s m w' := by
  have hj0 := h.box S0 K q z S
  obtain ⟨i1, i2, -⟩ := hj0.inv S0
  have P1 := Lib.hid (fun wx => place_any K 7 wx (by omega) (by omega))
  rw [hK] at P1
  obtain ⟨ob, hob⟩ : ∃ ob, ob = wr.heap.size := ⟨_, rfl⟩
  obtain ⟨wb, hwb⟩ : ∃ wb, wb = wr.alloc (.cells #[.int .i64 K, .int .i64 q, .int .i64 z, .string S] /-t-/32) := ⟨_, rfl⟩
  rw [← hob, ← hwb] at hj0
  obtain ⟨z0, z1, z2, z3, z4⟩ := hj0.cells
  have HJ0 := Lib.hid hj0
  have HW := Lib.hid (And.intro hob hwb)
  have hin : isIn s q z := ⟨by omega, by omega, by omega, by omega⟩
  have CI := Lib.hid (fun wx => in_any s q z wx (by omega) (by omega) (by omega))
  rw [decide_eq_true hin] at CI
  have CC : Hid (∀ p0 h0 wx, J (R u) w a mb ob K q z S s s m (fun p' h' => p' = p0 ∧ h' = h0) wx → Calls Try.prog 17 #[.pointer (some a), .int .i64 q, .int .i64 z] wx fun e w' => e = .returned (.tuple #[.string (s.extract q (q + z)), .int .i64 0]) ∧ J (R u) w a mb ob K q z S s s m (fun p' h' => p' = p0 ∧ h' = h0) w') := Lib.hid (fun p0 h0 wx hx => by
    have := J.cut S0 hx (by omega) (by omega) (by omega) (by omega)
    rw [delE, if_pos hin, cutS, if_pos hin] at this
    exact this)
  have q0 : (0 : Int) ≤ q := by omega
  have z9 : (0 : Int) ≤ z := by omega
  have q1 : (q : Int) ≤ (q : Int) + z := by omega
  have q2 : (q : Int) + z ≤ s.size := by omega
  have q3 : (0 : Int) ≤ (q : Int) + z := by omega
  have q4 : (q : Int) ≤ s.size := by omega
  have hw1 : IntKind.i64.wrap ((q : Int) + z) = (q : Int) + z := IntWalk.i64_in _ (by omega)
  clear hin hq
  have HS := Lib.hid S0
  clear h hj0 hob hwb hK i1 i2 S0
  go_enter Try.func9, Try.ntmps9
  go_wp2_with fail
  rw [← HW.out.2, ← HW.out.1]
  refine (J.pieces HS.out HJ0.out).mono ?_
  rintro e w1 ⟨p0, h0, -, -, rfl, hj1⟩
  obtain ⟨x0, y1, y2, y3, -⟩ := hj1.cells
  have HJ1 := Lib.hid hj1
  clear hj1 z0 z1 z2 z3 z4
  go_wp2_with (go_at_call 11; refine (P1.out _).mono ?_; rintro e w1 ⟨rfl, rfl⟩)
  refine (CC.out _ _ _ HJ1.out).mono ?_
  rintro e w2 ⟨rfl, hj2⟩
  obtain ⟨-, x1, x2, -, x4⟩ := hj2.cells
  have HJT := Lib.hid hj2
  clear hj2 y1 y2 y3 x0
  go_wp2_with fail
  go_quiet ((go_at_call 25; refine (CI.out _).mono ?_; rintro e w3 ⟨rfl, rfl⟩; exact ⟨rfl, _, rfl⟩))
  have hjt := J.drewN HS.out HJT.out nq
  go_wp2_with fail
  refine (J.pieces HS.out hjt).mono ?_
  rintro e w5 ⟨p2, h2, -, ⟨q1, q2, q3, q4, q5⟩, rfl, hj5⟩
  obtain ⟨-, -, -, -, y4⟩ := hj5.cells
  have HJ5 := Lib.hid (hj5.drew HS.out)
  have r1 : (p2 : Int) ≤ s.size := by omega
  have CLE := Lib.hid (fun wx => least_any h2 wx (by omega))
  have HQ := Lib.hid (And.intro q1 q4)
  have HNB := Lib.hid (none_bool q3)
  clear hjt hj5 q1 q2 q3 q4 q5
  go_wp2_with fail
  go_region_held3 (fun wx => wx.cell? ⟨mb, 0, none⟩ = some (.string s))
    (first | exact y4 | assumption)
    (first
      | (go_at_call 16; refine (J.len HS.out HJ5.out).mono ?_; rintro e w6 ⟨rfl, hj6⟩; have hs6 := hj6.cells.2.2.2.2; have HJ6 := Lib.hid hj6; clear hj6)
      | (go_at_call 14; refine (J.text HS.out HJ6.out).mono ?_; rintro e w7 ⟨rfl, hj7⟩; have hs7 := hj7.cells.2.2.2.2; have HJ7 := Lib.hid hj7; clear hj7)
      | (go_at_call 28; refine (J.height HS.out HJ7.out).mono ?_; rintro e w8 ⟨rfl, hj8⟩; have hs8 := hj8.cells.2.2.2.2; have HJ8 := Lib.hid hj8; clear hj8)
      | (go_at_call 27; refine (CLE.out _).mono ?_; rintro e w9 ⟨⟨c, rfl, hc1, -⟩, rfl⟩; have hc : (c : Int) ≤ p2 := (by have := HQ.out.1; omega); clear hc1))
  go_wp2_with fail
  go_ret
  exact ⟨ret_bool HNB.out, HJ8.out.unbox⟩

set_option maxRecDepth 100000 in
set_option maxHeartbeats 8000000 in
theorem step_cut_no (S0 : Says R) {w : World} {a : Addr} {mb : Nat} {s : ByteArray} {m : Nat} {wr : World} (h : JJ (R u) w a mb s m wr) (K A B : Int) (S : ByteArray) (hn : ¬ isIn s A B) (b1 : -9223372036854775808 ≤ A) (b2 : A ≤ 9223372036854775807) (b3 : -9223372036854775808 ≤ B) (b4 : B ≤ 9223372036854775807) (hK : K % 7 = 5) :
    Calls Try.prog 9 #[.pointer (some a), .pointer (some ⟨mb, 0, none⟩), .agg #[.int .i64 K, .int .i64 A, .int .i64 B, .string S]] wr fun e w' => e = .returned (.bool true) ∧ JJ (R u) w a mb s m w' := by
  have hj0 := h.box S0 K A B S
  obtain ⟨i1, i2, -⟩ := hj0.inv S0
  have P1 := Lib.hid (fun wx => place_any K 7 wx (by omega) (by omega))
  rw [hK] at P1
  obtain ⟨ob, hob⟩ : ∃ ob, ob = wr.heap.size := ⟨_, rfl⟩
  obtain ⟨wb, hwb⟩ : ∃ wb, wb = wr.alloc (.cells #[.int .i64 K, .int .i64 A, .int .i64 B, .string S] /-t-/32) := ⟨_, rfl⟩
  rw [← hob, ← hwb] at hj0
  obtain ⟨z0, z1, z2, z3, z4⟩ := hj0.cells
  have HJ0 := Lib.hid hj0
  have HW := Lib.hid (And.intro hob hwb)
  have CI := Lib.hid (fun wx => in_any s A B wx (by omega) b3 b4)
  rw [decide_eq_false hn] at CI
  have CC : Hid (∀ p0 h0 wx, J (R u) w a mb ob K A B S s s m (fun p' h' => p' = p0 ∧ h' = h0) wx → Calls Try.prog 17 #[.pointer (some a), .int .i64 A, .int .i64 B] wx fun e w' => e = .returned (.tuple #[.string ⟨#[]⟩, .int .i64 2]) ∧ J (R u) w a mb ob K A B S s s m (fun p' h' => p' = p0 ∧ h' = h0) w') := Lib.hid (fun p0 h0 wx hx => by
    have := J.cut S0 hx b1 b2 b3 b4
    rw [delE, if_neg hn, cutS, if_neg hn] at this
    exact this)
  clear hn b1 b2 b3 b4
  have HS := Lib.hid S0
  clear h hj0 hob hwb hK i1 i2 S0
  go_enter Try.func9, Try.ntmps9
  go_wp2_with fail
  rw [← HW.out.2, ← HW.out.1]
  refine (J.pieces HS.out HJ0.out).mono ?_
  rintro e w1 ⟨p0, h0, -, -, rfl, hj1⟩
  obtain ⟨x0, y1, y2, y3, -⟩ := hj1.cells
  have HJ1 := Lib.hid hj1
  clear hj1 z0 z1 z2 z3 z4
  go_wp2_with (go_at_call 11; refine (P1.out _).mono ?_; rintro e w1 ⟨rfl, rfl⟩)
  refine (CC.out _ _ _ HJ1.out).mono ?_
  rintro e w2 ⟨rfl, hj2⟩
  obtain ⟨-, x1, x2, -, x4⟩ := hj2.cells
  have HJT := Lib.hid hj2
  clear hj2 y1 y2 y3 x0
  go_wp2_with fail
  go_quiet ((go_at_call 25; refine (CI.out _).mono ?_; rintro e w3 ⟨rfl, rfl⟩; exact ⟨rfl, _, rfl⟩))
  have hjt := J.drewN HS.out HJT.out nq
  go_wp2_with fail
  refine (J.pieces HS.out hjt).mono ?_
  rintro e w5 ⟨p2, h2, -, ⟨q1, q2, q3, q4, q5⟩, rfl, hj5⟩
  obtain ⟨-, -, -, -, y4⟩ := hj5.cells
  have HJ5 := Lib.hid (hj5.drew HS.out)
  have r1 : (p2 : Int) ≤ s.size := by omega
  have CLE := Lib.hid (fun wx => least_any h2 wx (by omega))
  have HQ := Lib.hid (And.intro q1 q4)
  have HNB := Lib.hid (none_bool q3)
  clear hjt hj5 q1 q2 q3 q4 q5
  go_wp2_with fail
  go_region_held3 (fun wx => wx.cell? ⟨mb, 0, none⟩ = some (.string s))
    (first | exact y4 | assumption)
    (first
      | (go_at_call 16; refine (J.len HS.out HJ5.out).mono ?_; rintro e w6 ⟨rfl, hj6⟩; have hs6 := hj6.cells.2.2.2.2; have HJ6 := Lib.hid hj6; clear hj6)
      | (go_at_call 14; refine (J.text HS.out HJ6.out).mono ?_; rintro e w7 ⟨rfl, hj7⟩; have hs7 := hj7.cells.2.2.2.2; have HJ7 := Lib.hid hj7; clear hj7)
      | (go_at_call 28; refine (J.height HS.out HJ7.out).mono ?_; rintro e w8 ⟨rfl, hj8⟩; have hs8 := hj8.cells.2.2.2.2; have HJ8 := Lib.hid hj8; clear hj8)
      | (go_at_call 27; refine (CLE.out _).mono ?_; rintro e w9 ⟨⟨c, rfl, hc1, -⟩, rfl⟩; have hc : (c : Int) ≤ p2 := (by have := HQ.out.1; omega); clear hc1))
  go_wp2_with fail
  go_ret
  exact ⟨ret_bool HNB.out, HJ8.out.unbox⟩

end Go.Proofs.Ytjpomfjcofjanaa
