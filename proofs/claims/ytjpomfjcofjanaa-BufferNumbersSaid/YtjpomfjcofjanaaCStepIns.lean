/- A step that puts a text. -/
import Derived.Test.YtjpomfjcofjanaaCStep
import Derived.Deep.RegionHeld3
namespace Go.Proofs.Ytjpomfjcofjanaa
open Go Go.RowKit
variable {R : Nat → (Nat → Prop) → World → Addr → ByteArray → Nat → Nat → Nat → Prop} {u : Nat}

set_option maxRecDepth 100000 in
set_option maxHeartbeats 8000000 in
theorem step_ins (S0 : Says R) {w : World} {a : Addr} {mb : Nat} {s : ByteArray} {m : Nat} {wr : World} (h : JJ (R u) w a mb s m wr) (K A B : Int) (S : ByteArray) (hS : u + S.size ≤ 1000000) (b1 : -9223372036854775808 ≤ A) (b2 : A ≤ 9223372036854775807) (hK : K % 7 < 3) :
    Calls Try.prog 9 #[.pointer (some a), .pointer (some ⟨mb, 0, none⟩), .agg #[.int .i64 K, .int .i64 A, .int .i64 B, .string S]] wr fun e w' => e = .returned (.bool true) ∧ JJ (R (bump u s m A S)) w a mb (insS s m A S) m w' := by
  have hj0 := h.box S0 K A B S
  obtain ⟨i1, i2, -⟩ := hj0.inv S0
  have K0 := Int.emod_nonneg K (show (7 : Int) ≠ 0 by omega)
  have P1 := Lib.hid (fun wx => place_any K 7 wx (by omega) (by omega))
  generalize K % 7 = k at *
  obtain ⟨ob, hob⟩ : ∃ ob, ob = wr.heap.size := ⟨_, rfl⟩
  obtain ⟨wb, hwb⟩ : ∃ wb, wb = wr.alloc (.cells #[.int .i64 K, .int .i64 A, .int .i64 B, .string S] /-t-/32) := ⟨_, rfl⟩
  rw [← hob, ← hwb] at hj0
  obtain ⟨z0, z1, z2, z3, z4⟩ := hj0.cells
  have HJ0 := Lib.hid hj0
  have HW := Lib.hid (And.intro hob hwb)
  have HX := Lib.hid (And.intro hS (And.intro b1 (And.intro b2 (And.intro i1 i2))))
  have HS := Lib.hid S0
  clear h hj0 hob hwb hS b1 b2 i1 i2 S0
  go_enter Try.func9, Try.ntmps9
  go_wp2_with fail
  rw [← HW.out.2, ← HW.out.1]
  refine (J.pieces HS.out HJ0.out).mono ?_
  rintro e w1 ⟨p0, h0, -, ⟨-, -, -, hp0, -⟩, rfl, hj1⟩
  obtain ⟨-, y1, y2, y3, -⟩ := hj1.cells
  have HJ1 := Lib.hid (hj1.drew HS.out)
  have g0 : (p0 : Int) ≤ 65536 := by omega
  have hw0 : IntKind.i64.wrap ((p0 : Int) + 2) = (p0 : Int) + 2 := IntWalk.i64_in _ (by omega)
  have HJ1' := Lib.hid hj1
  clear hj1 z0 z1 z2 z3 z4
  obtain ⟨x0, -⟩ := HJ1'.out.cells
  go_wp2_with (go_at_call 11; refine (P1.out _).mono ?_; rintro e w1 ⟨rfl, rfl⟩)
  go_region_held3 (fun wx => wx.cell? ⟨ob, 1, none⟩ = some (.int .i64 A) ∧ wx.cell? ⟨ob, 3, none⟩ = some (.string S))
    (first | exact ⟨y1, y3⟩ | assumption)
    (first
      | (go_at_call 13; refine (J.ins HS.out HJ1.out HX.out.1 HX.out.2.1 HX.out.2.2.1).mono ?_; rintro e w2 ⟨rfl, hj2⟩; have hs2 := And.intro hj2.cells.2.1 hj2.cells.2.2.2.1; have HJ2 := Lib.hid hj2; clear hj2)
      | (go_at_call 23; refine (J.mins HS.out HJ2.out (Nat.le_trans HX.out.2.2.2.1 HX.out.2.2.2.2) HX.out.2.2.2.2 (Nat.le_trans (Nat.le_add_left _ _) HX.out.1)).mono ?_; rintro e w3 ⟨rfl, hj3⟩; have hs3 := And.intro hj3.cells.2.1 hj3.cells.2.2.2.1; have HJ3 := Lib.hid hj3; clear hj3)
      | (go_at_call 22; refine (J.pieces HS.out HJ3.out).mono ?_; rintro e w4 ⟨p1, h1, hp1, -, rfl, hj4⟩; have hs4 := And.intro hj4.cells.2.1 hj4.cells.2.2.2.1; have HJ4 := Lib.hid hj4; have hp1' : ((p1 : Nat) : Int) ≤ (p0 : Int) + 2 := (by omega); clear hj4 hp1))
  go_wp2_with fail
  obtain ⟨s', hs'⟩ : ∃ s', s' = insS s m A S := ⟨_, rfl⟩
  have hjt := HJ4.out
  rw [← hs'] at hjt
  have HE' := Lib.hid hs'
  clear hs'
  refine (J.pieces HS.out hjt).mono ?_
  rintro e w5 ⟨p2, h2, -, ⟨q1, q2, q3, q4, q5⟩, rfl, hj5⟩
  obtain ⟨-, -, -, -, y4⟩ := hj5.cells
  have HJ5 := Lib.hid (hj5.drew HS.out)
  have r1 : (p2 : Int) ≤ s'.size := by omega
  have CLE := Lib.hid (fun wx => least_any h2 wx (by omega))
  have HQ := Lib.hid (And.intro q1 q4)
  have HNB := Lib.hid (none_bool q3)
  clear hjt hj5 q1 q2 q3 q4 q5
  go_wp2_with fail
  go_region_held3 (fun wx => wx.cell? ⟨mb, 0, none⟩ = some (.string s'))
    (first | exact y4 | assumption)
    (first
      | (go_at_call 16; refine (J.len HS.out HJ5.out).mono ?_; rintro e w6 ⟨rfl, hj6⟩; have hs6 := hj6.cells.2.2.2.2; have HJ6 := Lib.hid hj6; clear hj6)
      | (go_at_call 14; refine (J.text HS.out HJ6.out).mono ?_; rintro e w7 ⟨rfl, hj7⟩; have hs7 := hj7.cells.2.2.2.2; have HJ7 := Lib.hid hj7; clear hj7)
      | (go_at_call 28; refine (J.height HS.out HJ7.out).mono ?_; rintro e w8 ⟨rfl, hj8⟩; have hs8 := hj8.cells.2.2.2.2; have HJ8 := Lib.hid hj8; clear hj8)
      | (go_at_call 27; refine (CLE.out _).mono ?_; rintro e w9 ⟨⟨c, rfl, hc1, -⟩, rfl⟩; have hc : (c : Int) ≤ p2 := (by have := HQ.out.1; omega); clear hc1))
  go_wp2_with fail
  go_ret
  exact ⟨ret_bool HNB.out, by rw [← HE'.out]; exact HJ8.out.unbox⟩
end Go.Proofs.Ytjpomfjcofjanaa
