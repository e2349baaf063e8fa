/- Stage 16's law DictForms. -/
import Derived.Test.YtfehpcbmdancoaaGreatDoorPaNPlace
import Derived.Test.YtfehpcbmdancoaaGreatDoorPaXDict
import Derived.Test.YtfehpcbmdancoaaGreatDoorPaXFormW
namespace Go.Proofs.YtfehpcbmdancoaaGreatDoor
open Go Go.RowKit Go.Lib

set_option maxRecDepth 100000 in
set_option maxHeartbeats 1000000 in
theorem forms16_law (w : World) (hT : Tabs9 w) (x y : Int) (_hx : -9223372036854775808 ≤ x ∧ x ≤ 9223372036854775807) (_hy : -9223372036854775808 ≤ y ∧ y ≤ 9223372036854775807) :
    Calls Tryz.prog 7 #[.int .i64 x, .int .i64 y] w fun e w' => e = .returned (.bool true) ∧ Below w.heap.size w w' := by
  have CX := Lib.hid (fun wx => place9 x 20 wx (by omega) (by omega))
  have CY := Lib.hid (fun wx => place9 y 9 wx (by omega) (by omega))
  obtain ⟨k0, hk, hk5⟩ : ∃ k : Nat, x % 20 = k ∧ k < 20 := ⟨(x % 20).toNat, by omega, by omega⟩
  obtain ⟨j0, hj, hj9⟩ : ∃ k : Nat, y % 9 = k ∧ k < 9 := ⟨(y % 9).toNat, by omega, by omega⟩
  rw [hk] at CX
  rw [hj] at CY
  have FN := formN ⟨k0, hk5⟩ ⟨j0, hj9⟩
  have FH := formH ⟨k0, hk5⟩ ⟨j0, hj9⟩
  have FX := formX ⟨k0, hk5⟩ ⟨j0, hj9⟩
  have FD := formD ⟨k0, hk5⟩ ⟨j0, hj9⟩
  obtain ⟨es, ez⟩ := stemE ⟨k0 + 1, by omega⟩
  obtain ⟨eu, ep, euz, epz⟩ := sufE ⟨j0 + 1, by omega⟩
  obtain ⟨fz1, fz2⟩ := formS ⟨k0 + 1, by omega⟩ ⟨j0 + 1, by omega⟩
  dsimp only at FN FH FX FD es ez eu ep euz epz fz1 fz2
  have ek : (1 : Int) + (k0 : Int) = ((k0 + 1 : Nat) : Int) := by omega
  have ej : (1 : Int) + (j0 : Int) = ((j0 + 1 : Nat) : Int) := by omega
  obtain ⟨k, hkk⟩ : ∃ k, k = k0 + 1 := ⟨_, rfl⟩
  obtain ⟨j, hjj⟩ : ∃ j, j = j0 + 1 := ⟨_, rfl⟩
  rw [← hkk] at FN FH FX FD es ez fz2 ek
  rw [← hjj] at FN FH FX FD eu ep euz epz fz1 ej
  have wk : IntKind.i64.wrap (1 + (k0 : Int)) = (k : Int) := by rw [ek]; exact IntWalk.i64_in _ (by omega)
  have wj : IntKind.i64.wrap (1 + (j0 : Int)) = (j : Int) := by rw [ej]; exact IntWalk.i64_in _ (by omega)
  have k21 : (k : Int) ≤ 21 := by omega
  have j9 : (j : Int) ≤ 9 := by omega
  have k00 : (0 : Int) ≤ k := by omega
  have j00 : (0 : Int) ≤ j := by omega
  obtain ⟨sm, hsm⟩ : ∃ s, s = stemW k := ⟨_, rfl⟩
  obtain ⟨su, hsu⟩ : ∃ s, s = sufW j := ⟨_, rfl⟩
  obtain ⟨pr, hpr⟩ : ∃ s, s = preW j := ⟨_, rfl⟩
  unfold affW at FN fz1
  unfold lstW at FN fz2
  rw [← hsm] at FN FH FX FD es ez fz2
  rw [← hsu] at FN FH FX FD eu euz fz1
  rw [← hpr] at FN FH FX FD ep epz fz1
  have HT := Lib.hid hT
  have HF := Lib.hid (And.intro FN (And.intro FH (And.intro FX (And.intro FD (And.intro fz1 fz2)))))
  have HK := Lib.hid (And.intro k21 j9)
  clear hk hj _hx _hy hT hkk hjj hsm hsu hpr FN FH FX FD fz1 fz2 ek ej
  go_enter Tryz.func7, Tryz.ntmps7
  go_upto_region 2 with (first
    | (go_at_call 27; with_reducible refine (CX.out _).mono ?_; rintro e w1 ⟨rfl, rfl⟩)
    | (go_at_call 27; with_reducible refine (CY.out _).mono ?_; rintro e w1 ⟨rfl, rfl⟩))
  have CN := Lib.hid (fun wx (hb : Below w.heap.size w wx) => new_lg (w0 := w) _ _ (Nat.le_trans HF.out.2.2.2.2.1 (by decide)) (Nat.le_trans HF.out.2.2.2.2.2 (by decide)) (tabs_below HT.out hb) hb HF.out.1)
  have ZS := Lib.hid (show (sm ++ su).size ≤ 1000 ∧ (pr ++ sm).size ≤ 1000 ∧ (pr ++ sm ++ su).size ≤ 1000 ∧ (pr ++ su).size ≤ 1000 ∧ (sm ++ pr).size ≤ 1000 ∧ sm.size ≤ 1000 ∧ su.size ≤ 1000 ∧ pr.size ≤ 1000 from by
    have hz : ∀ u v : ByteArray, (u ++ v).size = u.size + v.size := fun u v => ByteArray.size_append
    have := HK.out.1
    have := HK.out.2
    simp only [hz, ez, euz, epz]
    omega)
  go_upto_region 3 with fail
  go_region
  generalize hwd : w.drew = wd
  have HWD := Lib.hid (show Below w.heap.size w wd from by rw [← hwd]; exact (Below.refl _ _).drew)
  clear hwd
  go_wp2_with fail
  refine (CN.out _ HWD.out).mono ?_
  rintro e w1 ⟨p, rfl, hl, hb⟩
  have H1 := Lib.hid hl
  clear hl hb
  go_wp2_with fail
  refine (H1.out.forms (n := 4) rfl).mono ?_
  rintro e w2 ⟨A, cap, rfl, -, hb⟩
  have H2 := Lib.hid (H1.out.keep hb)
  clear hb
  go_wp2_with fail
  refine (H2.out.has (b := true) (Nat.le_trans (ZS.out.2.2.2.2.2.1) (by decide)) (HF.out.2.1.1)).mono ?_
  rintro e w3 ⟨rfl, hb⟩
  have H3 := Lib.hid (H2.out.keep hb)
  clear hb
  go_wp2_with fail
  refine (H3.out.has (b := true) (Nat.le_trans (ZS.out.1) (by decide)) (HF.out.2.1.2.1)).mono ?_
  rintro e w4 ⟨rfl, hb⟩
  have H4 := Lib.hid (H3.out.keep hb)
  clear hb
  go_wp2_with fail
  refine (H4.out.has (b := true) (Nat.le_trans (ZS.out.2.1) (by decide)) (HF.out.2.1.2.2.1)).mono ?_
  rintro e w5 ⟨rfl, hb⟩
  have H5 := Lib.hid (H4.out.keep hb)
  clear hb
  go_wp2_with fail
  refine (H5.out.has (b := true) (Nat.le_trans (ZS.out.2.2.1) (by decide)) (HF.out.2.1.2.2.2)).mono ?_
  rintro e w6 ⟨rfl, hb⟩
  have H6 := Lib.hid (H5.out.keep hb)
  clear hb
  go_wp2_with fail
  refine (H6.out.has (b := false) (Nat.le_trans (ZS.out.2.2.2.2.2.2.1) (by decide)) (HF.out.2.2.1.1)).mono ?_
  rintro e w7 ⟨rfl, hb⟩
  have H7 := Lib.hid (H6.out.keep hb)
  clear hb
  go_wp2_with fail
  refine (H7.out.has (b := false) (Nat.le_trans (ZS.out.2.2.2.2.2.2.2) (by decide)) (HF.out.2.2.1.2.1)).mono ?_
  rintro e w8 ⟨rfl, hb⟩
  have H8 := Lib.hid (H7.out.keep hb)
  clear hb
  go_wp2_with fail
  refine (H8.out.has (b := false) (Nat.le_trans (ZS.out.2.2.2.1) (by decide)) (HF.out.2.2.1.2.2.1)).mono ?_
  rintro e w9 ⟨rfl, hb⟩
  have H9 := Lib.hid (H8.out.keep hb)
  clear hb
  go_wp2_with fail
  refine (H9.out.has (b := false) (Nat.le_trans (ZS.out.2.2.2.2.1) (by decide)) (HF.out.2.2.1.2.2.2)).mono ?_
  rintro e w10 ⟨rfl, hb⟩
  have H10 := Lib.hid (H9.out.keep hb)
  clear hb
  go_wp2_with fail
  refine H10.out.auto.mono ?_
  rintro e w11 ⟨q, rfl, -, hw⟩
  obtain rfl : w10 = w11 := hw.symm
  go_wp2_with fail
  refine H10.out.auto.mono ?_
  rintro e w12 ⟨q2, rfl, HA, hw⟩
  obtain rfl : w10 = w12 := hw.symm
  have CHA := Lib.hid (show Calls Tryz.prog 24 #[.pointer (some ⟨q2, 0, none⟩), .string (pr ++ sm ++ su)] w10 fun e w' => e = .returned (.bool true) ∧ Below w10.heap.size w10 w' from by
    obtain ⟨g, st, a1, a2⟩ := HA.out
    have h9 := Dw.has_auto w10 q2 g st _ a1 a2.start (pr ++ sm ++ su) (Nat.le_trans ZS.out.2.2.1 (by decide))
    rwa [decide_eq_true HF.out.2.2.2.1] at h9)
  go_wp2_with fail
  refine CHA.out.mono ?_
  rintro e w13 ⟨rfl, hb⟩
  have H13 := Lib.hid (H10.out.keep hb)
  clear hb
  go_wp2_with fail
  refine (awake16_any _ H13.out.tabs).mono ?_
  rintro e w14 ⟨rfl, hb⟩
  have H14 := Lib.hid (H13.out.keep hb)
  clear hb
  go_wp2_with fail
  go_ret
  exact ⟨rfl, H14.out.below⟩
end Go.Proofs.YtfehpcbmdancoaaGreatDoor
