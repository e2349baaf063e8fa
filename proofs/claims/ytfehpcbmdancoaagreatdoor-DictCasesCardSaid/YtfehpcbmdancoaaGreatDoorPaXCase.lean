/- Stage 16's law DictCases. -/
import Derived.Deep.RegionHeld3
import Derived.Test.YtfehpcbmdancoaaGreatDoorPaNPlace
import Derived.Test.YtfehpcbmdancoaaGreatDoorPaXCaseW
import Derived.Test.YtfehpcbmdancoaaGreatDoorPaXDict
namespace Go.Proofs.YtfehpcbmdancoaaGreatDoor
open Go Go.RowKit Go.Lib

set_option maxRecDepth 100000 in
set_option maxHeartbeats 1000000 in
theorem cases16_law (w : World) (hT : Tabs9 w) (x y : Int) (_hx : -9223372036854775808 ≤ x ∧ x ≤ 9223372036854775807) (_hy : -9223372036854775808 ≤ y ∧ y ≤ 9223372036854775807) :
    Calls Tryz.prog 5 #[.int .i64 x, .int .i64 y] w fun e w' => e = .returned (.bool true) ∧ Below w.heap.size w w' := by
  have CX := Lib.hid (fun wx => place9 x 8 wx (by omega) (by omega))
  obtain ⟨k0, hk, hk5⟩ : ∃ k : Nat, x % 8 = k ∧ k < 8 := ⟨(x % 8).toNat, by omega, by omega⟩
  rw [hk] at CX
  obtain ⟨FN1, FN2⟩ := caseN ⟨k0, hk5⟩
  obtain ⟨es, eg, eg1, es1, ez, gz, z1⟩ := caseE ⟨k0, hk5⟩
  have FH := caseH ⟨k0, hk5⟩
  have CY := Lib.hid (fun wx => place9 y ((k0 + 1 : Nat) : Int) wx (by omega) (by omega))
  obtain ⟨i0, hi, hi5⟩ : ∃ i : Nat, y % ((k0 + 1 : Nat) : Int) = i ∧ i ≤ k0 := ⟨(y % ((k0 + 1 : Nat) : Int)).toNat, by have := Int.emod_nonneg y (show ((k0 + 1 : Nat) : Int) ≠ 0 by omega); omega, by have := Int.emod_lt_of_pos y (show (0 : Int) < ((k0 + 1 : Nat) : Int) by omega); omega⟩
  rw [hi] at CY
  obtain ⟨ea, eb, ec, az, bz, cz⟩ := caseI ⟨k0, hk5⟩ ⟨i0, by omega⟩ hi5
  have FO := caseO ⟨k0, hk5⟩ ⟨i0, by omega⟩ hi5
  dsimp only at FN1 FN2 es eg eg1 es1 ez gz z1 FH ea eb ec az bz cz FO
  obtain ⟨k, hkk⟩ : ∃ k, k = k0 + 2 := ⟨_, rfl⟩
  obtain ⟨i, hii⟩ : ∃ i, i = i0 + 1 := ⟨_, rfl⟩
  rw [← hkk] at FN1 FN2 es eg eg1 es1 ez gz z1 FH ea eb ec cz FO
  rw [← hii] at ea eb ec az bz cz FO
  have wk : IntKind.i64.wrap (2 + (k0 : Int)) = (k : Int) := by rw [IntWalk.i64_in _ (by omega)]; omega
  have wk1 : IntKind.i64.wrap ((k : Int) - 1) = ((k0 + 1 : Nat) : Int) := by rw [IntWalk.i64_in _ (by omega)]; omega
  have wi : IntKind.i64.wrap (1 + (i0 : Int)) = (i : Int) := by rw [IntWalk.i64_in _ (by omega)]; omega
  have wi1 : IntKind.i64.wrap ((i : Int) + 1) = ((i + 1 : Nat) : Int) := by rw [IntWalk.i64_in _ (by omega)]; omega
  have k12 : (k : Int) ≤ 12 := by omega
  have k1 : (1 : Int) ≤ k := by omega
  have k00 : (0 : Int) ≤ k := by omega
  have i00 : (0 : Int) ≤ i := by omega
  have ik : (i : Int) ≤ k := by omega
  have ik1 : ((i + 1 : Nat) : Int) ≤ k := by omega
  have ii1 : (i : Int) ≤ ((i + 1 : Nat) : Int) := by omega
  have i01 : (0 : Int) ≤ ((i + 1 : Nat) : Int) := by omega
  obtain ⟨sm, hsm⟩ : ∃ s, s = smW k := ⟨_, rfl⟩
  obtain ⟨gr, hgr⟩ : ∃ s, s = grW k := ⟨_, rfl⟩
  obtain ⟨s1, hs1⟩ : ∃ s, s = s1W k := ⟨_, rfl⟩
  obtain ⟨sa, hsa⟩ : ∃ s, s = smW i := ⟨_, rfl⟩
  obtain ⟨gb, hgb⟩ : ∃ s, s = gbW i := ⟨_, rfl⟩
  obtain ⟨sc, hsc⟩ : ∃ s, s = scW k (i + 1) := ⟨_, rfl⟩
  rw [← hsm] at FN1 es es1 ez FH ea ec
  rw [← hgr] at eg eg1 gz FH eb
  rw [← hs1] at FN2 es1 z1 FH
  rw [← hsa] at ea az FO
  rw [← hgb] at eb bz FO
  rw [← hsc] at ec cz FO
  have f1 : ¬ 9223372036854775807 < 1 + (k0 + 1) := by omega
  have f2 : ¬ 9223372036854775807 < 1 + (k0 + 1) + 1 := by omega
  have f3 : ¬ 9223372036854775807 < i + 1 := by omega
  have f4 : ¬ 9223372036854775807 < i + 1 + sc.size := by omega
  have HT := Lib.hid hT
  have HF := Lib.hid (And.intro FN1 (And.intro FN2 (And.intro FH FO)))
  have HZ := Lib.hid (show sm.size ≤ 1000 ∧ gr.size ≤ 1000 ∧ (⟨#[65]⟩ ++ s1 : ByteArray).size ≤ 1000 ∧ (sa ++ gb ++ sc).size ≤ 1000 ∧ (sm ++ ⟨#[10]⟩ : ByteArray).size ≤ 1000 ∧ (⟨#[65]⟩ ++ s1 ++ ⟨#[10]⟩ : ByteArray).size ≤ 1000 from by
    have hz : ∀ u v : ByteArray, (u ++ v).size = u.size + v.size := fun u v => ByteArray.size_append
    have h1 : (⟨#[65]⟩ : ByteArray).size = 1 := rfl
    have h2 : (⟨#[10]⟩ : ByteArray).size = 1 := rfl
    simp only [hz, ez, gz, z1, az, bz, h1, h2]
    omega)
  clear hk hi _hx _hy hT hkk hii hsm hgr hs1 hsa hgb hsc FN1 FN2 FH FO
  go_enter Tryz.func5, Tryz.ntmps5
  go_upto_region 2 with (go_at_call 27; refine (CX.out _).mono ?_; rintro e w1 ⟨rfl, rfl⟩)
  go_region
  generalize hwd : w.drew = wd
  have HWD := Lib.hid (show Below w.heap.size w wd from by rw [← hwd]; exact (Below.refl _ _).drew)
  clear hwd
  have CN := Lib.hid (new_lg (w0 := w) _ _ (by decide) (Nat.le_trans HZ.out.2.2.2.2.1 (by decide)) (tabs_below HT.out HWD.out) HWD.out HF.out.1)
  go_upto_region 4 with (go_at_call 10; refine CN.out.mono ?_; rintro e w1 ⟨p, rfl, hl, hb⟩; have H1 := Lib.hid hl; clear hl hb)
  have HB1 := Lib.hid (show Below w.heap.size w w1.drew from H1.out.below.drew)
  have CM := Lib.hid (new_lg (w0 := w) (w := w1.drew) _ _ (by decide) (Nat.le_trans HZ.out.2.2.2.2.2 (by decide)) (tabs_below HT.out HB1.out) HB1.out HF.out.2.1)
  go_region_held3 (fun wx => True)
    (first | trivial)
    (first | (go_at_call 10; refine CM.out.mono ?_; rintro e w2 ⟨c, rfl, hl, hb⟩; have H2 := Lib.hid (And.intro (H1.out.keep ((Below.refl _ _).drew.trans hb)) hl); clear hl hb))
  go_upto_region 8 with (go_at_call 27; refine (CY.out _).mono ?_; rintro e w3 ⟨rfl, rfl⟩)
  go_region
  generalize hwd : w2.drew = w3
  have H3 := Lib.hid (show Lg w w3 p (dSm k) ∧ Lg w w3 c (dTi k) from by rw [← hwd]; exact ⟨H2.out.1.keep (Below.refl _ _).drew, H2.out.2.keep (Below.refl _ _).drew⟩)
  clear hwd
  go_upto_region 9 with fail
  go_region
  generalize hwd : w3.drew = w4
  have H4 := Lib.hid (show Lg w w4 p (dSm k) ∧ Lg w w4 c (dTi k) from by rw [← hwd]; exact ⟨H3.out.1.keep (Below.refl _ _).drew, H3.out.2.keep (Below.refl _ _).drew⟩)
  clear hwd
  go_wp2_with fail
  refine (H4.out.1.has (b := true) (Nat.le_trans (HZ.out.1) (by decide)) (HF.out.2.2.1.1)).mono ?_
  rintro e w5 ⟨rfl, hb⟩
  have H5 := Lib.hid (And.intro (H4.out.1.keep hb) (H4.out.2.keep hb))
  clear hb
  go_wp2_with fail
  refine (H5.out.1.has (b := true) (Nat.le_trans (HZ.out.2.2.1) (by decide)) (HF.out.2.2.1.2.1)).mono ?_
  rintro e w6 ⟨rfl, hb⟩
  have H6 := Lib.hid (And.intro (H5.out.1.keep hb) (H5.out.2.keep hb))
  clear hb
  go_wp2_with fail
  refine (H6.out.1.has (b := true) (Nat.le_trans (HZ.out.2.1) (by decide)) (HF.out.2.2.1.2.2.1)).mono ?_
  rintro e w7 ⟨rfl, hb⟩
  have H7 := Lib.hid (And.intro (H6.out.1.keep hb) (H6.out.2.keep hb))
  clear hb
  go_wp2_with fail
  refine (H7.out.1.has (b := false) (Nat.le_trans (HZ.out.2.2.2.1) (by decide)) (HF.out.2.2.2.1)).mono ?_
  rintro e w8 ⟨rfl, hb⟩
  have H8 := Lib.hid (And.intro (H7.out.1.keep hb) (H7.out.2.keep hb))
  clear hb
  go_wp2_with fail
  refine (H8.out.2.has (b := false) (Nat.le_trans (HZ.out.1) (by decide)) (HF.out.2.2.1.2.2.2.1)).mono ?_
  rintro e w9 ⟨rfl, hb⟩
  have H9 := Lib.hid (And.intro (H8.out.1.keep hb) (H8.out.2.keep hb))
  clear hb
  go_wp2_with fail
  refine (H9.out.2.has (b := true) (Nat.le_trans (HZ.out.2.2.1) (by decide)) (HF.out.2.2.1.2.2.2.2.1)).mono ?_
  rintro e w10 ⟨rfl, hb⟩
  have H10 := Lib.hid (And.intro (H9.out.1.keep hb) (H9.out.2.keep hb))
  clear hb
  go_wp2_with fail
  refine (H10.out.2.has (b := true) (Nat.le_trans (HZ.out.2.1) (by decide)) (HF.out.2.2.1.2.2.2.2.2.1)).mono ?_
  rintro e w11 ⟨rfl, hb⟩
  have H11 := Lib.hid (And.intro (H10.out.1.keep hb) (H10.out.2.keep hb))
  clear hb
  go_wp2_with fail
  refine (H11.out.2.has (b := false) (Nat.le_trans (HZ.out.2.2.2.1) (by decide)) (HF.out.2.2.2.2)).mono ?_
  rintro e w12 ⟨rfl, hb⟩
  have H12 := Lib.hid (And.intro (H11.out.1.keep hb) (H11.out.2.keep hb))
  clear hb
  go_wp2_with fail
  refine (H12.out.1.is (b := false) (Nat.le_trans (HZ.out.2.2.1) (by decide)) (HF.out.2.2.1.2.2.2.2.2.2.1)).mono ?_
  rintro e w13 ⟨rfl, hb⟩
  have H13 := Lib.hid (And.intro (H12.out.1.keep hb) (H12.out.2.keep hb))
  clear hb
  go_wp2_with fail
  refine (H13.out.2.is (b := true) (Nat.le_trans (HZ.out.2.2.1) (by decide)) (HF.out.2.2.1.2.2.2.2.2.2.2.1)).mono ?_
  rintro e w14 ⟨rfl, hb⟩
  have H14 := Lib.hid (And.intro (H13.out.1.keep hb) (H13.out.2.keep hb))
  clear hb
  go_wp2_with fail
  refine (H14.out.1.has (s := ⟨#[]⟩) (b := false) (by decide) (HF.out.2.2.1.2.2.2.2.2.2.2.2)).mono ?_
  rintro e w15 ⟨rfl, hb⟩
  have H15 := Lib.hid (And.intro (H14.out.1.keep hb) (H14.out.2.keep hb))
  clear hb
  go_wp2_with fail
  refine (awake16_any _ H15.out.1.tabs).mono ?_
  rintro e w16 ⟨rfl, hb⟩
  have H16 := Lib.hid (H15.out.1.keep hb)
  clear hb
  go_wp2_with fail
  go_ret
  exact ⟨rfl, H16.out.below⟩
end Go.Proofs.YtfehpcbmdancoaaGreatDoor
