/- The landed reader's pair by contract. -/
import Derived.Test.YteenleedonmkmaaGreatDoorWTake
import Derived.Test.YteenleedonmkmaaGreatDoorVTwo
import Derived.Test.YteenleedonmkmaaGreatDoorMCodes
import Derived.Deep.RegionHeld3
import Derived.StillTailTactics
import Derived.Lib.Strings
namespace Go.Proofs.YteenleedonmkmaaGreatDoor
open Go Go.RowKit Go.Lib

theorem case_yes {s : ByteArray} (h : s.data.toList.take 5 = caseW) (w : World) :
    Calls Tryz.prog 55 #[.string s, .string ⟨#[67, 65, 83, 69, 32]⟩] w fun e w' => e = .returned (.tuple #[.string ⟨(s.data.toList.drop 5).toArray⟩, .bool true]) ∧ w' = w := by
  have hc := Tryz.strings_CutPrefix s ⟨#[67, 65, 83, 69, 32]⟩ w
  have hp : Lib.hasPrefix s.data.toList (⟨#[67, 65, 83, 69, 32]⟩ : ByteArray).data.toList = true := by
    unfold Lib.hasPrefix
    rw [List.isPrefixOf_iff_prefix]
    refine ⟨s.data.toList.drop 5, ?_⟩
    have := List.take_append_drop 5 s.data.toList
    rw [h] at this
    exact this
  unfold Lib.trimPrefix at hc
  rw [hp, if_pos rfl] at hc
  exact hc
theorem case_no {s : ByteArray} (h : s.data.toList.take 5 ≠ caseW) (w : World) :
    Calls Tryz.prog 55 #[.string s, .string ⟨#[67, 65, 83, 69, 32]⟩] w fun e w' => e = .returned (.tuple #[.string s, .bool false]) ∧ w' = w := by
  have hc := Tryz.strings_CutPrefix s ⟨#[67, 65, 83, 69, 32]⟩ w
  have hp : Lib.hasPrefix s.data.toList (⟨#[67, 65, 83, 69, 32]⟩ : ByteArray).data.toList = false := by
    unfold Lib.hasPrefix
    rw [Bool.eq_false_iff]
    intro he
    rw [List.isPrefixOf_iff_prefix] at he
    obtain ⟨t, ht⟩ := he
    refine h ?_
    rw [← ht]
    rfl
  unfold Lib.trimPrefix at hc
  rw [hp, if_neg (by decide)] at hc
  have hs : (⟨s.data.toList.toArray⟩ : ByteArray) = s := by cases s; simp
  rw [hs] at hc
  exact hc
theorem ok_taken (ps : List (Int × Int)) (g s : Int) (h : (g == s) = false) : okPair ps g s = !([g, s].any (takenP ps)) := by
  unfold okPair
  rw [h]
  simp only [List.any_cons, List.any_nil, takenP]
  cases plainC g <;> cases plainC s <;> cases usedP ps g <;> cases usedP ps s <;> rfl

set_option maxRecDepth 100000 in
set_option maxHeartbeats 1000000 in
theorem wpair_any (w : World) (H : Nat) (v : Value) (ps : List (Int × Int)) (s : ByteArray) (hv : w.cell? ⟨H, 1, none⟩ = some v) (hH : H < w.heap.size) (h : PairsAt w v ps) (hs : s.size ≤ 1000000000)
    (hT : Lib.Utf8Tabs 1 2 w) :
    Calls Tryz.prog 27 #[.pointer (some ⟨H, 0, none⟩), .string s] w fun e w' => PairE e (pairL ps s.data.toList) ∧ Below w.heap.size w w' := by
  obtain ⟨W0, hW0⟩ : ∃ W0, W0 = w.alloc (.cells #[.int .i64 0, .int .i64 0] 48) := ⟨_, rfl⟩
  have hb0 : Below w.heap.size w W0 := by rw [hW0]; exact (Below.refl _ _).alloc (Nat.le_refl _) _
  have HB := Lib.hid hb0
  have BX := Lib.hid (show ∀ wx, Below W0.heap.size W0 wx → _ from fun wx hb => And.intro (box2 (hW0 ▸ hb)) (box2f (hW0 ▸ hb)))
  have HW0 := Lib.hid hW0
  have hH0 : H < W0.heap.size := Nat.lt_of_lt_of_le hH hb0.size
  have hv0 := (hb0.cell (p := ⟨H, 1, none⟩) hH).trans hv
  have CT := Lib.hid (fun wx (hb : Below W0.heap.size W0 wx) u cs (hc : IntsAt wx u cs) => wci_any wx H v u ps cs ((hb.cell (p := ⟨H, 1, none⟩) hH0).trans hv0) (Nat.lt_of_lt_of_le hH0 hb.size) ((h.keep hb0).keep hb) hc)
  obtain ⟨o, ho⟩ : ∃ o, o = pairL ps s.data.toList := ⟨_, rfl⟩
  rw [← ho]
  have HO := Lib.hid ho
  have hT0 := tabs_below hT hb0
  clear ho h hv hv0 hH hT hb0
  by_cases hc5 : s.data.toList.take 5 = caseW
  case neg =>
    have HZ := Lib.hid (show o = none from HO.out.trans (pairL_head hc5))
    have CP := Lib.hid (case_no hc5)
    clear hc5 hT0 CT
    go_enter Tryz.func27, Tryz.ntmps27
    go_upto_region 1 with fail
    rw [← HW0.out]
    clear hW0
    obtain ⟨⟨x0, x1⟩, fz⟩ := BX.out W0 (Below.refl _ _)
    go_wp2_with (go_at_call 55; refine (CP.out _).mono ?_; rintro e w1 ⟨rfl, rfl⟩)
    exact bodyPost_ret (v := .tuple #[.agg #[.int .i64 0, .int .i64 0], .bool false]) (by simp [results, Tryz.results27, go_sem, x0, x1]) rfl ⟨PairE.none HZ.out rfl, put2_below HB.out (Nat.le_refl _) _ _⟩
  have CP := Lib.hid (case_yes hc5)
  have CC := Lib.hid (codes_any ⟨(s.data.toList.drop 5).toArray⟩ W0 (by
    show (s.data.toList.drop 5).toArray.size ≤ _
    rw [List.size_toArray, List.length_drop]
    have : s.data.toList.length = s.size := (Lib.size_eq s).symm
    omega) hT0)
  have hdd : (⟨(s.data.toList.drop 5).toArray⟩ : ByteArray).data.toList = s.data.toList.drop 5 := by simp
  rw [hdd] at CC
  have HC5 := Lib.hid hc5
  obtain ⟨S5, hS5⟩ : ∃ S : ByteArray, S = ⟨(s.data.toList.drop 5).toArray⟩ := ⟨_, rfl⟩
  rw [← hS5] at CP CC
  clear hc5 hdd hT0 hS5
  go_enter Tryz.func27, Tryz.ntmps27
  go_upto_region 1 with fail
  rw [← HW0.out]
  clear hW0
  go_wp2_with (first
    | (go_at_call 55; refine (CP.out _).mono ?_; rintro e w1 ⟨rfl, rfl⟩)
    | (go_at_call 56; refine CC.out.mono ?_))
  rintro e w1 ⟨v1, rfl, hown, hb1⟩
  have hin := v_own hown rfl
  obtain ⟨D, dc, rfl, hD⟩ := ints_open hin
  obtain ⟨⟨x0, x1⟩, fz⟩ := BX.out w1 hb1
  have HX1 := Lib.hid hb1
  have HB1 := Lib.hid (HB.out.trans (hb1.mono HB.out.size))
  have CX := Lib.hid (fun wx (hb : Below w1.heap.size w1 wx) => CT.out wx (HX1.out.trans (hb.mono HX1.out.size)) _ _ (hin.keep hb))
  clear hown hin hb1 CC CP CT
  obtain ⟨cs, hcs⟩ : ∃ cs, cs = codesL (s.data.toList.drop 5) := ⟨_, rfl⟩
  rw [← hcs] at hD CX ⊢
  obtain ⟨bv, hbv⟩ : ∃ b, b = validD (s.data.toList.drop 5) := ⟨_, rfl⟩
  rw [← hbv]
  have HCS := Lib.hid (And.intro hcs hbv)
  obtain ⟨n, hn⟩ : ∃ n, n = cs.length := ⟨_, rfl⟩
  rw [← hn] at hD CX ⊢
  have HD := Lib.hid hD
  clear hcs hbv hD
  cases bv with
  | false =>
    have HZ := Lib.hid (show o = none from HO.out.trans (pairL_codes (.inl HCS.out.2.symm)))
    clear hn CX
    go_upto_region 5 with fail
    go_quiet (fail)
    go_wp2_with fail
    exact bodyPost_ret (v := .tuple #[.agg #[.int .i64 0, .int .i64 0], .bool false]) (by simp [results, Tryz.results27, go_sem, x0, x1]) rfl ⟨PairE.none HZ.out rfl, put2_below (below_drewN HB1.out _) (Nat.le_refl _) _ _⟩
  | true =>
    by_cases hn2 : n = 2
    case neg =>
      have HZ := Lib.hid (show o = none from HO.out.trans (pairL_codes (.inr (by rw [← HCS.out.1, ← hn]; exact hn2))))
      have hne2 : ((n : Int) == 2) = false := by simp; omega
      have hne3 : ((n : Int) != 2) = true := by rw [bne, hne2]; rfl
      clear hn hn2 CX
      go_upto_region 5 with fail
      go_quiet (fail)
      go_wp2_with fail
      exact bodyPost_ret (v := .tuple #[.agg #[.int .i64 0, .int .i64 0], .bool false]) (by simp [results, Tryz.results27, go_sem, x0, x1]) rfl ⟨PairE.none HZ.out rfl, put2_below (below_drewN HB1.out _) (Nat.le_refl _) _ _⟩
    subst hn2
    obtain ⟨g, t, rfl⟩ : ∃ g t, cs = [g, t] := by
      match cs, hn with
      | [g, t], _ => exact ⟨g, t, rfl⟩
    obtain ⟨q, oo, rfl, hq, hcap, c0⟩ := HD.out 0 g rfl
    obtain ⟨q', oo', e, -, -, c1⟩ := HD.out 1 t rfl
    injection e with e
    injection e with e1 e2
    subst e1 e2
    have hcap2 : (2 : Int) ≤ dc := by have : 2 ≤ dc := hcap; omega
    simp only [Nat.add_zero] at c0
    have hO := HO.out.trans (pairL_two HC5.out HCS.out.2.symm HCS.out.1.symm)
    clear hn hcap
    by_cases h1 : g = t
    · have HZ := Lib.hid (show o = none from hO.trans (if_neg (by unfold okPair; rw [beq_iff_eq.2 h1]; simp)))
      have d1 : (g == t) = true := by simpa using h1
      clear hO h1 CX
      go_upto_region 5 with fail
      go_quiet (fail)
      go_wp2_with fail
      exact bodyPost_ret (v := .tuple #[.agg #[.int .i64 0, .int .i64 0], .bool false]) (by simp [results, Tryz.results27, go_sem, x0, x1]) rfl ⟨PairE.none HZ.out rfl, put2_below (below_drewN HB1.out _) (Nat.le_refl _) _ _⟩
    have d1 : (g == t) = false := by simpa using h1
    rw [ok_taken _ _ _ d1] at hO
    obtain ⟨b, hb⟩ : ∃ b, b = [g, t].any (takenP ps) := ⟨_, rfl⟩
    rw [← hb] at hO CX
    have HO2 := Lib.hid hO
    have HM := Lib.hid (show ∀ wx, Below w1.heap.size w1 wx → (wx.cell? ⟨q, oo, none⟩ = some (.int .i64 g) ∧ wx.cell? ⟨q, oo + 1, none⟩ = some (.int .i64 t) ∧ Hid (Below w1.heap.size w1 wx)) from fun wx hx =>
      ⟨(hx.cell (p := ⟨q, oo, none⟩) hq).trans c0, (hx.cell (p := ⟨q, oo + 1, none⟩) hq).trans c1, Lib.hid hx⟩)
    have CY := Lib.hid (show ∀ wx, (wx.cell? ⟨q, oo, none⟩ = some (.int .i64 g) ∧ wx.cell? ⟨q, oo + 1, none⟩ = some (.int .i64 t) ∧ Hid (Below w1.heap.size w1 wx)) → Calls Tryz.prog 57 #[.slice (some ⟨q, oo, none⟩) 2 dc, .func (.func 58) #[.pointer (some ⟨H, 0, none⟩)] #[]] wx fun e w' => e = .returned (.bool b) ∧ (w'.cell? ⟨q, oo, none⟩ = some (.int .i64 g) ∧ w'.cell? ⟨q, oo + 1, none⟩ = some (.int .i64 t) ∧ Hid (Below w1.heap.size w1 w')) from fun wx hx => by
      refine (CX.out wx hx.2.2.out).mono ?_
      rintro e w' ⟨rfl, hbb⟩
      exact ⟨rfl, HM.out w' (hx.2.2.out.trans (hbb.mono hx.2.2.out.size))⟩)
    have HS0 := Lib.hid (HM.out w1.drew (Below.refl _ _).drew)
    clear hO h1 hb CX x0 x1 fz hq
    go_upto_region 5 with fail
    go_region_held3 (fun wx => wx.cell? ⟨q, oo, none⟩ = some (.int .i64 g) ∧ wx.cell? ⟨q, oo + 1, none⟩ = some (.int .i64 t) ∧ Hid (Below w1.heap.size w1 wx))
      (first | exact HS0.out | assumption)
      (first | (go_at_call 57; refine (CY.out _ (by assumption)).mono ?_; rintro e w5 ⟨rfl, hs⟩))
    have hx : w5.cell? ⟨q, oo, none⟩ = some (.int .i64 g) ∧ w5.cell? ⟨q, oo + 1, none⟩ = some (.int .i64 t) ∧ Hid (Below w1.heap.size w1 w5) := by assumption
    have hb5 := HX1.out.trans (hx.2.2.out.mono HX1.out.size)
    obtain ⟨⟨x0, x1⟩, fz⟩ := BX.out w5 hb5
    have HB5 := Lib.hid (HB.out.trans (hb5.mono HB.out.size))
    cases b with
    | true =>
      have HZ := Lib.hid (show o = none from HO2.out)
      clear hx hb5 c0 c1 hs
      go_wp2_with fail
      exact bodyPost_ret (v := .tuple #[.agg #[.int .i64 0, .int .i64 0], .bool false]) (by simp [results, Tryz.results27, go_sem, x0, x1]) rfl ⟨PairE.none HZ.out rfl, put2_below HB5.out (Nat.le_refl _) _ _⟩
    | false =>
      have HZ := Lib.hid (show o = some (g, t) from HO2.out)
      have z0 : w5.drew.cell? ⟨q, oo, none⟩ = _ := hx.1
      have z1 : w5.drew.cell? ⟨q, oo + 1, none⟩ = _ := hx.2.1
      have y0 : w5.drew.cell? ⟨w.heap.size, 0, none⟩ = _ := x0
      have y1 : w5.drew.cell? ⟨w.heap.size, 1, none⟩ = _ := x1
      have yf : ∀ o, w5.drew.frozen? ⟨w.heap.size, o, none⟩ = false := fz
      have HD2 := Lib.hid (show Below w.heap.size w w5.drew from below_drewN HB5.out 1)
      clear hb5 c0 c1
      go_upto_region 7 with fail
      go_still_tail 7, (by kernel_rfl)
      repeat still_step
      try refine wpStill_nil ?_
      change wpList _ _ _ _ _ w5.drew
      clear hx x0 x1 fz hs
      generalize w5.drew = wd at *
      go_wp2_with fail
      refine bodyPost_ret (v := .tuple #[.agg #[.int .i64 g, .int .i64 t], .bool true]) (by simp [results, Tryz.results27, go_sem, y0, y1]) rfl ⟨?_, put2_below HD2.out (Nat.le_refl _) _ _⟩
      unfold PairE
      rw [HZ.out]
      rfl
end Go.Proofs.YteenleedonmkmaaGreatDoor
