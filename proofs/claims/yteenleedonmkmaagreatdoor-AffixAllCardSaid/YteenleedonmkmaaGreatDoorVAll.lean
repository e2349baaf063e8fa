/- Stage 11's law AffixAll, out of what is asked of affix's calls. -/
import Derived.Test.YteenleedonmkmaaGreatDoorVFew
import Derived.Test.YteenleedonmkmaaGreatDoorVText
import Derived.Test.YteenleedonmkmaaGreatDoorQFrame
import Derived.Deep.RegionHeld3
namespace Go.Proofs.YteenleedonmkmaaGreatDoor
open Go Go.RowKit Go.Lib

theorem flag_said {s : ByteArray} {r : Ru} (h : parseR s = some r) : 0 ≤ r.flag ∧ r.flag ≤ 127 := by
  have h1 := (parseR_wide h).1
  unfold textR at h1
  split at h1
  · rename_i hc
    exact ⟨hc.1, hc.2.1⟩
  · rw [parseR_nil] at h1; cases h1
theorem parsed_fewA {s : ByteArray} (hs : s.size ≤ 2000) : FewA (parseA s).1 := by
  have hr : ∀ r ∈ (parseA s).1.rules, r.cond.length ≤ 8 ∧ (∀ it ∈ r.cond, it.set.length ≤ 2000) ∧ r.strip.size ≤ 20 ∧ r.add.size ≤ 20 := fun r hr => by
    obtain ⟨l, hl, h1, h2⟩ := parseA_from hr
    obtain ⟨-, k1, k2, k3, k4⟩ := parseR_wide hl
    have hz : (⟨l.toArray⟩ : ByteArray).size = l.length := vsz l
    exact ⟨k1, fun it hit => by have := k2 it hit; omega, k3, k4⟩
  have hc : (parseA s).1.rules.length ≤ 200 ∧ (parseA s).1.pairs.length ≤ 200 := by
    unfold parseA
    split
    · simp [af0]
    · unfold endA
      split
      · simp [af0]
      · rename_i hn
        split
        · simp [af0]
        · split
          · simp [af0]
          · exact ⟨by dsimp only; omega, by dsimp only; omega⟩
  exact ⟨hc.1, hc.2, fun r h => by have := (hr r h).1; omega, fun r h => (hr r h).2.1, fun r h => by have := (hr r h).2.2.1; omega, fun r h => by have := (hr r h).2.2.2; omega⟩
theorem parsed_flag {s : ByteArray} : ∀ r ∈ (parseA s).1.rules, -9223372036854775808 ≤ r.flag ∧ r.flag ≤ 9223372036854775807 := fun r hr => by
  obtain ⟨l, hl, -, -⟩ := parseA_from hr
  have := flag_said hl
  omega
variable {T : World → Prop}

set_option maxRecDepth 100000 in
set_option maxHeartbeats 4000000 in
theorem vall_law (S : SaysA T) (w : World) (hT : T w) (s : ByteArray) (v : Value) (a : Af) (ha : AffAt w v a) (hs : s.size ≤ 1000000000000000) (hz : ∀ r ∈ a.rules, r.strip.size ≤ 1000000000000000 ∧ r.add.size ≤ 1000000000000000)
    (hfl : ∀ r ∈ a.rules, -9223372036854775808 ≤ r.flag ∧ r.flag ≤ 9223372036854775807) :
    Calls Tryz.prog 3 #[.string s, v] w fun e w' => e = .returned (.bool true) ∧ Below w.heap.size w w' := by
  obtain ⟨A, cA, B, cB, rfl, hA, hB⟩ := id ha
  obtain ⟨n, hn⟩ : ∃ n, n = a.rules.length := ⟨_, rfl⟩
  obtain ⟨m, hm⟩ : ∃ n, n = a.pairs.length := ⟨_, rfl⟩
  rw [← hn, ← hm] at ha ⊢
  obtain ⟨W0, hW0⟩ : ∃ W0, W0 = w.alloc (.cells #[.slice A n cA, .slice B m cB] 25) := ⟨_, rfl⟩
  have hb0 : Below w.heap.size w W0 := by rw [hW0]; exact (Below.refl _ _).alloc (Nat.le_refl _) _
  have HB := Lib.hid hb0
  have BX := Lib.hid (show ∀ wx, Below W0.heap.size W0 wx → _ from fun wx hb => box2 (hW0 ▸ hb))
  have HW0 := Lib.hid hW0
  have HA := Lib.hid (ha.keep hb0)
  have CF := Lib.hid (vfew_any W0 _ a (ha.keep hb0) hz)
  have CW := Lib.hid (fun wx (hb : Below W0.heap.size W0 wx) => aawake_any S wx (S.kept _ _ (S.kept _ _ hT hb0) hb))
  have HT := Lib.hid (S.kept _ _ hT hb0)
  have HF := Lib.hid hfl
  have HS := Lib.hid S
  clear hA hB ha hn hm hb0 hT hz hfl S
  by_cases h2000 : 2000 < s.size
  · have d1 : (2000 : Int) < s.size := by omega
    clear h2000 CF
    go_enter Tryz.func3, Tryz.ntmps3
    go_upto_region 1 with fail
    rw [← HW0.out]
    clear hW0
    go_wp2_with (go_at_call 5; refine (CW.out _ (Below.refl _ _)).mono ?_; rintro e w1 ⟨rfl, hb⟩; have HB1 := Lib.hid (HB.out.trans (hb.mono HB.out.size)); clear hb)
    go_ret
    exact ⟨rfl, HB1.out⟩
  have d1 : ¬ (2000 : Int) < s.size := by omega
  go_enter Tryz.func3, Tryz.ntmps3
  go_upto_region 1 with fail
  rw [← HW0.out]
  clear hW0
  obtain ⟨x0, x1⟩ := BX.out W0 (Below.refl _ _)
  go_wp2_with (go_at_call 4; refine CF.out.mono ?_)
  rintro e w1 ⟨fb, rfl, hfb⟩ hbf
  have HBF := Lib.hid hbf
  have HFB := Lib.hid hfb
  clear hbf hfb CF x0 x1
  cases fb with
  | false =>
    go_wp2_with (go_at_call 5; refine (CW.out _ HBF.out).mono ?_; rintro e w2 ⟨rfl, hb⟩; have HB1 := Lib.hid (HB.out.trans ((HBF.out.trans (hb.mono HBF.out.size)).mono HB.out.size)); clear hb)
    go_ret
    exact ⟨rfl, HB1.out⟩
  | true =>
    have HFF := Lib.hid (HFB.out rfl)
    have CP := Lib.hid (show Calls Tryz.prog 6 #[.string s] w1 fun e w' => ParseAE w1 w' (parseA s) e from HS.out.parse w1 s (HS.out.kept _ _ HT.out HBF.out) (by omega))
    have CQ := Lib.hid (fun wx => rparseA_any wx s (by omega))
    have HPF := Lib.hid (parsed_fewA (s := s) (by omega))
    have HPG := Lib.hid (parsed_flag (s := s))
    obtain ⟨O, hO⟩ : ∃ O, O = parseA s := ⟨_, rfl⟩
    rw [← hO] at CP CQ HPF HPG
    clear hO HFB h2000
    go_wp2_with (go_at_call 6; refine CP.out.mono ?_)
    rintro e w2 ⟨vx, rfl, hax, hb2⟩
    obtain ⟨XA, xc, XB, xd, rfl, -, -⟩ := id hax
    obtain ⟨rn, hrn⟩ : ∃ n, n = O.1.rules.length := ⟨_, rfl⟩
    obtain ⟨pn, hpn⟩ : ∃ n, n = O.1.pairs.length := ⟨_, rfl⟩
    rw [← hrn, ← hpn] at hax ⊢
    have HRP := Lib.hid (And.intro hrn hpn)
    have hb3 := hb2.alloc hb2.size (.cells #[.slice XA rn xc, .slice XB pn xd] 25)
    have hx3 := World.alloc_heap_new w2 (.cells #[.slice XA rn xc, .slice XB pn xd] 25)
    have hax3 := hax.keep ((Below.refl w2.heap.size w2).alloc (Nat.le_refl _) (.cells #[.slice XA rn xc, .slice XB pn xd] 25))
    obtain ⟨w3, hw3⟩ : ∃ w3, w3 = w2.alloc (.cells #[.slice XA rn xc, .slice XB pn xd] 25) := ⟨_, rfl⟩
    rw [← hw3] at hb3 hx3 hax3
    have C3 := Lib.hid (CQ.out w3)
    have H3 := Lib.hid (And.intro hx3 (And.intro hax3 (HBF.out.trans (hb3.mono HBF.out.size))))
    obtain ⟨qx, hqx⟩ : ∃ q, q = w2.heap.size := ⟨_, rfl⟩
    have HQX := Lib.hid hqx
    have HW3 := Lib.hid hw3
    clear hax hb2 hb3 hx3 hax3 hrn hpn CP CQ hqx
    go_upto_region 4 with fail
    rw [← hw3, ← HQX.out]
    clear hw3
    go_wp2_with (go_at_call 7; refine C3.out.mono ?_)
    rintro e w4 ⟨vy, rfl, hay, hb4⟩
    obtain ⟨YA, yc, YB, yd, rfl, -, -⟩ := id hay
    rw [← HRP.out.1, ← HRP.out.2] at hay ⊢
    obtain ⟨WZ, hWZ⟩ : ∃ WZ, WZ = w4.alloc (.cells #[.slice YA rn yc, .slice YB pn yd] 25) := ⟨_, rfl⟩
    have hb5 := hb4.alloc hb4.size (.cells #[.slice YA rn yc, .slice YB pn yd] 25)
    have hx5 := World.alloc_heap_new w4 (.cells #[.slice YA rn yc, .slice YB pn yd] 25)
    have hay5 := hay.keep ((Below.refl w4.heap.size w4).alloc (Nat.le_refl _) (.cells #[.slice YA rn yc, .slice YB pn yd] 25))
    rw [← hWZ] at hb5 hx5 hay5
    obtain ⟨qy, hqy⟩ : ∃ q, q = w4.heap.size := ⟨_, rfl⟩
    have HQY := Lib.hid hqy
    rw [← hqy] at hx5
    have h3x := H3.out.1
    rw [← HQX.out] at h3x
    have hlx := (Array.getElem?_eq_some_iff.1 h3x).1
    have HM := Lib.hid (show ∀ wx, Below WZ.heap.size WZ wx → ((wx.cell? ⟨w.heap.size, 0, none⟩ = some (.slice A n cA) ∧ wx.cell? ⟨w.heap.size, 1, none⟩ = some (.slice B m cB)) ∧ (wx.cell? ⟨qx, 0, none⟩ = some (.slice XA rn xc) ∧ wx.cell? ⟨qx, 1, none⟩ = some (.slice XB pn xd)) ∧ (wx.cell? ⟨qy, 0, none⟩ = some (.slice YA rn yc) ∧ wx.cell? ⟨qy, 1, none⟩ = some (.slice YB pn yd)) ∧ Hid (Below WZ.heap.size WZ wx)) from fun wx hb => by
      have hbb : Below W0.heap.size W0 wx := H3.out.2.2.trans ((hb5.trans (hb.mono hb5.size)).mono H3.out.2.2.size)
      have k1 : wx.heap[qx]? = some (.cells #[.slice XA rn xc, .slice XB pn xd] 25 (0, 0)) := ((hb5.trans (hb.mono hb5.size)).block qx hlx).trans h3x
      have k2 : wx.heap[qy]? = some (.cells #[.slice YA rn yc, .slice YB pn yd] 25 (0, 0)) := (hb.block qy (Array.getElem?_eq_some_iff.1 hx5).1).trans hx5
      exact ⟨BX.out wx hbb, ⟨by simp [World.cell?, k1], by simp [World.cell?, k1]⟩, ⟨by simp [World.cell?, k2], by simp [World.cell?, k2]⟩, Lib.hid hb⟩)
    have HAZ := Lib.hid (show ∀ wx, Below WZ.heap.size WZ wx → AffAt wx (.agg #[.slice A n cA, .slice B m cB]) a from fun wx hb => HA.out.keep (H3.out.2.2.trans ((hb5.trans (hb.mono hb5.size)).mono H3.out.2.2.size)))
    have HXZ := Lib.hid (show ∀ wx, Below WZ.heap.size WZ wx → AffAt wx (.agg #[.slice XA rn xc, .slice XB pn xd]) O.1 from fun wx hb => H3.out.2.1.keep (hb5.trans (hb.mono hb5.size)))
    have HYZ := Lib.hid (show ∀ wx, Below WZ.heap.size WZ wx → AffAt wx (.agg #[.slice YA rn yc, .slice YB pn yd]) O.1 from fun wx hb => hay5.keep hb)
    have HBZ := Lib.hid (show ∀ wx, Below WZ.heap.size WZ wx → Below W0.heap.size W0 wx from fun wx hb => H3.out.2.2.trans ((hb5.trans (hb.mono hb5.size)).mono H3.out.2.2.size))
    have HTZ := Lib.hid (fun wx hb => HS.out.kept _ _ HT.out (HBZ.out wx hb))
    have HIB := Lib.hid (show ∀ r ∈ O.1.rules, r.cond.length ≤ 100000 ∧ ∀ it ∈ r.cond, it.set.length ≤ 100000 from fun r hr => ⟨by have := HPF.out.items r hr; omega, fun it hit => by have := HPF.out.sets r hr it hit; omega⟩)
    obtain ⟨T1, hT1⟩ : ∃ T, T = textA a := ⟨_, rfl⟩
    obtain ⟨T2, hT2⟩ : ∃ T, T = textA O.1 := ⟨_, rfl⟩
    have D0 := Lib.hid (show ∀ wx, ((wx.cell? ⟨w.heap.size, 0, none⟩ = some (.slice A n cA) ∧ wx.cell? ⟨w.heap.size, 1, none⟩ = some (.slice B m cB)) ∧ (wx.cell? ⟨qx, 0, none⟩ = some (.slice XA rn xc) ∧ wx.cell? ⟨qx, 1, none⟩ = some (.slice XB pn xd)) ∧ (wx.cell? ⟨qy, 0, none⟩ = some (.slice YA rn yc) ∧ wx.cell? ⟨qy, 1, none⟩ = some (.slice YB pn yd)) ∧ Hid (Below WZ.heap.size WZ wx)) → Calls Tryz.prog 8 #[.agg #[.slice XA rn xc, .slice XB pn xd], .agg #[.slice YA rn yc, .slice YB pn yd]] wx fun e w' => e = .returned (.bool true) ∧ ((w'.cell? ⟨w.heap.size, 0, none⟩ = some (.slice A n cA) ∧ w'.cell? ⟨w.heap.size, 1, none⟩ = some (.slice B m cB)) ∧ (w'.cell? ⟨qx, 0, none⟩ = some (.slice XA rn xc) ∧ w'.cell? ⟨qx, 1, none⟩ = some (.slice XB pn xd)) ∧ (w'.cell? ⟨qy, 0, none⟩ = some (.slice YA rn yc) ∧ w'.cell? ⟨qy, 1, none⟩ = some (.slice YB pn yd)) ∧ Hid (Below WZ.heap.size WZ w')) from fun wx hx => by
      have hh := rasame_any wx _ _ O.1 O.1 (HXZ.out wx hx.2.2.2.out) (HYZ.out wx hx.2.2.2.out) HIB.out HIB.out
      rw [decide_eq_true (rfl : O.1 = O.1)] at hh
      refine hh.mono ?_
      rintro e w' ⟨rfl, hb⟩
      exact ⟨rfl, HM.out w' (hx.2.2.2.out.trans (hb.mono hx.2.2.2.out.size))⟩)
    have D1 := Lib.hid (show ∀ wx, ((wx.cell? ⟨w.heap.size, 0, none⟩ = some (.slice A n cA) ∧ wx.cell? ⟨w.heap.size, 1, none⟩ = some (.slice B m cB)) ∧ (wx.cell? ⟨qx, 0, none⟩ = some (.slice XA rn xc) ∧ wx.cell? ⟨qx, 1, none⟩ = some (.slice XB pn xd)) ∧ (wx.cell? ⟨qy, 0, none⟩ = some (.slice YA rn yc) ∧ wx.cell? ⟨qy, 1, none⟩ = some (.slice YB pn yd)) ∧ Hid (Below WZ.heap.size WZ wx)) → Calls Tryz.prog 9 #[.agg #[.slice A n cA, .slice B m cB]] wx fun e w' => e = .returned (.string T1) ∧ ((w'.cell? ⟨w.heap.size, 0, none⟩ = some (.slice A n cA) ∧ w'.cell? ⟨w.heap.size, 1, none⟩ = some (.slice B m cB)) ∧ (w'.cell? ⟨qx, 0, none⟩ = some (.slice XA rn xc) ∧ w'.cell? ⟨qx, 1, none⟩ = some (.slice XB pn xd)) ∧ (w'.cell? ⟨qy, 0, none⟩ = some (.slice YA rn yc) ∧ w'.cell? ⟨qy, 1, none⟩ = some (.slice YB pn yd)) ∧ Hid (Below WZ.heap.size WZ w')) from fun wx hx => by
      refine (hT1 ▸ HS.out.text wx _ a (HTZ.out wx hx.2.2.2.out) (HAZ.out wx hx.2.2.2.out) HFF.out.few).mono ?_
      rintro e w' ⟨rfl, hb⟩
      exact ⟨rfl, HM.out w' (hx.2.2.2.out.trans (hb.mono hx.2.2.2.out.size))⟩)
    have D2 := Lib.hid (show ∀ wx, ((wx.cell? ⟨w.heap.size, 0, none⟩ = some (.slice A n cA) ∧ wx.cell? ⟨w.heap.size, 1, none⟩ = some (.slice B m cB)) ∧ (wx.cell? ⟨qx, 0, none⟩ = some (.slice XA rn xc) ∧ wx.cell? ⟨qx, 1, none⟩ = some (.slice XB pn xd)) ∧ (wx.cell? ⟨qy, 0, none⟩ = some (.slice YA rn yc) ∧ wx.cell? ⟨qy, 1, none⟩ = some (.slice YB pn yd)) ∧ Hid (Below WZ.heap.size WZ wx)) → Calls Tryz.prog 10 #[.agg #[.slice A n cA, .slice B m cB]] wx fun e w' => e = .returned (.string T1) ∧ ((w'.cell? ⟨w.heap.size, 0, none⟩ = some (.slice A n cA) ∧ w'.cell? ⟨w.heap.size, 1, none⟩ = some (.slice B m cB)) ∧ (w'.cell? ⟨qx, 0, none⟩ = some (.slice XA rn xc) ∧ w'.cell? ⟨qx, 1, none⟩ = some (.slice XB pn xd)) ∧ (w'.cell? ⟨qy, 0, none⟩ = some (.slice YA rn yc) ∧ w'.cell? ⟨qy, 1, none⟩ = some (.slice YB pn yd)) ∧ Hid (Below WZ.heap.size WZ w')) from fun wx hx => by
      refine (hT1 ▸ rtextA_any wx _ a (HAZ.out wx hx.2.2.2.out) HFF.out.few HF.out).mono ?_
      rintro e w' ⟨rfl, hb⟩
      exact ⟨rfl, HM.out w' (hx.2.2.2.out.trans (hb.mono hx.2.2.2.out.size))⟩)
    have D3 := Lib.hid (show ∀ wx, ((wx.cell? ⟨w.heap.size, 0, none⟩ = some (.slice A n cA) ∧ wx.cell? ⟨w.heap.size, 1, none⟩ = some (.slice B m cB)) ∧ (wx.cell? ⟨qx, 0, none⟩ = some (.slice XA rn xc) ∧ wx.cell? ⟨qx, 1, none⟩ = some (.slice XB pn xd)) ∧ (wx.cell? ⟨qy, 0, none⟩ = some (.slice YA rn yc) ∧ wx.cell? ⟨qy, 1, none⟩ = some (.slice YB pn yd)) ∧ Hid (Below WZ.heap.size WZ wx)) → Calls Tryz.prog 9 #[.agg #[.slice YA rn yc, .slice YB pn yd]] wx fun e w' => e = .returned (.string T2) ∧ ((w'.cell? ⟨w.heap.size, 0, none⟩ = some (.slice A n cA) ∧ w'.cell? ⟨w.heap.size, 1, none⟩ = some (.slice B m cB)) ∧ (w'.cell? ⟨qx, 0, none⟩ = some (.slice XA rn xc) ∧ w'.cell? ⟨qx, 1, none⟩ = some (.slice XB pn xd)) ∧ (w'.cell? ⟨qy, 0, none⟩ = some (.slice YA rn yc) ∧ w'.cell? ⟨qy, 1, none⟩ = some (.slice YB pn yd)) ∧ Hid (Below WZ.heap.size WZ w')) from fun wx hx => by
      refine (hT2 ▸ HS.out.text wx _ O.1 (HTZ.out wx hx.2.2.2.out) (HYZ.out wx hx.2.2.2.out) HPF.out).mono ?_
      rintro e w' ⟨rfl, hb⟩
      exact ⟨rfl, HM.out w' (hx.2.2.2.out.trans (hb.mono hx.2.2.2.out.size))⟩)
    have D4 := Lib.hid (show ∀ wx, ((wx.cell? ⟨w.heap.size, 0, none⟩ = some (.slice A n cA) ∧ wx.cell? ⟨w.heap.size, 1, none⟩ = some (.slice B m cB)) ∧ (wx.cell? ⟨qx, 0, none⟩ = some (.slice XA rn xc) ∧ wx.cell? ⟨qx, 1, none⟩ = some (.slice XB pn xd)) ∧ (wx.cell? ⟨qy, 0, none⟩ = some (.slice YA rn yc) ∧ wx.cell? ⟨qy, 1, none⟩ = some (.slice YB pn yd)) ∧ Hid (Below WZ.heap.size WZ wx)) → Calls Tryz.prog 10 #[.agg #[.slice YA rn yc, .slice YB pn yd]] wx fun e w' => e = .returned (.string T2) ∧ ((w'.cell? ⟨w.heap.size, 0, none⟩ = some (.slice A n cA) ∧ w'.cell? ⟨w.heap.size, 1, none⟩ = some (.slice B m cB)) ∧ (w'.cell? ⟨qx, 0, none⟩ = some (.slice XA rn xc) ∧ w'.cell? ⟨qx, 1, none⟩ = some (.slice XB pn xd)) ∧ (w'.cell? ⟨qy, 0, none⟩ = some (.slice YA rn yc) ∧ w'.cell? ⟨qy, 1, none⟩ = some (.slice YB pn yd)) ∧ Hid (Below WZ.heap.size WZ w')) from fun wx hx => by
      refine (hT2 ▸ rtextA_any wx _ O.1 (HYZ.out wx hx.2.2.2.out) HPF.out HPG.out).mono ?_
      rintro e w' ⟨rfl, hb⟩
      exact ⟨rfl, HM.out w' (hx.2.2.2.out.trans (hb.mono hx.2.2.2.out.size))⟩)
    have D5 := Lib.hid (show ∀ wx, ((wx.cell? ⟨w.heap.size, 0, none⟩ = some (.slice A n cA) ∧ wx.cell? ⟨w.heap.size, 1, none⟩ = some (.slice B m cB)) ∧ (wx.cell? ⟨qx, 0, none⟩ = some (.slice XA rn xc) ∧ wx.cell? ⟨qx, 1, none⟩ = some (.slice XB pn xd)) ∧ (wx.cell? ⟨qy, 0, none⟩ = some (.slice YA rn yc) ∧ wx.cell? ⟨qy, 1, none⟩ = some (.slice YB pn yd)) ∧ Hid (Below WZ.heap.size WZ wx)) → Calls Tryz.prog 5 #[] wx fun e w' => e = .returned (.bool true) ∧ ((w'.cell? ⟨w.heap.size, 0, none⟩ = some (.slice A n cA) ∧ w'.cell? ⟨w.heap.size, 1, none⟩ = some (.slice B m cB)) ∧ (w'.cell? ⟨qx, 0, none⟩ = some (.slice XA rn xc) ∧ w'.cell? ⟨qx, 1, none⟩ = some (.slice XB pn xd)) ∧ (w'.cell? ⟨qy, 0, none⟩ = some (.slice YA rn yc) ∧ w'.cell? ⟨qy, 1, none⟩ = some (.slice YB pn yd)) ∧ Hid (Below WZ.heap.size WZ w')) from fun wx hx => by
      refine (CW.out wx (HBZ.out wx hx.2.2.2.out)).mono ?_
      rintro e w' ⟨rfl, hb⟩
      exact ⟨rfl, HM.out w' (hx.2.2.2.out.trans (hb.mono hx.2.2.2.out.size))⟩)
    have HS0 := Lib.hid (HM.out WZ.drew (Below.refl _ _).drew)
    obtain ⟨nn, hnn⟩ : ∃ k : Int, k = (O.2.1 : Nat) := ⟨_, rfl⟩
    obtain ⟨cc, hcc⟩ : ∃ k : Int, k = O.2.2 := ⟨_, rfl⟩
    rw [← hnn, ← hcc]
    have q1 : (nn == nn) = true := by simp
    have q2 : (cc == cc) = true := by simp
    have q3 : (T1.toList == T1.toList) = true := by simp
    have q4 : (T2.toList == T2.toList) = true := by simp
    clear hay hb4 hb5 hx5 hay5 h3x hlx hT1 hT2 hnn hcc hqy C3 CW
    go_upto_region 5 with fail
    rw [← hWZ, ← HQY.out]
    clear hWZ
    go_region_held3 (fun wx => ((wx.cell? ⟨w.heap.size, 0, none⟩ = some (.slice A n cA) ∧ wx.cell? ⟨w.heap.size, 1, none⟩ = some (.slice B m cB)) ∧ (wx.cell? ⟨qx, 0, none⟩ = some (.slice XA rn xc) ∧ wx.cell? ⟨qx, 1, none⟩ = some (.slice XB pn xd)) ∧ (wx.cell? ⟨qy, 0, none⟩ = some (.slice YA rn yc) ∧ wx.cell? ⟨qy, 1, none⟩ = some (.slice YB pn yd)) ∧ Hid (Below WZ.heap.size WZ wx)))
      (first | exact HS0.out | assumption)
      (first
        | (go_at_call 8; refine (D0.out _ (by assumption)).mono ?_; rintro e w5 ⟨rfl, hs⟩)
        | (go_at_call 9; have hz := hdone1; clear hz; refine (D3.out _ (by assumption)).mono ?_; rintro e w5 ⟨rfl, hs⟩)
        | (go_at_call 9; refine (D1.out _ (by assumption)).mono ?_; rintro e w5 ⟨rfl, hs⟩; have hdone1 : True := trivial)
        | (go_at_call 10; have hz := hdone2; clear hz; refine (D4.out _ (by assumption)).mono ?_; rintro e w5 ⟨rfl, hs⟩)
        | (go_at_call 10; refine (D2.out _ (by assumption)).mono ?_; rintro e w5 ⟨rfl, hs⟩; have hdone2 : True := trivial)
        | (go_at_call 5; refine (D5.out _ (by assumption)).mono ?_; rintro e w5 ⟨rfl, hs⟩))
    have HE := Lib.hid (show Below w.heap.size w w5 from HB.out.trans ((HBZ.out w5 hs.2.2.2.out).mono HB.out.size))
    clear hs
    go_wp2_with fail
    go_ret
    exact ⟨rfl, HE.out⟩
end Go.Proofs.YteenleedonmkmaaGreatDoor
