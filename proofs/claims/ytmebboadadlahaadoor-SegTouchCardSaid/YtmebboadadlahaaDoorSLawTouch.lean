/- SegTouch out of the contract of seg.All: the walk. -/
import Derived.Test.YtmebboadadlahaaDoorSLaws
import Derived.Test.YtmebboadadlahaaDoorSTouch
import Derived.Deep.RegionHeld3
namespace Go.Proofs.YtmebboadadlahaaDoor
open Go Go.RowKit Go.Lib

theorem below_draw {B : Nat} {a w : World} (h : Below B a w) : Below B a w.drew := below_drewN h 1

theorem blank_data (s : ByteArray) : ((s ++ ⟨#[32]⟩) ++ s).data.toList = s.data.toList ++ 32 :: s.data.toList := by
  rw [ByteArray.data_append, ByteArray.data_append, Array.toList_append, Array.toList_append]
  simp
theorem tab_blank : Cls.ofT Cls.tab 32 = 0 := by decide
theorem firm_cases {k : Int} (h : firmB k = true) : k = 1 ∨ k = 2 := by simpa [firmB] using h

set_option maxHeartbeats 1000000 in
theorem touch_big (hA : SegSays) (s : ByteArray) (w : World) (hW : Tabs w) (h : 1500 < s.size) (hs : s.size ≤ 9223372036854775807) :
    Calls Tryd.prog 5 #[.string s] w fun e w' => e = .returned (.bool true) ∧ Below w.heap.size w w' := by
  have W8 := Lib.hid (awake_any hA)
  have HW := Lib.hid hW
  clear hA hW
  go_enter Tryd.func5, Tryd.ntmps5
  go_wp2_with (go_at_call 8; refine (W8.out _ HW.out).mono ?_; rintro e w1 ⟨rfl, hb1⟩)
  go_ret
  exact ⟨rfl, hb1⟩

set_option maxRecDepth 100000 in
set_option maxHeartbeats 8000000 in
theorem touch_small (hA : SegSays) (s : ByteArray) (w : World) (hW : Tabs w) (hs : s.size ≤ 1500) :
    Calls Tryd.prog 5 #[.string s] w fun e w' => e = .returned (.bool true) ∧ Below w.heap.size w w' := by
  obtain ⟨ts, hts⟩ : ∃ ts, ts = toksOf Cls.tab s := ⟨_, rfl⟩
  obtain ⟨m, hm⟩ : ∃ m, m = ts.length := ⟨_, rfl⟩
  have c9 : ∀ wx v, TblU wx v Cls.tab → Calls Tryd.prog 9 #[v, .string s] wx fun e w' => ∃ A cap, e = .returned (.slice A m cap) ∧ (m ≤ cap ∧ cap ≤ maxLen) ∧
      (0 < m → ∃ g, A = some ⟨g, 0, none⟩ ∧ g < w'.heap.size ∧ ∀ j u, (ts.flatMap kCells)[j]? = some u → w'.cell? ⟨g, j, none⟩ = some u) ∧ Below wx.heap.size wx w' := by
    intro wx v h
    refine (hA v Cls.tab s wx h (by omega)).mono ?_
    rintro e w' ⟨v', he, ho, hb⟩
    rw [← hts, ← hm] at ho
    by_cases h0 : 0 < m
    · obtain ⟨g, cap, rfl, _, hg, h1, h2, hc⟩ := own_open ho h0
      exact ⟨_, cap, he, ⟨h1, h2⟩, fun _ => ⟨g, rfl, hg, hc⟩, hb⟩
    · rcases ho.2 with ⟨rfl, h00⟩ | ⟨g, cap, cur, rfl, _, _, h1, h2, _⟩
      · exact ⟨none, 0, by rw [he, h00], ⟨by omega, Nat.zero_le _⟩, fun h => absurd h h0, hb⟩
      · exact ⟨_, cap, he, ⟨h1, h2⟩, fun h => absurd h h0, hb⟩
  have c9d : ∀ wx v, TblU wx v Cls.tab → Calls Tryd.prog 9 #[v, .string ((s ++ ⟨#[32]⟩) ++ s)] wx fun e w' => ∃ A cap, e = .returned (.slice A (2 * m) cap) ∧ Below wx.heap.size wx w' := by
    intro wx v h
    have hsz : ((s ++ ⟨#[32]⟩) ++ s : ByteArray).size ≤ 1000000000000 := by
      rw [ByteArray.size_append, ByteArray.size_append, show ByteArray.size ⟨#[32]⟩ = 1 from rfl]; omega
    refine (hA v Cls.tab _ wx h hsz).mono ?_
    rintro e w' ⟨v', he, ho, hb⟩
    have hl : (toksOf Cls.tab ((s ++ ⟨#[32]⟩) ++ s)).length = 2 * m := by
      rw [toksOf, blank_data, twice _ tab_blank, hm, hts, toksOf]
    rw [hl] at ho
    rcases ho.2 with ⟨rfl, h00⟩ | ⟨g, cap, cur, rfl, _⟩
    · exact ⟨none, 0, by rw [he, h00], hb⟩
    · exact ⟨_, cap, he, hb⟩
  have hrise : Rise (-1) ts := by rw [hts]; exact touch_rise _ _
  have hin : ∀ t ∈ ts, t.2.1 ≤ s.size ∧ ∃ x y : U3, (units 0 ((s.data.toList.drop t.1).take (t.2.1 - t.1))).head? = some x ∧ (units 0 ((s.data.toList.drop t.1).take (t.2.1 - t.1))).getLast? = some y ∧ firmB (Cls.ofT Cls.tab x.2.2) = true ∧ firmB (Cls.ofT Cls.tab y.2.2) = true := fun t ht => by
    rw [hts] at ht
    have := touch_inside (Cls.ofT Cls.tab) s.data.toList t ht
    rwa [← Lib.size_eq] at this
  have hml : m ≤ 1500 := by
    have h1 := segs_len (Cls.ofT Cls.tab) (units 0 s.data.toList) 0 none
    have h2 := units_length_le s.data.toList 0
    rw [← Lib.size_eq] at h2
    rw [hm, hts, toksOf]
    simp at h1
    omega
  have C9 := Lib.hid c9
  have C9D := Lib.hid c9d
  have HR := Lib.hid hrise
  have HIN := Lib.hid hin
  have HM := Lib.hid hm
  have W8 := Lib.hid (awake_any hA)
  have HW := Lib.hid hW
  have T := Lib.hid table_u
  clear c9 c9d hrise hin hm hts hA hW
  go_enter Tryd.func5, Tryd.ntmps5
  go_wp2_with fail
  refine (T.out _ HW.out).mono ?_
  rintro e w1 ⟨v1, rfl, ht, hb1⟩
  have HT := Lib.hid ht
  have HB1 := Lib.hid hb1
  clear ht hb1
  go_wp2_with fail
  refine (C9.out _ _ HT.out).mono ?_
  rintro e w2 ⟨A, cap, rfl, ⟨hc1, hc2⟩, hcl, hb2⟩
  unfold maxLen at hc2
  have HCL := Lib.hid hcl
  have HT2 := Lib.hid (HT.out.below hb2)
  have HB2 := Lib.hid (HB1.out.trans (hb2.mono HB1.out.size))
  clear hcl hb2
  go_wp2_with fail
  go_loopw [5, 6] (fun a i wr => ∃ (q : Nat) (at_ : Int), q ≤ m ∧ i = .int .i64 q ∧ a = .int .i64 at_ ∧ Hid (Rise at_ (ts.drop q)) ∧ Hid (Below w2.heap.size w2 wr)) (fun _ i _ => m - (RowKit.intOf i).toNat)
  case atStart => exact ⟨0, -1, Nat.zero_le _, rfl, rfl, HR.out, Below.refl _ _⟩
  case round =>
    obtain ⟨q, at_, hq, rfl, rfl, HQ, HL⟩ := hrel
    by_cases hqm : q < m
    · obtain ⟨g, hAg, hg, hcells⟩ := HCL.out (by omega)
      subst hAg
      obtain ⟨t, ht⟩ : ∃ t, ts[q]? = some t := ⟨_, List.getElem?_eq_getElem (by rw [← HM.out]; exact hqm)⟩
      have hdr : ts.drop q = t :: ts.drop (q + 1) := by
        obtain ⟨hi, rfl⟩ := List.getElem?_eq_some_iff.1 ht
        exact List.drop_eq_getElem_cons hi
      have hrs := HQ.out
      rw [hdr] at hrs
      obtain ⟨r1, r2, r3⟩ := hrs
      obtain ⟨hto, x, y, hx, hy, fx, fy⟩ := HIN.out t (List.mem_of_getElem? ht)
      obtain ⟨x0, x1, _⟩ := kCells_at ts q t ht
      have y0 := hcells _ _ x0
      have y1 := hcells _ _ x1
      have m0 := (HL.out.cell (p := ⟨g, q * 3, none⟩) hg).trans y0
      have m1 := (HL.out.cell (p := ⟨g, q * 3 + 1, none⟩) hg).trans y1
      obtain ⟨f, ed, wd⟩ := t
      dsimp only at m0 m1 y0 y1 r1 r2 r3 hto hx hy
      have R3 := Lib.hid r3
      have HX := Lib.hid hx
      have HY := Lib.hid hy
      have KX := Lib.hid (firm_cases fx)
      have KY := Lib.hid (firm_cases fy)
      have M0 := Lib.hid y0
      have M1 := Lib.hid y1
      have tq1 : (0 : Int) ≤ q := by omega
      have tq2 : (q : Int) < m := by omega
      have d1 : decide ((f : Int) ≤ at_) = false := by simp; omega
      have d2 : decide ((ed : Int) ≤ (f : Int)) = false := by simp; omega
      have d2' : decide (ed ≤ f) = false := by simp; omega
      have d3 : decide ((s.size : Int) < (ed : Int)) = false := by simp; omega
      have d3' : decide (s.size < ed) = false := by simp; omega
      have HD := Lib.hid (And.intro r1 (And.intro r2 hto))
      clear hcells ht hdr r1 r2 r3 hx hy fx fy x0 x1 hto y0 y1
      obtain ⟨v, hv⟩ : ∃ v, v = units 0 ((s.data.toList.drop f).take (ed - f)) := ⟨_, rfl⟩
      obtain ⟨nu, hnu⟩ : ∃ nu, nu = v.length := ⟨_, rfl⟩
      have hvx : v[0]? = some x := by rw [hv, ← List.head?_eq_getElem?]; exact HX.out
      have hnu0 : 0 < nu := by rw [hnu]; exact (List.getElem?_eq_some_iff.1 hvx).1
      have hvy : v[nu - 1]? = some y := by rw [hnu, ← List.getLast?_eq_getElem?, hv]; exact HY.out
      have hnub : nu ≤ 1500 := by
        have h1 := units_length_le ((s.data.toList.drop f).take (ed - f)) 0
        rw [← hv, ← hnu, List.length_take] at h1
        have := HD.out
        omega
      obtain ⟨xc, hxc⟩ : ∃ xc, xc = x.2.2 := ⟨_, rfl⟩
      obtain ⟨yc, hyc⟩ : ∃ yc, yc = y.2.2 := ⟨_, rfl⟩
      have c15 : ∀ wx, (wx.cell? ⟨g, q * 3, none⟩ = some (.int .i64 f) ∧ wx.cell? ⟨g, q * 3 + 1, none⟩ = some (.int .i64 ed) ∧ Hid (Below w2.heap.size w2 wx)) →
          Calls Tryd.prog 15 #[.string (s.extract f ed)] wx fun e w' => ∃ gu cu, e = .returned (.slice (some ⟨gu, 0, none⟩) nu cu) ∧ (nu ≤ cu ∧ cu ≤ maxLen) ∧
            (w'.cell? ⟨gu, 2, none⟩ = some (.int .i64 xc) ∧ w'.cell? ⟨gu, (nu - 1) * 3 + 2, none⟩ = some (.int .i64 yc)) ∧ gu < w'.heap.size ∧
            (w'.cell? ⟨g, q * 3, none⟩ = some (.int .i64 f) ∧ w'.cell? ⟨g, q * 3 + 1, none⟩ = some (.int .i64 ed) ∧ Hid (Below w2.heap.size w2 w')) := by
        intro wx hx
        have hsz : (s.extract f ed).size ≤ 1000000000000 := by rw [ByteArray.size_extract]; omega
        refine (rall_any (s.extract f ed) wx hsz).mono ?_
        rintro e w' ⟨v', he, ho, hb⟩
        rw [Lib.extract_data, ← hv, ← hnu] at ho
        obtain ⟨gu, cu, rfl, _, hgu, h1, h2, hc⟩ := own_open ho hnu0
        have hb' := hx.2.2.out.trans (hb.mono hx.2.2.out.size)
        refine ⟨gu, cu, he, ⟨h1, h2⟩, ⟨?_, ?_⟩, hgu, ⟨(hb'.cell (p := ⟨g, _, none⟩) hg).trans M0.out, (hb'.cell (p := ⟨g, _, none⟩) hg).trans M1.out, hb'⟩⟩
        · rw [hxc]; exact hc _ _ (by have := (ucells3 v 0 x hvx).2.2; simpa using this)
        · rw [hyc]; exact hc _ _ (ucells3 v (nu - 1) y hvy).2.2
      have KX' : Hid (Cls.ofT Cls.tab xc = 1 ∨ Cls.ofT Cls.tab xc = 2) := by rw [hxc]; exact KX.out
      have KY' : Hid (Cls.ofT Cls.tab yc = 1 ∨ Cls.ofT Cls.tab yc = 2) := by rw [hyc]; exact KY.out
      have C15 := Lib.hid c15
      clear c15 hv hnu hvx hvy hxc hyc KX KY HX HY
      go_wp2_with fail
      go_quiet (fail)
      have hL3 := below_drewN HL.out nq
      have p0 := (hL3.cell (p := ⟨g, q * 3, none⟩) hg).trans M0.out
      have p1 := (hL3.cell (p := ⟨g, q * 3 + 1, none⟩) hg).trans M1.out
      generalize wr.drewN nq = w3 at hL3 p0 p1 ⊢
      have hS : w3.drew.cell? ⟨g, q * 3, none⟩ = some (.int .i64 f) ∧ w3.drew.cell? ⟨g, q * 3 + 1, none⟩ = some (.int .i64 ed) ∧ Hid (Below w2.heap.size w2 w3.drew) := ⟨p0, p1, below_draw hL3⟩
      have HS := Lib.hid hS
      have R1 := HD.out.2.1
      have R2 := HD.out.2.2
      have e1 : (f : Int) ≤ ed := by omega
      have e2 : (ed : Int) ≤ s.size := by omega
      have e3 : (0 : Int) ≤ f := by omega
      have e4 : (0 : Int) ≤ ed := by omega
      clear hS m0 m1 d1 d2 d2' d3 d3' hL3
      go_wp2_with fail
      go_region_held3 (fun wx => wx.cell? ⟨g, q * 3, none⟩ = some (.int .i64 f) ∧ wx.cell? ⟨g, q * 3 + 1, none⟩ = some (.int .i64 ed) ∧ Hid (Below w2.heap.size w2 wx))
        (first | exact HS.out | assumption)
        (first | (go_at_call 15; refine (C15.out _ (by assumption)).mono ?_; rintro e w5 ⟨gu, cu, rfl, ⟨hu1, hu2⟩, ⟨n0, n1⟩, hgu, hs5⟩))
      have hL5 : Below w2.heap.size w2 w5 := by
        have hh : w5.cell? ⟨g, q * 3, none⟩ = some (.int .i64 f) ∧ w5.cell? ⟨g, q * 3 + 1, none⟩ = some (.int .i64 ed) ∧ Hid (Below w2.heap.size w2 w5) := by assumption
        exact hh.2.2.out
      have HL5 := Lib.hid hL5
      have HT5 := Lib.hid (HT2.out.below hL5)
      have c16 : ∀ wx z, (wx.cell? ⟨gu, 2, none⟩ = some (.int .i64 xc) ∧ wx.cell? ⟨gu, (nu - 1) * 3 + 2, none⟩ = some (.int .i64 yc) ∧ Hid (Below w5.heap.size w5 wx)) →
          Calls Tryd.prog 16 #[v1, .int .i64 z] wx fun e w' => e = .returned (.int .i64 (Cls.ofT Cls.tab z)) ∧ (w'.cell? ⟨gu, 2, none⟩ = some (.int .i64 xc) ∧ w'.cell? ⟨gu, (nu - 1) * 3 + 2, none⟩ = some (.int .i64 yc) ∧ Hid (Below w5.heap.size w5 w')) := by
        intro wx z hx
        refine (Cls.rof_any v1 Cls.tab z wx (HT5.out.below hx.2.2.out).1).mono ?_
        rintro e w' ⟨he, hb⟩
        have hb' := hx.2.2.out.trans (hb.mono hx.2.2.out.size)
        exact ⟨he, (hb'.cell (p := ⟨gu, _, none⟩) hgu).trans n0, (hb'.cell (p := ⟨gu, _, none⟩) hgu).trans n1, hb'⟩
      have C16 := Lib.hid c16
      have hS5 : w5.drew.cell? ⟨gu, 2, none⟩ = some (.int .i64 xc) ∧ w5.drew.cell? ⟨gu, (nu - 1) * 3 + 2, none⟩ = some (.int .i64 yc) ∧ Hid (Below w5.heap.size w5 w5.drew) := ⟨n0, n1, below_draw (Below.refl _ _)⟩
      have HS5 := Lib.hid hS5
      have z1 : (0 : Int) ≤ (nu : Int) - 1 := by omega
      have z2 : (1 : Int) ≤ nu := by omega
      have z3 : (nu : Int) - 1 < nu := by omega
      have z4 : ((nu : Int) - 1).toNat = nu - 1 := by omega
      have z5 : (0 : Int) < nu := by omega
      have z6 : IntKind.i64.wrap ((nu : Int) - 1) = (nu : Int) - 1 := IntWalk.i64_in _ (by omega)
      clear hL5 c16 hS5 p0 p1
      unfold maxLen at hu2
      go_wp2_with fail
      go_region_held3 (fun wx => wx.cell? ⟨gu, 2, none⟩ = some (.int .i64 xc) ∧ wx.cell? ⟨gu, (nu - 1) * 3 + 2, none⟩ = some (.int .i64 yc) ∧ Hid (Below w5.heap.size w5 wx))
        (first | exact HS5.out | assumption)
        (first | (go_at_call 16; refine (C16.out _ _ (by assumption)).mono ?_; rintro e w6 ⟨rfl, hs6⟩))
      all_goals
        have hL6 : Below w5.heap.size w5 w6 := by
          have hh : w6.cell? ⟨gu, 2, none⟩ = some (.int .i64 xc) ∧ w6.cell? ⟨gu, (nu - 1) * 3 + 2, none⟩ = some (.int .i64 yc) ∧ Hid (Below w5.heap.size w5 w6) := by assumption
          exact hh.2.2.out
        have HL6 := Lib.hid (HL5.out.trans (hL6.mono HL5.out.size))
        clear hL6 z6
        rcases KX'.out with kx | kx <;> rcases KY'.out with ky | ky
        all_goals
          go_wp2_with fail
          go_roundw
          case rel => exact ⟨q + 1, ed, by omega, by go_num, rfl, R3.out, HL6.out⟩
          case measure => simp [RowKit.intOf]; omega
    · have HBL := Lib.hid (HB2.out.trans (HL.out.mono HB2.out.size))
      have HTL := Lib.hid (HT2.out.below HL.out)
      have hm2 : (((2 * m : Nat) : Int) == 2 * (m : Int)) = true := by simp
      have hm3 : (m : Int) ≤ 1500 := by omega
      have hm4 : (0 : Int) ≤ m := by omega
      go_wp2_with fail
      refine (C9D.out _ _ HTL.out).mono ?_
      rintro e w6 ⟨A6, cap6, rfl, hb6⟩
      have HB6 := Lib.hid (HBL.out.trans (hb6.mono HBL.out.size))
      clear hb6
      go_wp2_with fail
      refine (W8.out _ (HW.out.below HB6.out)).mono ?_
      rintro e w7 ⟨rfl, hb7⟩
      have HB7 := Lib.hid (HB6.out.trans (hb7.mono HB6.out.size))
      clear hb7
      go_wp2_with fail
      go_ret
      exact ⟨rfl, HB7.out⟩
end Go.Proofs.YtmebboadadlahaaDoor
