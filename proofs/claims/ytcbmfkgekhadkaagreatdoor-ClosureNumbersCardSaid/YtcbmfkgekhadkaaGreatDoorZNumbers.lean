/- Stage 13's law ClosureNumbers by contract: files by numbers; turned round, the same forms. -/
import Derived.Test.YtcbmfkgekhadkaaGreatDoorZNd
import Derived.Test.YtcbmfkgekhadkaaGreatDoorZNc
import Derived.Test.YtcbmfkgekhadkaaGreatDoorZParseE
import Derived.Test.YtcbmfkgekhadkaaGreatDoorVParse
import Derived.Test.YtcbmfkgekhadkaaGreatDoorZLawAll
import Derived.Deep.CutRange
import Derived.Deep.DeepCutAuto
import Derived.Deep.RegionLaw
import Derived.Deep.AppendLies
import Derived.BigRegion
namespace Go.Proofs.YtcbmfkgekhadkaaGreatDoor
open Go Go.RowKit Go.Lib

theorem ruOk_fit {r : Ru} (h : ruOk r = true) : FitR r ∧ MidR r ∧ In64 r.flag := by
  obtain ⟨h1, h2, h3, h4, h5, h6⟩ := ruOk_says h
  exact ⟨⟨by omega, fun it hit => by have := h2 it hit; omega, by omega, by omega⟩, ⟨by omega, fun it hit => by have := h2 it hit; omega, by omega, by omega⟩, ⟨by omega, by omega⟩⟩
theorem num_arg {rs : List Ru} {e : En} (hr : ∀ r ∈ rs, ruOk r = true) (hn : rs.length ≤ 10) (he : enOk e = true) : ZArg rs e := by
  obtain ⟨h1, h2, h3⟩ := enOk_says he
  exact ⟨fun r h => (ruOk_fit (hr r h)).1, fun r h => (ruOk_fit (hr r h)).2.2, fun f hf => by have := h3 f hf; exact ⟨by omega, by omega⟩, by omega, by omega, by omega⟩

theorem aff_rules {w : World} {a : Af} {RA PB : Option Addr} {rn rc pn pc : Nat} (h : AffAt w (.agg #[.slice RA rn rc, .slice PB pn pc]) a) : RulesAt w (.slice RA rn rc) a.rules ∧ rn = a.rules.length := by
  obtain ⟨A, c, A', c', e, h1, h2⟩ := h
  simp only [Value.agg.injEq, Array.mk.injEq, List.cons.injEq, Value.slice.injEq, and_true] at e
  obtain ⟨⟨rfl, rfl, rfl⟩, -⟩ := e
  exact ⟨h1, rfl⟩
theorem rules_some {w : World} {RA : Option Addr} {rn rc : Nat} {rs : List Ru} (h : RulesAt w (.slice RA rn rc) rs) (h0 : 0 < rs.length) : ∃ b off, RA = some ⟨b, off, none⟩ ∧ rn ≤ rc := by
  rcases h with ⟨rfl, _⟩ | ⟨b, off, cap, e, h1, h2, h3, h4⟩
  · simp at h0
  · injection e with e1 e2 e3
    exact ⟨b, off, e1, by omega⟩
theorem ents_some {w : World} {v : Value} {es : List En} (h : EntsAt w v es) (h0 : es ≠ []) : ∃ b off c, v = .slice (some ⟨b, off, none⟩) es.length c ∧ es.length ≤ c := by
  rcases h with ⟨rfl, _⟩ | ⟨b, off, cap, e, h1, h2, h3, h4⟩
  · exact absurd rfl h0
  · exact ⟨b, off, cap, e, h2⟩

theorem all_turned (W : World) (vR vE : Value) (rs rs' : List Ru) (es es' : List En) (hr : RulesAt W vR rs') (he : EntsAt W vE es') (hT : Tabs9 W) (hm : ∀ r, r ∈ rs ↔ r ∈ rs') (hm2 : ∀ e, e ∈ es ↔ e ∈ es') (hrs : ∀ r ∈ rs, ruOk r = true) (hes : ∀ e ∈ es, enOk e = true) (h1 : rs'.length ≤ 10) (h2 : es'.length ≤ 30) :
    Calls Tryz.prog 17 #[vR, vE] W fun e w' => ∃ v', e = .returned (.tuple #[v', .int .i64 0]) ∧ StrsAt w' v' (allF rs es) ∧ Below W.heap.size W w' := by
  have h := all_any W vR vE rs' es' hr he hT ⟨by omega, fun r h => (ruOk_fit (hrs r ((hm r).2 h))).2.2⟩ (by omega) (fun e h => num_arg (fun r h => hrs r ((hm r).2 h)) h1 (hes e ((hm2 e).2 h)))
  rw [allL_ok h1 h2, ← allF_same hm hm2] at h
  refine h.mono ?_
  rintro e w' ⟨v', c, rfl, hs, rfl, hb⟩
  exact ⟨v', rfl, hs, hb⟩

set_option maxRecDepth 100000 in
set_option maxHeartbeats 2000000 in
theorem numbers_law (w : World) (x : Int) (v : Value) (l : List Int) (t : Int) (hI : IntsAt w v l) (hT : Tabs9 w) :
    Calls Tryz.prog 4 #[.int .i64 x, v, .int .i64 t] w fun e w' => e = .returned (.bool true) ∧ Below w.heap.size w w' := by
  have CA := Lib.hid (affix13_any x w)
  have CL := Lib.hid (fun W (h : Below w.heap.size w W) => list_any W v l (hI.keep h))
  have HT := Lib.hid hT
  obtain ⟨es, hes⟩ : ∃ es, es = esOf ((keys l).map itemL) := ⟨_, rfl⟩
  have hlp := list_parse (ks := keys l) (by rw [keys_len]; omega)
  have hll := listL_len (keys l)
  have hkl := keys_len l
  rw [← hes] at hlp
  have HEO := Lib.hid (show (∀ e ∈ es, enOk e = true) ∧ es.length ≤ 30 from ⟨by rw [hes]; exact items_few _, by rw [hes, items_es, keys_len]; omega⟩)
  have CP2 := Lib.hid (fun W => eparseZ_any W ⟨(listL (keys l)).toArray⟩ (by rw [ba_len]; omega))
  rw [hlp] at CP2
  clear hlp hll hkl hT hes hI
  go_enter Tryz.func4, Tryz.ntmps4
  go_upto_region 2 with (first
    | (go_at_call 14; refine CA.out.mono ?_; rintro e wa ⟨⟨S, rfl, hS1, hS2⟩, hwx⟩; subst hwx; have CP := Lib.hid (rparseA_any wa S (by omega)); have HS := Lib.hid (affOk_says hS2))
    | (go_at_call 13; refine CP.out.mono ?_; rintro e w1 ⟨v1, rfl, hv1, hb1⟩; obtain ⟨RA, rn, rc, PB, pn, pc, rfl, hrn, hpn⟩ := af_at hv1; have HV := Lib.hid (And.intro (aff_rules hv1) hb1); clear hv1 hb1 hrn hpn))
  obtain ⟨rs, hrs⟩ : ∃ rs, rs = (parseA S).1.rules := ⟨_, rfl⟩
  rw [← hrs] at HV HS
  obtain ⟨bx, hbx⟩ : ∃ b, b = w1.heap.size := ⟨_, rfl⟩
  obtain ⟨W3, hW3⟩ : ∃ W, W = w1.alloc (.cells #[.slice RA rn rc, .slice PB pn pc] 34) := ⟨_, rfl⟩
  have z3 : W3.heap[bx]? = some (.cells #[.slice RA rn rc, .slice PB pn pc] 34 (0, 0)) := by rw [hW3, hbx]; exact World.alloc_heap_new _ _
  have hb3 : Below w1.heap.size w1 W3 := by rw [hW3]; exact (Below.refl _ _).alloc (Nat.le_refl _) _
  have H3 := Lib.hid (show RulesAt W3 (.slice RA rn rc) rs ∧ rn = rs.length ∧ Below wa.heap.size wa W3 from ⟨HV.out.1.1.keep hb3, HV.out.1.2, HV.out.2.trans (hb3.mono HV.out.2.size)⟩)
  have HZ3 := Lib.hid z3
  rw [← hbx, ← hW3]
  clear hrs hbx hW3 z3 hb3 HV CP CA
  go_upto_region 3 with (first
    | (go_at_call 16; refine (CL.out _ H3.out.2.2).mono ?_; rintro e w2 ⟨rfl, hb2⟩; have HB2 := Lib.hid hb2; clear hb2)
    | (go_at_call 15; refine (CP2.out _).mono ?_; rintro e w4 ⟨v4, rfl, he4, hb4, hn4⟩; have H4 := Lib.hid (And.intro he4 (And.intro hb4 hn4)); clear he4 hb4 hn4))
  have hb4 : Below wa.heap.size wa w4 := (H3.out.2.2.trans (HB2.out.mono H3.out.2.2.size)).trans (H4.out.2.1.mono (Nat.le_trans H3.out.2.2.size HB2.out.size))
  have hb34 : Below W3.heap.size W3 w4 := HB2.out.trans (H4.out.2.1.mono HB2.out.size)
  have HBX := Lib.hid (show ∀ W, Below w4.heap.size w4 W → W.cell? ⟨bx, 0, none⟩ = some (.slice RA rn rc) from fun W h => by
    have hlt := (Array.getElem?_eq_some_iff.1 HZ3.out).1
    have h1 := ((hb34.trans (h.mono hb34.size)).block bx hlt).trans HZ3.out
    rw [cell_of_row _ _ _ _ _ _ h1]
    rfl)
  have HRU := Lib.hid (show ∀ W, Below w4.heap.size w4 W → RulesAt W (.slice RA rn rc) rs from fun W h => H3.out.1.keep (hb34.trans (h.mono hb34.size)))
  have HTB := Lib.hid (show ∀ W, Below w4.heap.size w4 W → Tabs9 W from fun W h => tabs_below HT.out (hb4.trans (h.mono hb4.size)))
  have HBW := Lib.hid hb4
  have HPE := Lib.hid (show PartE w4 v4 es by
    by_cases h0 : es = []
    · exact .inl ⟨H4.out.2.2 h0, h0⟩
    · obtain ⟨b, off, c, e, _⟩ := ents_some H4.out.1 h0
      have h1 := H4.out.1
      rw [e] at h1 ⊢
      have h2 := (part_ents h1 (List.length_pos_iff.2 h0) es.length c (Nat.le_refl _)).1
      rwa [List.take_of_length_le (Nat.le_refl _)] at h2)
  obtain ⟨L, hL⟩ : ∃ L, L = allF rs es := ⟨_, rfl⟩
  have HAL := Lib.hid (fun W vR vE rs' es' hr he (hb : Below w4.heap.size w4 W) hm hm2 h1 h2 => all_turned W vR vE rs rs' es es' hr he (HTB.out W hb) hm hm2 HS.out.2.2 HEO.out.1 h1 h2)
  rw [← hL] at HAL
  have HLL := Lib.hid hL
  obtain ⟨ln, hln⟩ : ∃ n, n = L.length := ⟨_, rfl⟩
  have HLN := Lib.hid hln
  have HD0 := Lib.hid (show Below w4.heap.size w4 w4.drew from (Below.refl _ _).drew)
  have y0 := HBX.out w4.drew HD0.out
  clear hb4 hb34 hL hln
  go_cut [13, 14] (fun s13 s14 wx => ∃ A c, s13 = .slice A ln c ∧ s14 = .int .i64 0 ∧ Hid (StrsAt wx (.slice A ln c) L ∧ Below w4.heap.size w4 wx))
  case first =>
    go_region_law (first
      | (refine step_ents (by rfl) _ _ (by rfl) (TQ2.start HD0.out) (by rfl) (by rfl) HPE.out (by have := HEO.out.2; simp <;> omega) ?_; intro u5 w5 hq5; have HQ5 := Lib.hid hq5; have y5 := HBX.out w5 hq5.below; clear hq5)
      | (go_simp; go_at_call 17; refine (HAL.out _ _ _ rs es (HRU.out _ HQ5.out.below) (by simpa using HQ5.out.ents) HQ5.out.below (fun _ => Iff.rfl) (fun _ => Iff.rfl) HS.out.2.1 HEO.out.2).mono ?_; rintro e w6 ⟨v6, rfl, hs6, hb6⟩; obtain ⟨A6, c6, rfl⟩ := strs_form hs6; have H6 := Lib.hid (And.intro hs6 (HQ5.out.below.trans (hb6.mono HQ5.out.below.size))); clear hs6 hb6))
    all_goals
      rw [← HLN.out] at H6
      go_wp2_with fail
      go_meet
      exact ⟨A6, c6, by rw [HLN.out], rfl, H6⟩
  case rest =>
    obtain ⟨A6, c6, rfl, rfl, H6⟩ := hcut
    obtain ⟨W6, hW6⟩ : ∃ W, W = wc := ⟨_, rfl⟩
    rw [← hW6] at H6 ⊢
    clear hW6 y0
    have y6 := HBX.out W6 H6.out.2
    have h13 := all13_any W6 (.slice RA rn rc) v4 rs es (HRU.out W6 H6.out.2) (H4.out.1.keep H6.out.2) (fun r h => (ruOk_fit (HS.out.2.2 r h)).2.1) (by have := HS.out.2.1; omega) (by have := HEO.out.2; omega) (fun e h => by have := (enOk_says (HEO.out.1 e h)).1; omega)
    rw [allL_ok HS.out.2.1 HEO.out.2, ← HLL.out] at h13
    have C13 := Lib.hid h13
    obtain ⟨j, hj⟩ : ∃ j : Nat, t % (rn : Int) = j := ⟨(t % (rn : Int)).toNat, by have := Int.emod_nonneg t (show (rn : Int) ≠ 0 by have := H3.out.2.1; have := HS.out.1; omega); omega⟩
    have hrn0 : 0 < rn := by have := H3.out.2.1; have := HS.out.1; omega
    have hrn9 : rn ≤ 10 := by have := H3.out.2.1; have := HS.out.2.1; omega
    have hjn : j < rn := by have := Int.emod_lt_of_pos t (show (0 : Int) < rn by omega); omega
    have PJ := Lib.hid (fun W => place9 t (rn : Int) W (by omega) (by omega))
    rw [hj] at PJ
    clear h13 hj
    go_upto_region 6 with (first
      | (go_at_call 18; refine C13.out.mono ?_; rintro e w7 ⟨v7, c7, rfl, hs7, hc7, hb7⟩; subst hc7; obtain ⟨A7, c7, rfl⟩ := strs_form hs7; have H7 := Lib.hid (And.intro hs7 hb7); have y7 := HBX.out w7 (H6.out.2.trans (hb7.mono H6.out.2.size)); clear hs7 hb7)
      | (go_at_call 19; refine (PJ.out _).mono ?_; rintro e wz ⟨rfl, hwz⟩; subst hwz))
    rw [← HLN.out] at H7 ⊢
    have HB7 := Lib.hid (H6.out.2.trans (H7.out.2.mono H6.out.2.size))
    obtain ⟨rb, ro, hRA, hrnc⟩ := rules_some (HRU.out w4 (Below.refl _ _)) (by have := HS.out.1; omega)
    subst hRA
    have HBY := Lib.hid (fun W (h : Below w7.heap.size w7 W) => HB7.out.trans (h.mono HB7.out.size))
    have hpr := fun c => part_rules (HRU.out w7 HB7.out) hrn0 j c (by omega)
    have HR1 := Lib.hid (hpr (rc - j)).2
    have HR2 := Lib.hid (hpr rc).1
    have HL9 := Lib.hid (show rs.length ≤ 10 ∧ es.length ≤ 30 from ⟨HS.out.2.1, HEO.out.2⟩)
    have HQ := Lib.hid (TQ2.start (B := w7) (w := w7.drew) (Below.refl _ _).drew)
    have yy := HBX.out w7.drew HB7.out.drew
    have j1 : (j : Int) ≤ rn := by omega
    have j2 : (rn : Int) ≤ rc := by omega
    have j3 : (j : Int) ≤ rc := by omega
    have j4 : ¬ rc = j := by omega
    clear hpr C13 PJ CP2 CL hS1 hS2
    by_cases hes : es = []
    · have hv := H4.out.2.2 hes
      subst hv hes
      have HE1 := Lib.hid (show PartE w7 (.slice none 0 0) ([] : List En) from .inl ⟨rfl, rfl⟩)
      have HE2 := HE1
      go_upto_region 8 with fail
      go_cut [19, 20] (fun s19 s20 wx => ∃ A c, s19 = .slice A ln c ∧ s20 = .int .i64 0 ∧ Hid (StrsAt wx (.slice A ln c) L ∧ Below w7.heap.size w7 wx))
      case first =>
        go_region_law (first
          | (refine step_rules (by rfl) _ _ (by rfl) HQ.out (by rfl) (by rfl) HR1.out (by have := HL9.out.1; simp <;> omega) ?_; intro vv ww hq; have HQ := Lib.hid hq; have yy := HBX.out ww (HBY.out ww hq.below); clear hq)
          | (refine step_rules (by rfl) _ _ (by rfl) HQ.out (by rfl) (by rfl) HR2.out (by have := HL9.out.1; simp <;> omega) ?_; intro vv ww hq; have HQ := Lib.hid hq; have yy := HBX.out ww (HBY.out ww hq.below); clear hq)
          | (refine step_ents (by rfl) _ _ (by rfl) HQ.out (by rfl) (by rfl) HE1.out (by have := HL9.out.2; simp <;> omega) ?_; intro vv ww hq; have HQ := Lib.hid hq; have yy := HBX.out ww (HBY.out ww hq.below); clear hq)
          | (refine step_ents (by rfl) _ _ (by rfl) HQ.out (by rfl) (by rfl) HE2.out (by have := HL9.out.2; simp <;> omega) ?_; intro vv ww hq; have HQ := Lib.hid hq; have yy := HBX.out ww (HBY.out ww hq.below); clear hq)
          | (go_simp; go_at_call 17; refine (HAL.out _ _ _ (rs.drop j ++ rs.take j) [] (by simpa using HQ.out.rules) (by simpa using HQ.out.ents) (HBY.out _ HQ.out.below) (fun r => (turn_mem rs j r).symm) (fun e => Iff.rfl) (by have := HL9.out.1; have := HS.out.2.1; simp <;> omega) (by have := HEO.out.2; simp <;> omega)).mono ?_; rintro e w8 ⟨v8, rfl, hs8, hb8⟩; obtain ⟨A8, c8, rfl⟩ := strs_form hs8; have H8 := Lib.hid (And.intro hs8 (HQ.out.below.trans (hb8.mono HQ.out.below.size))); clear hs8 hb8))
        all_goals
          rw [← HLN.out] at H8
          go_wp2_with fail
          go_meet
          exact ⟨A8, c8, by rw [HLN.out], rfl, H8⟩
      case rest =>
        obtain ⟨A8, c8, rfl, rfl, H8⟩ := hcut
        have hb8 : Below w4.heap.size w4 wc := HB7.out.trans (H8.out.2.mono HB7.out.size)
        have HX6 := Lib.hid (H6.out.1.keep (H7.out.2.trans (H8.out.2.mono H7.out.2.size)))
        have HX7 := Lib.hid (H7.out.1.keep H8.out.2)
        have HWC := Lib.hid (HBW.out.trans (hb8.mono HBW.out.size))
        have HTC := Lib.hid (HTB.out wc hb8)
        have hLL : decide (L = L) = true := decide_eq_true rfl
        have CSG := Lib.hid (show ∀ W vX vY, StrsAt W vX L → StrsAt W vY L → Calls Tryz.prog 10 #[vX, vY] W fun e w' => e = .returned (.bool true) ∧ Below W.heap.size W w' from fun W vX vY h1 h2 => by
          have h := sames_any W vX vY L L h1 h2
          unfold SameE at h
          rw [hLL] at h
          exact h)
        have AW := Lib.hid (fun W (h : Below wc.heap.size wc W) => awake13_any W (tabs_below HTC.out h))
        clear hLL hb8
        go_wp2_with (first
          | (go_at_call 9; refine (AW.out _ HB9.out).mono ?_; rintro e we ⟨rfl, hbe⟩; have HBE := Lib.hid (HB9.out.trans (hbe.mono HB9.out.size)); clear hbe)
          | (go_at_call 10; refine (CSG.out _ _ _ (by first | exact HX6.out | exact HX6.out.keep HB9.out) (by first | exact HX7.out | exact H8.out.1.keep HB9.out)).mono ?_; rintro e wd ⟨rfl, hbd⟩; have HB9 : Hid (Below wc.heap.size wc wd) := Lib.hid (by first | exact hbd | exact HB9.out.trans (hbd.mono HB9.out.size)); clear hbd))
        go_ret
        exact ⟨rfl, HWC.out.trans (HBE.out.mono HWC.out.size)⟩
    · obtain ⟨eb, eo, ec, rfl, hec⟩ := ents_some H4.out.1 hes
      obtain ⟨en, hen⟩ : ∃ n, n = es.length := ⟨_, rfl⟩
      have hen0 : 0 < en := by rw [hen]; exact List.length_pos_iff.2 hes
      have hen30 : en ≤ 30 := by have := HEO.out.2; omega
      rw [← hen] at H4 hec HPE ⊢
      have HEN := Lib.hid hen
      obtain ⟨kk, hkk⟩ : ∃ j : Nat, t % (en : Int) = j := ⟨(t % (en : Int)).toNat, by have := Int.emod_nonneg t (show (en : Int) ≠ 0 by omega); omega⟩
      have hkn : kk < en := by have := Int.emod_lt_of_pos t (show (0 : Int) < en by omega); omega
      have PK := Lib.hid (fun W => place9 t (en : Int) W (by omega) (by omega))
      rw [hkk] at PK
      have hpe := fun c => part_ents (H4.out.1.keep HB7.out) hen0 kk c (by omega)
      have HE1 := Lib.hid (hpe (ec - kk)).2
      have HE2 := Lib.hid (hpe ec).1
      have k0 : (0 : Int) < en := by omega
      have k1 : (kk : Int) ≤ en := by omega
      have k2 : (en : Int) ≤ ec := by omega
      have k3 : (kk : Int) ≤ ec := by omega
      have k4 : ¬ ec = kk := by omega
      clear hes hen hkk hpe
      go_upto_region 8 with (go_at_call 19; refine (PK.out _).mono ?_; rintro e wz ⟨rfl, hwz⟩; subst hwz)
      go_cut [19, 20] (fun s19 s20 wx => ∃ A c, s19 = .slice A ln c ∧ s20 = .int .i64 0 ∧ Hid (StrsAt wx (.slice A ln c) L ∧ Below w7.heap.size w7 wx))
      case first =>
        go_region_law (first
          | (refine step_rules (by rfl) _ _ (by rfl) HQ.out (by rfl) (by rfl) HR1.out (by have := HL9.out.1; simp <;> omega) ?_; intro vv ww hq; have HQ := Lib.hid hq; have yy := HBX.out ww (HBY.out ww hq.below); clear hq)
          | (refine step_rules (by rfl) _ _ (by rfl) HQ.out (by rfl) (by rfl) HR2.out (by have := HL9.out.1; simp <;> omega) ?_; intro vv ww hq; have HQ := Lib.hid hq; have yy := HBX.out ww (HBY.out ww hq.below); clear hq)
          | (refine step_ents (by rfl) _ _ (by rfl) HQ.out (by rfl) (by rfl) HE1.out (by have := HL9.out.2; simp <;> omega) ?_; intro vv ww hq; have HQ := Lib.hid hq; have yy := HBX.out ww (HBY.out ww hq.below); clear hq)
          | (refine step_ents (by rfl) _ _ (by rfl) HQ.out (by rfl) (by rfl) HE2.out (by have := HL9.out.2; simp <;> omega) ?_; intro vv ww hq; have HQ := Lib.hid hq; have yy := HBX.out ww (HBY.out ww hq.below); clear hq)
          | (go_simp; go_at_call 17; refine (HAL.out _ _ _ (rs.drop j ++ rs.take j) (es.drop kk ++ es.take kk) (by simpa using HQ.out.rules) (by simpa using HQ.out.ents) (HBY.out _ HQ.out.below) (fun r => (turn_mem rs j r).symm) (fun e => (turn_mem es kk e).symm) (by have := HL9.out.1; have := HS.out.2.1; simp <;> omega) (by have := HEO.out.2; simp <;> omega)).mono ?_; rintro e w8 ⟨v8, rfl, hs8, hb8⟩; obtain ⟨A8, c8, rfl⟩ := strs_form hs8; have H8 := Lib.hid (And.intro hs8 (HQ.out.below.trans (hb8.mono HQ.out.below.size))); clear hs8 hb8))
        all_goals
          rw [← HLN.out] at H8
          go_wp2_with fail
          go_meet
          exact ⟨A8, c8, by rw [HLN.out], rfl, H8⟩
      case rest =>
        obtain ⟨A8, c8, rfl, rfl, H8⟩ := hcut
        have hb8 : Below w4.heap.size w4 wc := HB7.out.trans (H8.out.2.mono HB7.out.size)
        have HX6 := Lib.hid (H6.out.1.keep (H7.out.2.trans (H8.out.2.mono H7.out.2.size)))
        have HX7 := Lib.hid (H7.out.1.keep H8.out.2)
        have HWC := Lib.hid (HBW.out.trans (hb8.mono HBW.out.size))
        have HTC := Lib.hid (HTB.out wc hb8)
        have hLL : decide (L = L) = true := decide_eq_true rfl
        have CSG := Lib.hid (show ∀ W vX vY, StrsAt W vX L → StrsAt W vY L → Calls Tryz.prog 10 #[vX, vY] W fun e w' => e = .returned (.bool true) ∧ Below W.heap.size W w' from fun W vX vY h1 h2 => by
          have h := sames_any W vX vY L L h1 h2
          unfold SameE at h
          rw [hLL] at h
          exact h)
        have AW := Lib.hid (fun W (h : Below wc.heap.size wc W) => awake13_any W (tabs_below HTC.out h))
        clear hLL hb8
        go_wp2_with (first
          | (go_at_call 9; refine (AW.out _ HB9.out).mono ?_; rintro e we ⟨rfl, hbe⟩; have HBE := Lib.hid (HB9.out.trans (hbe.mono HB9.out.size)); clear hbe)
          | (go_at_call 10; refine (CSG.out _ _ _ (by first | exact HX6.out | exact HX6.out.keep HB9.out) (by first | exact HX7.out | exact H8.out.1.keep HB9.out)).mono ?_; rintro e wd ⟨rfl, hbd⟩; have HB9 : Hid (Below wc.heap.size wc wd) := Lib.hid (by first | exact hbd | exact HB9.out.trans (hbd.mono HB9.out.size)); clear hbd))
        go_ret
        exact ⟨rfl, HWC.out.trans (HBE.out.mono HWC.out.size)⟩
end Go.Proofs.YtcbmfkgekhadkaaGreatDoor
