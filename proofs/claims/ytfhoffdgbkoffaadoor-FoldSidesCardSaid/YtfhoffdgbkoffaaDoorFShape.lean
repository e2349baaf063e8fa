/- fold.Shape by contract. -/
import Derived.Test.YtfhoffdgbkoffaaDoorFSmall
namespace Go.Proofs.YtfhoffdgbkoffaaDoor
open Go Go.RowKit Go.Lib

theorem codes_take {s : List UInt8} {k : Nat} {u : Nat × Nat × Int} (h : (units 0 s)[k]? = some u) : (codesT s).take (k + 1) = (codesT s).take k ++ [u.2.2] := by
  rw [List.take_add_one, codesT_units, List.getElem?_map, h]
  rfl
theorem greats_snoc (ps : List (Int × Int)) (cs : List Int) (c : Int) : greatsC ps (cs ++ [c]) = greatsC ps cs + if (smC ps c).isSome = true then 1 else 0 := by
  unfold greatsC
  rw [List.countP_append]
  simp [List.countP_cons]
theorem smalls_snoc (ps : List (Int × Int)) (cs : List Int) (c : Int) : smallsC ps (cs ++ [c]) = smallsC ps cs + if (grC ps c).isSome = true then 1 else 0 := by
  unfold smallsC
  rw [List.countP_append]
  simp [List.countP_cons]
theorem first_snoc (ps : List (Int × Int)) (cs : List Int) (c : Int) : firstC ps (cs ++ [c]) = if cs = [] then (smC ps c).isSome else firstC ps cs := by
  cases cs with
  | nil => simp [firstC]
  | cons x t => simp [firstC]
theorem greats_len (ps : List (Int × Int)) (cs : List Int) : greatsC ps cs ≤ cs.length := List.countP_le_length
theorem smalls_len (ps : List (Int × Int)) (cs : List Int) : smallsC ps cs ≤ cs.length := List.countP_le_length

theorem first_turn (ps : List (Int × Int)) {cs : List Int} {k ua : Nat} {c : Int} (hk : k < cs.length) (ht : cs.take (k + 1) = cs.take k ++ [c]) (hu : ua = 0 ↔ k = 0) :
    firstC ps (cs.take (k + 1)) = if (smC ps c).isSome = true then (firstC ps (cs.take k) || decide (ua = 0)) else firstC ps (cs.take k) := by
  rw [ht, first_snoc]
  by_cases h0 : k = 0
  · subst h0
    have hua : ua = 0 := hu.2 rfl
    have e : cs.take 0 = [] := rfl
    rw [e, if_pos rfl, hua]
    cases (smC ps c).isSome <;> rfl
  · have hne : cs.take k ≠ [] := by
      intro e
      have := congrArg List.length e
      rw [List.length_take, List.length_nil] at this
      omega
    have hd : decide (ua = 0) = false := decide_eq_false (fun e => h0 (hu.1 e))
    rw [if_neg hne, hd, Bool.or_false]
    split <;> rfl

set_option maxRecDepth 100000 in
set_option maxHeartbeats 2000000 in
theorem shape_any (w : World) (v : Value) (ps : List (Int × Int)) (s : ByteArray) (h : PairsAt w v ps) (hn : ps.length ≤ 1000000) (hin : ∀ p ∈ ps, I64 p.1 ∧ I64 p.2) (hs : s.size ≤ 1000000000) :
    Calls Tryd.prog 10 #[v, .string s] w fun e w' => e = .returned (.int .i64 (shapeT ps s.data.toList)) ∧ Below w.heap.size w w' := by
  have CL := Lib.hid (letters_any w v ps h hn hin)
  have CA := Lib.hid (fun wx => all_any s wx (by omega))
  obtain ⟨us, hus⟩ : ∃ us, us = units 0 s.data.toList := ⟨_, rfl⟩
  obtain ⟨m, hm⟩ : ∃ m, m = us.length := ⟨_, rfl⟩
  have hml : m ≤ s.size := by rw [hm, hus, Lib.size_eq]; exact units_length_le _ 0
  rw [← hus] at CA
  have hcl : (codesT s.data.toList).length = m := by rw [codesT_units, List.length_map, ← hus, ← hm]
  have HU := Lib.hid (And.intro hus (And.intro hm hcl))
  obtain ⟨R, hR⟩ : ∃ R, R = shapeT ps s.data.toList := ⟨_, rfl⟩
  rw [← hR]
  have HR := Lib.hid hR
  obtain ⟨A, cap, rfl⟩ := pairs_form h
  generalize ps.length = n at *
  clear h hin hus hm hR hcl
  go_enter Tryd.func10, Tryd.ntmps10
  go_wp2_with fail
  refine CL.out.mono ?_
  rintro e w1 ⟨a, b, rfl, htm, hb1⟩
  have HTM := Lib.hid (And.intro htm hb1)
  clear CL htm hb1
  go_wp2_with fail
  refine (CA.out _).mono ?_
  rintro e w2 ⟨vu, rfl, hown, hb2⟩
  obtain ⟨wb, hwb⟩ : ∃ wb, wb = w1.alloc (.cells #[.map (some a), .map (some b)] 52) := ⟨_, rfl⟩
  have q0 : wb.heap[w1.heap.size]? = some (.cells #[.map (some a), .map (some b)] 52 (0, 0)) := by rw [hwb]; exact heap_top _ _ rfl
  have qs : wb.heap.size = w1.heap.size + 1 := by rw [hwb]; simp
  have qb : Below w1.heap.size w1 wb := by rw [hwb]; exact (Below.refl _ _).alloc (Nat.le_refl _) _
  rw [← hwb] at hown hb2
  clear hwb
  obtain ⟨A2, cap2, rfl, hmc, hcells⟩ := us_open hown
  rw [← HU.out.2.1] at hmc ⊢
  obtain ⟨Q, hQ⟩ : ∃ Q, Q = w1.heap.size := ⟨_, rfl⟩
  rw [← hQ] at q0 qs ⊢
  have hs2 := hb2.size
  have r0 : w2.heap[Q]? = some (.cells #[.map (some a), .map (some b)] 52 (0, 0)) := (hb2.block Q (by omega)).trans q0
  have hbw : Below w.heap.size w w2 := (HTM.out.2.trans (qb.mono HTM.out.2.size)).trans (hb2.mono (by have := HTM.out.2.size; omega))
  have htm2 : TwoM w2 a b n ps := (HTM.out.1.keep qb).keep hb2
  have HC := Lib.hid hcells
  have HM := Lib.hid (And.intro r0 (And.intro hbw htm2))
  have HB0 : Hid (Below w2.heap.size w2 w2) := Lib.hid (Below.refl _ _)
  clear hcells hQ q0 qs qb hs2 r0 hbw htm2 hown hb2 HTM CA
  go_wp2_with fail
  go_loopg [6, 7, 8, 20] m (fun gh g1 g2 g3 i wr => ∃ (k gn mn : Nat) (fb : Bool), k + gh = m ∧ i = .int .i64 k ∧ g1 = .int .i64 gn ∧ g2 = .int .i64 mn ∧ g3 = .bool fb ∧ gn ≤ k ∧ mn ≤ k ∧
    Hid (gn = greatsC ps ((codesT s.data.toList).take k) ∧ mn = smallsC ps ((codesT s.data.toList).take k) ∧ fb = firstC ps ((codesT s.data.toList).take k) ∧ Below w2.heap.size w2 wr))
  case atStart => exact ⟨0, 0, 0, false, by omega, rfl, rfl, rfl, rfl, Nat.le_refl _, Nat.le_refl _, Lib.hid ⟨rfl, rfl, rfl, HB0.out⟩⟩
  case round =>
    obtain ⟨k, gn, mn, fb, hk, rfl, rfl, rfl, rfl, hgk, hmk, HB⟩ := hrel
    by_cases hlt : k < m
    · obtain ⟨u, hu⟩ : ∃ u, us[k]? = some u := ⟨us[k]'(by have := HU.out.2.1; omega), List.getElem?_eq_getElem _⟩
      obtain ⟨g, rfl, hg1, hg2, c0, c1, c2⟩ := HC.out k u hu
      obtain ⟨r0, hbw, htm2⟩ := HM.out
      have hb := HB.out.2.2.2
      have e0 := (hb.cell (p := ⟨g, k * 3, none⟩) hg2).trans c0
      have e1 := (hb.cell (p := ⟨g, k * 3 + 1, none⟩) hg2).trans c1
      have e2 := (hb.cell (p := ⟨g, k * 3 + 2, none⟩) hg2).trans c2
      have hrq := (hb.block Q (Array.getElem?_eq_some_iff.1 r0).1).trans r0
      have htm : TwoM wr a b n ps := htm2.keep hb
      obtain ⟨ua, un, uc⟩ := u
      dsimp only at e0 e1 e2
      have hbd := unit_bd s.data.toList 0 (ua, un, uc) (List.mem_of_getElem? (by rw [← HU.out.1]; exact hu))
      dsimp only at hbd
      have hfst := unit_first s.data.toList 0 k (ua, un, uc) (by rw [← HU.out.1]; exact hu)
      dsimp only at hfst
      have hsn := codes_take (by rw [← HU.out.1]; exact hu)
      dsimp only at hsn
      have CS := Lib.hid (fun wx (hb : Below wr.heap.size wr wx) => psmall_any wx a b n ps uc (htm.keep hb) (by omega))
      have CG := Lib.hid (fun wx (hb : Below wr.heap.size wr wx) => pgreat_any wx a b n ps uc (htm.keep hb) (by omega))
      have HX := Lib.hid (And.intro hfst hsn)
      have tk1 : (0 : Int) ≤ k := by omega
      have tk2 : (k : Int) < m := by omega
      obtain ⟨wx, hwx⟩ : ∃ wx, wx = wr.alloc (.cells #[.int .i64 ua, .int .i64 un, .int .i64 uc] 61) := ⟨_, rfl⟩
      have hbx : Below wr.heap.size wr wx := by rw [hwx]; exact (Below.refl _ _).alloc (Nat.le_refl _) _
      have y0 : wx.heap[wr.heap.size]? = some (.cells #[.int .i64 ua, .int .i64 un, .int .i64 uc] 61 (0, 0)) := by rw [hwx]; exact World.alloc_heap_new _ _
      have HWX := Lib.hid (And.intro hwx (And.intro hbx (And.intro y0 hrq)))
      clear hbx y0 hwx r0 hbw htm2 hb c0 c1 c2 hrq htm hbd hsn hu hg1 hg2 hfst
      go_upto_region 6 with fail
      rw [← HWX.out.1]
      obtain ⟨G, hG⟩ : ∃ G, G = wr.heap.size := ⟨_, rfl⟩
      rw [← hG]
      have CELL := Lib.hid (show ∀ wz, Below wx.heap.size wx wz → Below wr.heap.size wr wz ∧ wz.cell? ⟨G, 0, none⟩ = some (.int .i64 ua) ∧ wz.cell? ⟨G, 2, none⟩ = some (.int .i64 uc) ∧ wz.cell? ⟨Q, 0, none⟩ = some (.map (some a)) ∧ wz.cell? ⟨Q, 1, none⟩ = some (.map (some b)) from fun wz hz => by
        have y0 := HWX.out.2.2.1
        rw [← hG] at y0
        have y3 := (hz.block G (Array.getElem?_eq_some_iff.1 y0).1).trans y0
        have hbz := HWX.out.2.1.trans (hz.mono HWX.out.2.1.size)
        have y4 := (hbz.block Q (Array.getElem?_eq_some_iff.1 HWX.out.2.2.2).1).trans HWX.out.2.2.2
        exact ⟨hbz, by rw [Lib.cell_of_heap y3]; rfl, by rw [Lib.cell_of_heap y3]; rfl, by rw [Lib.cell_of_heap y4]; rfl, by rw [Lib.cell_of_heap y4]; rfl⟩)
      obtain ⟨-, -, z2, p0, p1⟩ := CELL.out wx (Below.refl _ _)
      clear e0 e1 e2 hG
      go_wp2_with fail
      refine (CS.out _ HWX.out.2.1).mono ?_
      rintro e w3 ⟨rfl, hb3⟩
      obtain ⟨hbz3, z0, z2', p0', p1'⟩ := CELL.out w3 hb3
      have HB3 := Lib.hid (And.intro hb3 hbz3)
      clear z2 p0 p1 hb3 hbz3
      have hft := first_turn ps (by rw [HU.out.2.2]; exact hlt) HX.out.2 HX.out.1
      have hgt : greatsC ps ((codesT s.data.toList).take (k + 1)) = gn + if (smC ps uc).isSome = true then 1 else 0 := by rw [HX.out.2, greats_snoc, ← HB.out.1]
      have hmt : smallsC ps ((codesT s.data.toList).take (k + 1)) = mn + if (grC ps uc).isSome = true then 1 else 0 := by rw [HX.out.2, smalls_snoc, ← HB.out.2.1]
      rw [← HB.out.2.2.1] at hft
      generalize (smC ps uc).isSome = X at *
      generalize (grC ps uc).isSome = Y at *
      generalize smV ps uc = V1 at *
      have HFT := Lib.hid (And.intro hft (And.intro hgt hmt))
      have hgw : IntKind.i64.wrap ((gn : Int) + 1) = ((gn + 1 : Nat) : Int) := by rw [IntWalk.i64_in _ (by omega)]; omega
      have hmw : IntKind.i64.wrap ((mn : Int) + 1) = ((mn + 1 : Nat) : Int) := by rw [IntWalk.i64_in _ (by omega)]; omega
      clear hft hgt hmt
      cases X
      · go_wp2_with fail
        refine (CG.out _ HB3.out.2).mono ?_
        rintro e w4 ⟨rfl, hb4⟩
        have HB4 := Lib.hid (HB.out.2.2.2.trans ((HB3.out.2.trans (hb4.mono HB3.out.2.size)).mono HB.out.2.2.2.size))
        clear z0 z2' p0' p1' hb4
        cases Y
        · go_wp2_with fail
          go_roundg (gk - 1)
          case measure => omega
          case rel => exact ⟨k + 1, gn, mn, fb, by omega, by go_num, rfl, rfl, rfl, by omega, by omega, Lib.hid ⟨HFT.out.2.1.symm, HFT.out.2.2.symm, HFT.out.1.symm, HB4.out⟩⟩
        · go_wp2_with fail
          go_roundg (gk - 1)
          case measure => omega
          case rel => exact ⟨k + 1, gn, mn + 1, fb, by omega, by go_num, rfl, rfl, rfl, by omega, by omega, Lib.hid ⟨HFT.out.2.1.symm, HFT.out.2.2.symm, HFT.out.1.symm, HB4.out⟩⟩
      · obtain ⟨f2, hf2⟩ : ∃ f2, f2 = (fb || decide (ua = 0)) := ⟨_, rfl⟩
        have HF2 := Lib.hid hf2
        go_upto_region 9 with fail
        go_cut [8] (fun t wz => t = .bool f2 ∧ wz = w3)
        case first =>
          cases fb
          · by_cases h0 : ua = 0
            · subst h0
              simp at hf2
              subst hf2
              go_wp2_with fail
              go_meet
              exact ⟨rfl, rfl⟩
            · have h1 : ((ua : Int) == 0) = false := by simp; omega
              simp [h0] at hf2
              subst hf2
              go_wp2_with fail
              go_meet
              exact ⟨rfl, rfl⟩
          · simp at hf2
            subst hf2
            go_wp2_with fail
            go_meet
            exact ⟨rfl, rfl⟩
        case rest =>
        obtain ⟨rfl, rfl⟩ := hcut
        clear hf2
        go_wp2_with fail
        refine (CG.out _ HB3.out.2).mono ?_
        rintro e w4 ⟨rfl, hb4⟩
        have HB4 := Lib.hid (HB.out.2.2.2.trans ((HB3.out.2.trans (hb4.mono HB3.out.2.size)).mono HB.out.2.2.2.size))
        clear z0 z2' p0' p1' hb4
        have HFF := Lib.hid (HF2.out.trans HFT.out.1.symm)
        cases Y
        · go_wp2_with fail
          go_roundg (gk - 1)
          case measure => omega
          case rel => exact ⟨k + 1, gn + 1, mn, f2, by omega, by go_num, rfl, rfl, rfl, by omega, by omega, Lib.hid ⟨HFT.out.2.1.symm, HFT.out.2.2.symm, HFF.out, HB4.out⟩⟩
        · go_wp2_with fail
          go_roundg (gk - 1)
          case measure => omega
          case rel => exact ⟨k + 1, gn + 1, mn + 1, f2, by omega, by go_num, rfl, rfl, rfl, by omega, by omega, Lib.hid ⟨HFT.out.2.1.symm, HFT.out.2.2.symm, HFF.out, HB4.out⟩⟩
    · obtain rfl : k = m := by omega
      have hall : (codesT s.data.toList).take k = codesT s.data.toList := List.take_of_length_le (by rw [HU.out.2.2]; exact Nat.le_refl _)
      have hans : R = shapeN gn mn fb := by
        rw [HR.out]
        unfold shapeT shapeC
        rw [HB.out.1, HB.out.2.1, HB.out.2.2.1, hall]
      have hbe : Below w.heap.size w wr := HM.out.2.1.trans (HB.out.2.2.2.mono HM.out.2.1.size)
      have HE := Lib.hid (And.intro hans hbe)
      clear hall hans hbe
      by_cases h0 : gn = 0
      · subst h0
        go_wp2_with fail
        go_ret
        exact ⟨by rw [HE.out.1]; rfl, HE.out.2⟩
      · have g0 : ((gn : Int) == 0) = false := by simp; omega
        by_cases h1 : gn = 1
        · subst h1
          cases fb
          · go_wp2_with fail
            go_ret
            exact ⟨by rw [HE.out.1]; simp [shapeN], HE.out.2⟩
          · go_wp2_with fail
            go_ret
            exact ⟨by rw [HE.out.1]; simp [shapeN], HE.out.2⟩
        · have g1 : ((gn : Int) == 1) = false := by simp; omega
          have g2 : decide ((1 : Int) < gn) = true := by simp; omega
          have HN := Lib.hid (And.intro h0 h1)
          clear h0 h1
          by_cases hm0 : mn = 0
          · subst hm0
            go_wp2_with fail
            go_ret
            exact ⟨by rw [HE.out.1]; have := HN.out; simp [shapeN, this.1, this.2]; omega, HE.out.2⟩
          · have m0 : ((mn : Int) == 0) = false := by simp; omega
            have HN2 := Lib.hid hm0
            clear hm0
            go_wp2_with fail
            go_ret
            exact ⟨by rw [HE.out.1]; have := HN.out; simp [shapeN, this.1, this.2, HN2.out], HE.out.2⟩
end Go.Proofs.YtfhoffdgbkoffaaDoor
