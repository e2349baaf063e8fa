/- ClassNumbers: tables by numbers: the walk. -/
import Derived.Test.YtjjjefpdpjaadaaLawMany
import Derived.Test.YtjjjefpdpjaadaaNum
import Derived.Test.YtjjjefpdpjaadaaRefCheck
import Derived.Deep.RegionHeld3
import Derived.Deep.Draws
namespace Go.Proofs.Ytjjjefpdpjaadaa
open Go Go.RowKit

theorem below_drew' {B : Nat} {a w : World} (h : Below B a w) : Below B a w.drew := below_drewN h 1

set_option maxHeartbeats 2000000 in
theorem numbers_none (A : Option Addr) (cap : Nat) (code : Int) (w : World) :
    Calls Try.prog 4 #[.slice A 0 cap, .int .i64 code] w fun e w' => e = .returned (.bool true) ∧ Below w.heap.size w w' := by
  obtain ⟨d, hd⟩ : ∃ d : Nat, code % 300 = d := ⟨(code % 300).toNat, by omega⟩
  obtain ⟨c, hc⟩ : ∃ c : Nat, code % 60 = c := ⟨(code % 60).toNat, by omega⟩
  have hd3 : d < 300 := by omega
  have P1 := Lib.hid (place_at code 300 d hd (by omega) (by omega))
  have P2 := Lib.hid (place_at code 60 c hc (by omega) (by omega))
  have C8 := Lib.hid (check_none none 0)
  have C10 := Lib.hid (of_none none 0)
  clear hd hc
  go_enter Try.func4, Try.ntmps4
  go_wp2_with fail
  go_loop [5, 6, 7] (fun t a i => t = .slice none 0 0 ∧ a = .int .i64 0 ∧ i = .int .i64 0) (fun _ _ _ => 0)
  case atStart => exact ⟨rfl, rfl, rfl⟩
  case round =>
    obtain ⟨rfl, rfl, rfl⟩ := hrel
    go_wp2_with fail
    refine (C8.out _).mono ?_
    rintro e w1 ⟨rfl, hb1⟩
    have HB1 := Lib.hid hb1
    clear hb1
    go_wp2_with fail
    refine (P1.out _).mono ?_
    rintro e w2 ⟨rfl, rfl⟩
    go_wp2_with fail
    refine (C10.out _ _).mono ?_
    rintro e w3 ⟨rfl, hb3⟩
    have HB3 := Lib.hid (HB1.out.trans (hb3.mono HB1.out.size))
    clear hb3
    go_wp2_with fail
    refine (P2.out _).mono ?_
    rintro e w2 ⟨rfl, rfl⟩
    go_wp2_with fail
    go_loop [11, 12] (fun a i => a = .int .i64 0 ∧ i = .int .i64 0) (fun _ _ => 0)
    case atStart => exact ⟨rfl, rfl⟩
    case round =>
      obtain ⟨rfl, rfl⟩ := hrel
      go_wp2_with fail
      refine (C10.out _ _).mono ?_
      rintro e w4 ⟨rfl, hb4⟩
      have HB4 := Lib.hid (HB3.out.trans (hb4.mono HB3.out.size))
      clear hb4
      go_wp2_with fail
      refine (awake_any _).mono ?_
      rintro e w5 ⟨rfl, hb5⟩
      have HB5 := Lib.hid (HB4.out.trans (hb5.mono HB4.out.size))
      clear hb5
      go_wp2_with fail
      go_ret
      exact ⟨rfl, HB5.out⟩

set_option maxRecDepth 100000 in
set_option maxHeartbeats 8000000 in
theorem numbers_some (b off cap n : Nat) (zs : List Int) (code : Int) (w : World) (hn : zs.length = n) (hpos : 0 < n) (hlt : b < w.heap.size) (h1 : n ≤ cap) (h2 : cap ≤ maxLen)
    (hcell : ∀ (i : Nat) (z : Int), zs[i]? = some z → w.cell? ⟨b, off + i, none⟩ = some (.int .i64 z)) :
    Calls Try.prog 4 #[.slice (some ⟨b, off, none⟩) n cap, .int .i64 code] w fun e w' => e = .returned (.bool true) ∧ Below w.heap.size w w' := by
  unfold maxLen at h2
  obtain ⟨i0, hi, hz0, hz1, hz2⟩ := info_parts Try.info27
  obtain ⟨us, hus⟩ : ∃ us, us = zs.take 100 := ⟨_, rfl⟩
  obtain ⟨N, hN⟩ : ∃ N, N = us.length := ⟨_, rfl⟩
  have hN1 : N = min 100 n := by rw [hN, hus, List.length_take, hn]
  have hNn : N ≤ n := by omega
  have hN100 : N ≤ 100 := by omega
  have hN0 : 0 < N := by omega
  have hend : ¬ (N < n ∧ N < 100) := by omega
  have hcell' : ∀ (i : Nat) (z : Int), us[i]? = some z → w.cell? ⟨b, off + i, none⟩ = some (.int .i64 z) := fun i z h => by
    rw [hus, List.getElem?_take] at h
    split at h
    · exact hcell i z h
    · cases h
  have HC := Lib.hid hcell'
  have HN := Lib.hid hN.symm
  obtain ⟨d, hd⟩ : ∃ d : Nat, code % 300 = d := ⟨(code % 300).toNat, by omega⟩
  have hd3 : d < 300 := by omega
  have P1 := Lib.hid (place_at code 300 d hd (by omega) (by omega))
  clear hcell hcell' hus hN hN1 hd hn
  go_enter Try.func4, Try.ntmps4
  go_wp2_with fail
  go_loopw [5, 6, 7] (fun t a i wr => ∃ (j : Nat) (x : Int), j ≤ N ∧ 0 ≤ x ∧ x ≤ 79 * j ∧ i = .int .i64 j ∧ a = .int .i64 x ∧ Hid (x = nEnd 0 (us.take j)) ∧ Hid (Grows w wr t (nTab 0 (us.take j)))) (fun _ _ i _ => N - (RowKit.intOf i).toNat)
  case atStart => exact ⟨0, 0, Nat.zero_le _, by omega, by omega, rfl, rfl, rfl, Grows.nil w (Below.refl _ _)⟩
  case round =>
    obtain ⟨j, x, hj, hx0, hx1, rfl, rfl, HX, HG⟩ := hrel
    by_cases hjN : j < N
    · obtain ⟨z, hz⟩ : ∃ z, us[j]? = some z := ⟨_, List.getElem?_eq_getElem (by rw [HN.out]; exact hjN)⟩
      have m0 := (HG.out.2.cell (p := ⟨b, off + j, none⟩) hlt).trans (HC.out j z hz)
      obtain ⟨k, hk⟩ : ∃ k : Int, z % 1048576 = k := ⟨_, rfl⟩
      have hk0 : 0 ≤ k := by omega
      have hk1 : k < 1048576 := by omega
      have c12 : ∀ wx, Calls Try.prog 12 #[.int .i64 z, .int .i64 1048576] wx fun e w' => e = .returned (.int .i64 k) ∧ wx = w' := fun wx => by
        rw [← hk]; exact place_any z 1048576 wx (by omega) (by omega)
      have C12 := Lib.hid c12
      have tj1 : (0 : Int) ≤ j := by omega
      have tj2 : (j : Int) < n := by omega
      have HZ := Lib.hid hz
      have HK := Lib.hid hk
      clear hz hk c12
      go_wp2_with (first
        | (go_at_call 12; refine (C12.out _).mono ?_; rintro e w1 ⟨rfl, rfl⟩)
        | (at_builtin; refine wpList_append_own _ rfl _ _ 22 rfl w.heap.size 27 i0 (.agg #[.int .i64 0, .int .i64 0, .int .i64 0]) 3 24 Try.underlying22 hi hz0 hz1 hz2 rfl (by decide) _ _ _ rfl (HG.out.1.alloc _) ⟨wr.heap.size, 0, none⟩ 1 1 (rCells (nOne x k)) rfl rfl (cells_new _ _ _) (rCells_one (nOne x k)) (by rw [nTab_len, List.length_take]; unfold maxLen; omega) (by rw [nTab_len, List.length_take]; omega) (by have := HG.out.2.size; simp; omega) ?_; intro v' w4 hown4 hgrow4 _))
      have hsn : us.take (j + 1) = us.take j ++ [z] := by
        have hjl := (List.getElem?_eq_some_iff.1 HZ.out).1
        rw [List.take_succ_eq_append_getElem hjl]
        have := (List.getElem?_eq_some_iff.1 HZ.out).2
        rw [this]
      have hlen : (nTab 0 (us.take j)).length = j := by rw [nTab_len, List.length_take, HN.out]; omega
      have hst := HG.out.step (r := nOne x k) hlen (by rw [hlen] at hown4; exact hown4) hgrow4
      rw [HX.out, ← HK.out, ← nTab_snoc, ← hsn] at hst
      have HST := Lib.hid hst
      have hxe : x + 1 + k % 50 + k / 50 % 30 = nEnd 0 (us.take (j + 1)) := by rw [hsn, nEnd_snoc, ← HX.out, HK.out]; rfl
      have HXE := Lib.hid hxe
      clear hown4 hgrow4 hsn hlen hst hxe
      go_roundw
      case rel => exact ⟨j + 1, x + 1 + k % 50 + k / 50 % 30, by omega, by omega, by omega, by go_num, rfl, HXE.out, HST.out⟩
      case measure => simp [RowKit.intOf]; omega
    · obtain rfl : j = N := by omega
      obtain ⟨wo, rfl⟩ : ∃ wo : World, wo = wr := ⟨_, rfl⟩
      obtain ⟨rs, hrs⟩ : ∃ rs, rs = nTab 0 us := ⟨_, rfl⟩
      have hall : us.take j = us := List.take_of_length_le (by rw [HN.out]; omega)
      rw [hall, ← hrs] at HG
      have hlen : rs.length = j := by rw [hrs, nTab_len, HN.out]
      have hok : okT rs = true := by rw [hrs]; exact nTab_ok us (by rw [HN.out]; omega)
      have hneg : ∀ y : Int, y < 0 → ofT rs y = 0 := fun y hy => by rw [hrs]; exact nTab_neg us y (by rw [HN.out]; omega) hy
      have HOK := Lib.hid hok
      have HL := Lib.hid hlen
      have ht := HG.out.tbl
      have HB := Lib.hid HG.out.2
      obtain ⟨c, hc⟩ : ∃ c : Nat, code % (x + 60) = c := ⟨(code % (x + 60)).toNat, by have := Int.emod_nonneg code (show x + 60 ≠ 0 by omega); omega⟩
      have P2 := Lib.hid (place_at code (x + 60) c hc (by omega) (by omega))
      have c8 : ∀ wx v, Tbl wx v rs → Calls Try.prog 8 #[v] wx fun e w' => e = .returned (.bool true) ∧ Below wx.heap.size wx w' := fun wx v h => by
        have := check_any v rs wx h
        rwa [hok] at this
      have c10n : ∀ wx v, Tbl wx v rs → Calls Try.prog 10 #[v, .int .i64 (-1 - (d : Int))] wx fun e w' => e = .returned (.int .i64 0) ∧ Below wx.heap.size wx w' := fun wx v h => by
        have := of_any v rs (-1 - (d : Int)) wx h
        rwa [hneg _ (by omega)] at this
      have C8 := Lib.hid c8
      have C10n := Lib.hid c10n
      rcases ht with ⟨_, h0⟩ | ⟨g, off', cap', hv, hg, hg1, hg2, hgc⟩
      · exfalso
        rw [h0] at hlen
        simp at hlen
        omega
      · rw [hlen] at hv hg1
        have ht : Tbl wo (.slice (some ⟨g, off', none⟩) j cap') rs := .inr ⟨g, off', cap', by rw [hlen], hg, by rw [hlen]; exact hg1, hg2, hgc⟩
        have HT := Lib.hid ht
        have HGC := Lib.hid hgc
        unfold maxLen at hg2
        have hcs : (j < n ∧ 100 ≤ j) ∨ n ≤ j := by omega
        have HCH := Lib.hid (okT_chain hok)
        have hend2 : ∀ y : Int, ofT rs y = upTo rs j y := fun y => by rw [ofT_yes hok, upTo_all rs j y (by omega)]
        have c10 : ∀ wx, Tbl wx (.slice (some ⟨g, off', none⟩) j cap') rs → Calls Try.prog 10 #[.slice (some ⟨g, off', none⟩) j cap', .int .i64 c] wx fun e w' => e = .returned (.int .i64 (upTo rs j c)) ∧ Below wx.heap.size wx w' := fun wx h => by
          have := of_any _ rs c wx h
          rwa [hend2] at this
        have C10 := Lib.hid c10
        clear ht hgc hlen hok hneg hc c8 c10n HG hall hi hz0 hz1 hz2 hrs hend hend2 c10
        subst hv
        rcases hcs with ⟨hcs1, hcs2⟩ | hcs1
        all_goals
          go_wp2_with fail
          refine (C8.out _ _ HT.out).mono ?_
          rintro e w1 ⟨rfl, hb1⟩
          have HB1 := Lib.hid hb1
          clear hb1
          go_wp2_with fail
          refine (P1.out _).mono ?_
          rintro e w2 ⟨rfl, rfl⟩
          go_wp2_with fail
          refine (C10n.out _ _ (HT.out.below HB1.out)).mono ?_
          rintro e w3 ⟨rfl, hb3⟩
          have HB3 := Lib.hid (HB1.out.trans (hb3.mono HB1.out.size))
          clear hb3
          go_wp2_with fail
          refine (P2.out _).mono ?_
          rintro e w2 ⟨rfl, rfl⟩
          go_wp2_with fail
          go_loopw [11, 12] (fun a i wq => ∃ q : Nat, q ≤ j ∧ i = .int .i64 q ∧ a = .int .i64 (upTo rs q c) ∧ Hid (Below wo.heap.size wo wq)) (fun _ i _ => j - (RowKit.intOf i).toNat)
          case atStart => exact ⟨0, Nat.zero_le _, rfl, rfl, HB3.out⟩
          case round =>
            obtain ⟨q, hq, rfl, rfl, HB4⟩ := hrel
            by_cases hqj : q < j
            · obtain ⟨r, hr⟩ : ∃ r, rs[q]? = some r := ⟨_, List.getElem?_eq_getElem (by rw [HL.out]; exact hqj)⟩
              obtain ⟨c0, c1, c2⟩ := HGC.out q r hr
              have hcase : (r.1 ≤ c ∧ c ≤ r.2.1 ∧ upTo rs (q + 1) c = r.2.2) ∨ (c < r.1 ∧ upTo rs (q + 1) c = upTo rs q c) ∨ (r.1 ≤ c ∧ r.2.1 < c ∧ upTo rs (q + 1) c = upTo rs q c) := by
                by_cases g1 : r.1 ≤ c
                · by_cases g2 : c ≤ r.2.1
                  · exact .inl ⟨g1, g2, upTo_in HCH.out hr g1 g2⟩
                  · exact .inr (.inr ⟨g1, by omega, upTo_out hr (by omega)⟩)
                · exact .inr (.inl ⟨by omega, upTo_out hr (by omega)⟩)
              obtain ⟨e1, e2⟩ := ends_hit HOK.out hr
              obtain ⟨f, t, k⟩ := r
              dsimp only at c0 c1 c2 hcase e1 e2
              have c10' : ∀ wx y, (wx.cell? ⟨g, off' + q * 3, none⟩ = some (.int .i64 f) ∧ wx.cell? ⟨g, off' + q * 3 + 1, none⟩ = some (.int .i64 t) ∧ wx.cell? ⟨g, off' + q * 3 + 2, none⟩ = some (.int .i64 k) ∧ Hid (Below wo.heap.size wo wx)) →
                  Calls Try.prog 10 #[.slice (some ⟨g, off', none⟩) j cap', .int .i64 y] wx fun e w' => e = .returned (.int .i64 (ofT rs y)) ∧
                    (w'.cell? ⟨g, off' + q * 3, none⟩ = some (.int .i64 f) ∧ w'.cell? ⟨g, off' + q * 3 + 1, none⟩ = some (.int .i64 t) ∧ w'.cell? ⟨g, off' + q * 3 + 2, none⟩ = some (.int .i64 k) ∧ Hid (Below wo.heap.size wo w')) := by
                intro wx y hx
                refine (of_any _ rs y wx (HT.out.below hx.2.2.2.out)).mono ?_
                rintro e w' ⟨he, hb⟩
                have hb' := hx.2.2.2.out.trans (hb.mono hx.2.2.2.out.size)
                exact ⟨he, (hb'.cell (p := ⟨g, _, none⟩) hg).trans c0, (hb'.cell (p := ⟨g, _, none⟩) hg).trans c1, (hb'.cell (p := ⟨g, _, none⟩) hg).trans c2, hb'⟩
              have m0 := (HB4.out.cell (p := ⟨g, off' + q * 3, none⟩) hg).trans c0
              have m1 := (HB4.out.cell (p := ⟨g, off' + q * 3 + 1, none⟩) hg).trans c1
              have m2 := (HB4.out.cell (p := ⟨g, off' + q * 3 + 2, none⟩) hg).trans c2
              have hS : wr.drew.cell? ⟨g, off' + q * 3, none⟩ = some (.int .i64 f) ∧ wr.drew.cell? ⟨g, off' + q * 3 + 1, none⟩ = some (.int .i64 t) ∧ wr.drew.cell? ⟨g, off' + q * 3 + 2, none⟩ = some (.int .i64 k) ∧ Hid (Below wo.heap.size wo wr.drew) :=
                ⟨m0, m1, m2, below_drew' HB4.out⟩
              have HS := Lib.hid hS
              have C10' := Lib.hid c10'
              have HE := Lib.hid (And.intro e1 e2)
              have tq1 : (0 : Int) ≤ q := by omega
              have tq2 : (q : Int) < j := by omega
              clear c0 c1 c2 c10' hS hr e1 e2
              rcases hcase with ⟨i1, i2, hu⟩ | ⟨i1, hu⟩ | ⟨i1, i2, hu⟩
              all_goals
                have HU := Lib.hid hu
                clear hu
                go_wp2_with fail
                clear m0 m1 m2
                obtain ⟨e1, e2⟩ := HE.out
                go_region_held3 (fun wx => wx.cell? ⟨g, off' + q * 3, none⟩ = some (.int .i64 f) ∧ wx.cell? ⟨g, off' + q * 3 + 1, none⟩ = some (.int .i64 t) ∧ wx.cell? ⟨g, off' + q * 3 + 2, none⟩ = some (.int .i64 k) ∧ Hid (Below wo.heap.size wo wx))
                  (first | exact HS.out | assumption)
                  (first
                    | (go_at_call 10; refine (C10'.out _ _ (by assumption)).mono ?_; rintro e w5 ⟨rfl, hs⟩))
              all_goals
                clear e1 e2
                have HB6 : Hid (Below wo.heap.size wo w5) := by
                  have hh : w5.cell? ⟨g, off' + q * 3, none⟩ = some (.int .i64 f) ∧ w5.cell? ⟨g, off' + q * 3 + 1, none⟩ = some (.int .i64 t) ∧ w5.cell? ⟨g, off' + q * 3 + 2, none⟩ = some (.int .i64 k) ∧ Hid (Below wo.heap.size wo w5) := by assumption
                  exact hh.2.2.2
                go_wp2_with fail
                go_roundw
                case rel => exact ⟨q + 1, by omega, by go_num, by rw [HU.out], HB6.out⟩
                case measure => simp [RowKit.intOf]; omega
            · obtain rfl : q = j := by omega
              go_wp2_with fail
              refine (C10.out _ (HT.out.below HB4.out)).mono ?_
              rintro e w5 ⟨rfl, hb5⟩
              have HB5 := Lib.hid (HB4.out.trans (hb5.mono HB4.out.size))
              clear hb5
              go_wp2_with fail
              refine (awake_any _).mono ?_
              rintro e w6 ⟨rfl, hb6⟩
              have HB6 := Lib.hid (HB5.out.trans (hb6.mono HB5.out.size))
              clear hb6
              go_wp2_with fail
              go_ret
              exact ⟨rfl, HB.out.trans (HB6.out.mono HB.out.size)⟩
end Go.Proofs.Ytjjjefpdpjaadaa
