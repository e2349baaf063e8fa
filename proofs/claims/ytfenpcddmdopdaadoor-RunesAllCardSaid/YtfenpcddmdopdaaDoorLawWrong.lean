/- RunesWrong: bytes that are no code point, each by itself: the walk. -/
import Derived.Test.YtfenpcddmdopdaaDoorWrong
import Derived.Test.YtfenpcddmdopdaaDoorLawCodes
import Derived.Deep.QuietTactic
import Derived.BigQuiet
namespace Go.Proofs.YtfenpcddmdopdaaDoor
open Go Go.RowKit Go.Lib

/-- All, with its cells at hand. -/
theorem all_cells (s : ByteArray) (wx : World) (hs : s.size ≤ 1000000000000) (us : List (Nat × Nat × Int)) (hu : units 0 s.data.toList = us) (n : Nat) (hn : us.length = n) (h0 : 0 < n) :
    Calls Tryd.prog 13 #[.string s] wx fun e w' => ∃ g cap, e = .returned (.slice (some ⟨g, 0, none⟩) n cap) ∧ (n ≤ cap ∧ cap ≤ maxLen) ∧ (∀ j u, (us.flatMap uCells)[j]? = some u → w'.cell? ⟨g, j, none⟩ = some u) ∧ g < w'.heap.size ∧ Below wx.heap.size wx w' := by
  subst hu
  subst hn
  refine (all_any s wx hs).mono ?_
  rintro e w' ⟨v, he, ho, hb⟩
  obtain ⟨g, cap, rfl, _, hg, hc1, hc2, hc⟩ := own_open ho h0
  exact ⟨g, cap, he, ⟨hc1, hc2⟩, hc, hg, hb⟩

def wAgg : Value := .agg #[.string ⟨#[192, 128]⟩, .string ⟨#[237, 160, 128]⟩, .string ⟨#[245, 128, 128, 128]⟩, .string ⟨#[128]⟩, .string ⟨#[226, 130]⟩, .string ⟨#[240, 128, 128, 128]⟩, .string ⟨#[255]⟩, .string ⟨#[195]⟩]
theorem pick0 (w : World) : (Instr.index 39 wAgg (.int .i64 0)).run Tryd.prog w = .ok (.string (wOf 0)) w := by kernel_rfl
theorem pick1 (w : World) : (Instr.index 39 wAgg (.int .i64 1)).run Tryd.prog w = .ok (.string (wOf 1)) w := by kernel_rfl
theorem pick2 (w : World) : (Instr.index 39 wAgg (.int .i64 2)).run Tryd.prog w = .ok (.string (wOf 2)) w := by kernel_rfl
theorem pick3 (w : World) : (Instr.index 39 wAgg (.int .i64 3)).run Tryd.prog w = .ok (.string (wOf 3)) w := by kernel_rfl
theorem pick4 (w : World) : (Instr.index 39 wAgg (.int .i64 4)).run Tryd.prog w = .ok (.string (wOf 4)) w := by kernel_rfl
theorem pick5 (w : World) : (Instr.index 39 wAgg (.int .i64 5)).run Tryd.prog w = .ok (.string (wOf 5)) w := by kernel_rfl
theorem pick6 (w : World) : (Instr.index 39 wAgg (.int .i64 6)).run Tryd.prog w = .ok (.string (wOf 6)) w := by kernel_rfl
theorem pick7 (w : World) : (Instr.index 39 wAgg (.int .i64 7)).run Tryd.prog w = .ok (.string (wOf 7)) w := by kernel_rfl
theorem pick_str (h : Nat) (hh : h < 8) (w : World) :
    (Instr.index 39 (.agg #[.string ⟨#[192, 128]⟩, .string ⟨#[237, 160, 128]⟩, .string ⟨#[245, 128, 128, 128]⟩, .string ⟨#[128]⟩, .string ⟨#[226, 130]⟩, .string ⟨#[240, 128, 128, 128]⟩, .string ⟨#[255]⟩, .string ⟨#[195]⟩]) (.int .i64 h)).run Tryd.prog w = .ok (.string (wOf h)) w := by
  have hc : h = 0 ∨ h = 1 ∨ h = 2 ∨ h = 3 ∨ h = 4 ∨ h = 5 ∨ h = 6 ∨ h = 7 := by omega
  rcases hc with rfl | rfl | rfl | rfl | rfl | rfl | rfl | rfl
  · exact pick0 w
  · exact pick1 w
  · exact pick2 w
  · exact pick3 w
  · exact pick4 w
  · exact pick5 w
  · exact pick6 w
  · exact pick7 w

/-- A world that differs by draws alone. -/
def Drawn (w wr : World) : Prop := ∃ n, wr = w.drewN n
theorem Drawn.refl (w : World) : Drawn w w := ⟨0, rfl⟩
theorem Drawn.drewN {w wr : World} (h : Drawn w wr) (m : Nat) : Drawn w (wr.drewN m) := by
  obtain ⟨n, rfl⟩ := h
  exact ⟨n + m, by rw [World.drewN_drewN]⟩
theorem Drawn.cell {w wr : World} (h : Drawn w wr) (a : Addr) : wr.cell? a = w.cell? a := by
  obtain ⟨n, rfl⟩ := h
  rfl
theorem Drawn.below {w wr : World} (h : Drawn w wr) {B : Nat} {w0 : World} (hb : Below B w0 w) : Below B w0 wr := by
  obtain ⟨n, rfl⟩ := h
  exact below_drewN hb n

theorem aOf_succ (k : Nat) : aOf (k + 1) = aOf k ++ ⟨#[195, 169]⟩ := rfl

set_option maxRecDepth 100000 in
set_option maxHeartbeats 4000000 in
theorem wrong_law (how n : Int) (w : World) (hT : Lib.Utf8Tabs 0 1 w) :
    Calls Tryd.prog 6 #[.int .i64 how, .int .i64 n] w fun e w' => e = .returned (.bool true) ∧ Below w.heap.size w w' := by
  obtain ⟨h, hh⟩ : ∃ h : Nat, how % 8 = h := ⟨(how % 8).toNat, by omega⟩
  obtain ⟨k, hk⟩ : ∃ k : Nat, n % 20 = k := ⟨(n % 20).toNat, by omega⟩
  have hlt : h < 8 := by omega
  have klt : k < 20 := by omega
  obtain ⟨f1, f2, f3, f4⟩ := wOf_facts h hlt
  have P1 := Lib.hid (place_at how 8 h hh (by omega) (by omega))
  have P2 := Lib.hid (place_at n 20 k hk (by omega) (by omega))
  have hix := pick_str h hlt
  obtain ⟨W, hW⟩ : ∃ W, W = wOf h := ⟨_, rfl⟩
  rw [← hW] at f1 f2 f3 f4 hix
  have F1 := Lib.hid f1
  have F2 := Lib.hid f2
  have HT := Lib.hid hT
  clear f1 f2 hW hh hk hT
  go_enter Tryd.func6, Tryd.ntmps6
  go_wp2_with fail
  refine (P1.out _).mono ?_
  rintro e w1 ⟨rfl, rfl⟩
  go_wp2_with fail
  refine (P2.out _).mono ?_
  rintro e w1 ⟨rfl, rfl⟩
  go_wp2_with fail
  go_loop [7, 8] (fun a i => ∃ j : Nat, j ≤ k ∧ i = .int .i64 j ∧ a = .string (aOf j)) (fun _ i => k - (RowKit.intOf i).toNat)
  case atStart => exact ⟨0, Nat.zero_le _, rfl, rfl⟩
  case round =>
    obtain ⟨j, hj, rfl, rfl⟩ := hrel
    by_cases hjk : j < k
    · have hsj : (aOf j).size ≤ 60 := by rw [aOf_size]; omega
      go_wp2
      go_round
      case rel => exact ⟨j + 1, by omega, by go_num, by rw [aOf_succ]⟩
      case measure => simp [RowKit.intOf]; omega
    · obtain rfl : j = k := by omega
      have hva := aOf_valid j
      have hsa := aOf_size j
      have hu := wrong_units (aOf j) W hva F1.out
      have hvd := wrong_valid (aOf j) W hva F2.out
      obtain ⟨a, ha⟩ : ∃ a, a = aOf j := ⟨_, rfl⟩
      rw [← ha] at hva hsa hu hvd
      rw [← ha]
      have hsz : ((a ++ W) ++ ⟨#[122]⟩ : ByteArray).size ≤ 1000000000000 := by
        rw [ByteArray.size_append, ByteArray.size_append, hsa]
        rw [show ByteArray.size ⟨#[122]⟩ = 1 from rfl]
        omega
      obtain ⟨us, hus⟩ : ∃ us, us = units 0 a.data.toList := ⟨_, rfl⟩
      rw [← hus] at hu
      obtain ⟨nu, hnu⟩ : ∃ nu, us.length = nu := ⟨_, rfl⟩
      have hnle : nu ≤ a.size := by rw [← hnu, hus, Lib.size_eq]; exact units_length_le _ _
      have hnpos : 0 < nu := by
        rw [← hnu, hus]
        apply Nat.pos_of_ne_zero
        intro h0
        have h1 := List.eq_nil_of_length_eq_zero h0
        have hne : a.data.toList ≠ [] := by
          intro h2
          have := congrArg List.length h2
          rw [← Lib.size_eq, List.length_nil] at this
          omega
        rw [units_step 0 _ hne] at h1
        cases h1
      have hla : a.size ≤ 60 := by omega
      have hla1 : 13 ≤ a.size := by omega
      have hvl : (us ++ (badUnits W.data.toList).map fun u => (a.size + u.1, u.2.1, u.2.2)).length = nu + W.size + 1 := by
        rw [List.length_append, hnu, List.length_map, bad_len, ← Lib.size_eq]; omega
      have A1 := Lib.hid (fun wx => all_cells a wx (by omega) us hus.symm nu hnu hnpos)
      obtain ⟨M, hM⟩ : ∃ M, M = nu + W.size + 1 := ⟨_, rfl⟩
      have A2 := Lib.hid (fun wx => all_cells _ wx hsz _ hu M (hvl.trans hM.symm) (by omega))
      have hM1 : nu + W.size + 1 ≤ M := by omega
      have hM2 : M ≤ nu + W.size + 1 := by omega
      have hMt : ((M : Int) != (nu : Int) + W.size + 1) = false := by simp; omega
      have C2 := Lib.hid (fun wx ht => codes_no _ wx hsz ht hvd)
      have HU := Lib.hid hnu
      clear hva hsa hu hvd hsz hus hvl ha hnu hM
      go_wp2_with fail
      refine (A1.out _).mono ?_
      rintro e w1 ⟨g1, cap1, rfl, ⟨hc1, hc2⟩, hcells1, hg1, hb1⟩
      unfold maxLen at hc2
      have HC1 := Lib.hid hcells1
      clear hcells1
      go_wp2_with fail
      refine (A2.out _).mono ?_
      rintro e w2 ⟨g2, cap2, rfl, ⟨hd1, hd2⟩, hcells2, hg2, hb2⟩
      unfold maxLen at hd2
      have hu1 : ∀ j u, (us.flatMap uCells)[j]? = some u → w2.cell? ⟨g1, j, none⟩ = some u := fun j u hju => (hb2.cell (p := ⟨g1, j, none⟩) hg1).trans (HC1.out j u hju)
      have HB := Lib.hid (hb1.trans (hb2.mono hb1.size))
      have X1 := Lib.hid hu1
      have X2 := Lib.hid hcells2
      have HT2 := Lib.hid (tabs_below HT.out HB.out)
      have G2 := Lib.hid hg2
      clear hu1 hcells2 hb1 hb2 HC1 hg1 hg2
      go_wp2_with fail
      have hD0 := Drawn.refl w2
      go_loopw [11] (fun i wr => ∃ q : Nat, q ≤ nu ∧ i = .int .i64 q ∧ Hid (Drawn w2 wr)) (fun i _ => nu - (RowKit.intOf i).toNat)
      case atStart => exact ⟨0, Nat.zero_le _, rfl, hD0⟩
      case round =>
        obtain ⟨q, hq, rfl, HD⟩ := hrel
        by_cases hqn : q < nu
        · obtain ⟨u, hu⟩ : ∃ u, us[q]? = some u := by
            have hql : q < us.length := by rw [HU.out]; exact hqn
            exact ⟨us[q], List.getElem?_eq_getElem hql⟩
          obtain ⟨x0, x1, x2⟩ := cells3 us q u hu
          obtain ⟨y0, y1, y2⟩ := cells3 (us ++ (badUnits W.data.toList).map fun u => (a.size + u.1, u.2.1, u.2.2)) q u (by rw [List.getElem?_append_left (by rw [HU.out]; exact hqn)]; exact hu)
          have m0 := (HD.out.cell ⟨g1, q * 3, none⟩).trans (X1.out _ _ x0)
          have m1 := (HD.out.cell ⟨g1, q * 3 + 1, none⟩).trans (X1.out _ _ x1)
          have m2 := (HD.out.cell ⟨g1, q * 3 + 2, none⟩).trans (X1.out _ _ x2)
          have n0 := (HD.out.cell ⟨g2, q * 3, none⟩).trans (X2.out _ _ y0)
          have n1 := (HD.out.cell ⟨g2, q * 3 + 1, none⟩).trans (X2.out _ _ y1)
          have n2 := (HD.out.cell ⟨g2, q * 3 + 2, none⟩).trans (X2.out _ _ y2)
          have t1 : (0 : Int) ≤ q := by omega
          have t2 : (q : Int) < nu := by omega
          have t3 : (q : Int) < M := by omega
          obtain ⟨ua, ub, uc⟩ := u
          dsimp only at m0 m1 m2 n0 n1 n2
          clear hu x0 x1 x2 y0 y1 y2 hMt hix
          go_wp2_with fail
          go_quiet (fail)
          clear m0 m1 m2 n0 n1 n2
          have HD2 := Lib.hid (HD.out.drewN nq)
          clear HD
          go_wp2_with fail
          go_roundw
          case rel => exact ⟨q + 1, by omega, by go_num, HD2.out⟩
          case measure => simp [RowKit.intOf]; omega
        · have hq' : q = nu := by omega
          have HB3 := Lib.hid (HD.out.below HB.out)
          have HX := Lib.hid (show ∀ j u, ((us ++ (badUnits W.data.toList).map fun u => (a.size + u.1, u.2.1, u.2.2)).flatMap uCells)[j]? = some u → wr.cell? ⟨g2, j, none⟩ = some u from fun j u hju => (HD.out.cell ⟨g2, j, none⟩).trans (X2.out j u hju))
          have HG2 := Lib.hid (show g2 < wr.heap.size from by
            obtain ⟨nn, hn⟩ := HD.out
            rw [hn]; exact G2.out)
          clear X1 X2 HD hD0 hq
          subst hq'
          obtain ⟨wo, rfl⟩ : ∃ wo : World, wo = wr := ⟨_, rfl⟩
          go_wp2_with fail
          have hb0 := Below.refl wo.heap.size wo
          go_loopw [12] (fun i wr => ∃ r : Nat, r ≤ W.size ∧ i = .int .i64 r ∧ Hid (Below wo.heap.size wo wr)) (fun i _ => W.size - (RowKit.intOf i).toNat)
          case atStart => exact ⟨0, Nat.zero_le _, rfl, hb0⟩
          case round =>
            obtain ⟨r, hr, rfl, HW⟩ := hrel
            by_cases hrn : r < W.size
            · have hu : (us ++ (badUnits W.data.toList).map fun u => (a.size + u.1, u.2.1, u.2.2))[q + r]? = some (a.size + r, 1, -1 - ((W.data.toList.getD r 0).toNat : Int)) := by
                rw [List.getElem?_append_right (by rw [HU.out]; omega), HU.out, Nat.add_sub_cancel_left]
                exact bad_at _ _ _ (by rw [← Lib.size_eq]; exact hrn)
              have hgd : W.data.toList.getD r 0 = W[r] := by
                have := getD_drop_at W r hrn
                rwa [List.getD, List.getElem?_drop, Nat.add_zero, ← List.getD] at this
              rw [hgd] at hu
              obtain ⟨x0, x1, x2⟩ := cells3 _ _ _ hu
              dsimp only at x0 x1 x2
              have m0 : wr.cell? ⟨g2, (q + r) * 3, none⟩ = some (.int .i64 ((a.size : Int) + r)) := (HW.out.cell (p := ⟨g2, (q + r) * 3, none⟩) HG2.out).trans ((HX.out _ _ x0).trans (by rw [Int.natCast_add]))
              have m1 : wr.cell? ⟨g2, (q + r) * 3 + 1, none⟩ = some (.int .i64 1) := (HW.out.cell (p := ⟨g2, (q + r) * 3 + 1, none⟩) HG2.out).trans (HX.out _ _ x1)
              obtain ⟨C, hC⟩ : ∃ C, C = -1 - (W[r].toNat : Int) := ⟨_, rfl⟩
              have m2 : wr.cell? ⟨g2, (q + r) * 3 + 2, none⟩ = some (.int .i64 C) := (HW.out.cell (p := ⟨g2, (q + r) * 3 + 2, none⟩) HG2.out).trans ((HX.out _ _ x2).trans (by rw [hC]))
              have hbb := W[r].toNat_lt
              have q5 : IntKind.i64.wrap (W[r].toNat : Int) = (W[r].toNat : Int) := IntWalk.i64_in _ (by omega)
              have q6 : IntKind.i64.wrap (-1 - (W[r].toNat : Int)) = -1 - (W[r].toNat : Int) := IntWalk.i64_in _ (by omega)
              have q7 : (C != -1 - (W[r].toNat : Int)) = false := by simp [hC]
              have q8 : IntKind.i64.wrap ((a.size : Int) + r) = (a.size : Int) + r := IntWalk.i64_in _ (by omega)
              have Q := Lib.hid (And.intro q5 (And.intro q6 (And.intro q7 q8)))
              have t1 : (0 : Int) ≤ (q : Int) + r := by omega
              have t2 : (q : Int) + r < M := by omega
              have t3 : ((q : Int) + r).toNat = q + r := by omega
              clear hu hgd x0 x1 x2 hC q5 q6 q7 q8 hMt hix
              go_wp2_with fail
              obtain ⟨q5, q6, q7, q8⟩ := Q.out
              clear m0 m1 m2 t1 t2 t3
              have o0 : (wr.alloc (.cells #[.int .i64 ((a.size : Int) + r), .int .i64 1, .int .i64 C] 24)).cell? ⟨wr.heap.size, 0, none⟩ = some (.int .i64 ((a.size : Int) + r)) := by simp
              have o1 : (wr.alloc (.cells #[.int .i64 ((a.size : Int) + r), .int .i64 1, .int .i64 C] 24)).cell? ⟨wr.heap.size, 1, none⟩ = some (.int .i64 1) := by simp
              have o2 : (wr.alloc (.cells #[.int .i64 ((a.size : Int) + r), .int .i64 1, .int .i64 C] 24)).cell? ⟨wr.heap.size, 2, none⟩ = some (.int .i64 C) := by simp
              have hW3 := HW.out.alloc HW.out.size (.cells #[.int .i64 ((a.size : Int) + r), .int .i64 1, .int .i64 C] 24)
              generalize wr.alloc (.cells #[.int .i64 ((a.size : Int) + r), .int .i64 1, .int .i64 C] 24) = w3 at o0 o1 o2 hW3 ⊢
              have HW3 := Lib.hid hW3
              clear hW3 HW
              go_quiet (fail)
              have HW4 := Lib.hid (below_drewN HW3.out nq)
              clear o0 o1 o2 HW3 q5 q6 q7 q8
              go_wp2_with fail
              go_roundw
              case rel => exact ⟨r + 1, by omega, by go_num, HW4.out⟩
              case measure => simp [RowKit.intOf]; omega
            · have hr' : r = W.size := by omega
              have hu : (us ++ (badUnits W.data.toList).map fun u => (a.size + u.1, u.2.1, u.2.2))[q + W.size]? = some (a.size + W.size, 1, 122) := by
                rw [List.getElem?_append_right (by rw [HU.out]; omega), HU.out, Nat.add_sub_cancel_left, Lib.size_eq]
                exact bad_last _ _
              obtain ⟨-, -, x2⟩ := cells3 _ _ _ hu
              dsimp only at x2
              have hM : M - 1 = q + W.size := by omega
              rw [← hM] at x2
              have HM := Lib.hid (HX.out _ _ x2)
              have HW5 := Lib.hid HW.out
              have hT5 := Lib.hid (tabs_below HT.out (HB3.out.trans (HW.out.mono HB3.out.size)))
              clear hu x2 hM HW hr hix hMt
              have t1 : (0 : Int) ≤ (M : Int) - 1 := by omega
              have t3 : ((M : Int) - 1).toNat = M - 1 := by omega
              go_wp2_with fail
              refine (C2.out _ hT5.out).mono ?_
              rintro e w4 ⟨rfl, hb4⟩
              have m2 : w4.cell? ⟨g2, (M - 1) * 3 + 2, none⟩ = some (.int .i64 122) := (hb4.cell (p := ⟨g2, (M - 1) * 3 + 2, none⟩) (Nat.lt_of_lt_of_le HG2.out HW5.out.size)).trans ((HW5.out.cell (p := ⟨g2, (M - 1) * 3 + 2, none⟩) HG2.out).trans HM.out)
              have HB5 := Lib.hid (HB3.out.trans (HW5.out.mono HB3.out.size))
              have HB6 := Lib.hid (HB5.out.trans (hb4.mono HB5.out.size))
              clear hb4
              go_wp2_with fail
              refine (awake_any _ (tabs_below HT.out HB6.out)).mono ?_
              rintro e w5 ⟨rfl, hb5⟩
              have HB7 := Lib.hid (HB6.out.trans (hb5.mono HB6.out.size))
              clear hb5
              go_wp2_with fail
              go_ret
              exact ⟨rfl, HB7.out⟩
end Go.Proofs.YtfenpcddmdopdaaDoor
