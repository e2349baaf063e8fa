/- ClassWrong: a table that may be, one thing of it turned: the walk. -/
import Derived.Test.YtjjjefpdpjaadaaTable
import Derived.Deep.RegionHeld3
import Derived.Deep.RegionLaw
import Derived.Deep.AppendLies
import Derived.Deep.LoopGhost
import Derived.Deep.Draws
namespace Go.Proofs.Ytjjjefpdpjaadaa
open Go Go.RowKit

theorem grown_drew {w w' : World} {row : Option Nat} (h : w.drew.grownBy w' row) : w.grownBy w' row := ⟨h.os, h.tape, h.output, h.size, h.block⟩

set_option maxRecDepth 100000 in
set_option maxHeartbeats 8000000 in
theorem wrong_law (how at_ code : Int) (w : World) :
    Calls Try.prog 5 #[.int .i64 how, .int .i64 at_, .int .i64 code] w fun e w' => e = .returned (.bool true) ∧ Below w.heap.size w w' := by
  obtain ⟨i0, hi, hz0, hz1, hz2⟩ := info_parts Try.info27
  obtain ⟨i, hat⟩ : ∃ i : Nat, at_ % 5 = i := ⟨(at_ % 5).toNat, by omega⟩
  have hi5 : i < 5 := by omega
  have P1 := Lib.hid (place_at at_ 5 i hat (by omega) (by omega))
  obtain ⟨h, hh⟩ : ∃ h : Nat, how % 8 = h := ⟨(how % 8).toNat, by omega⟩
  have hh8 : h < 8 := by omega
  have P2 := Lib.hid (place_at how 8 h hh (by omega) (by omega))
  have T := Lib.hid table_any
  have c8 : ∀ wx v, Tbl wx v tab → Calls Try.prog 8 #[v] wx fun e w' => e = .returned (.bool true) ∧ Below wx.heap.size wx w' := fun wx v h => by
    have := check_any v tab wx h
    rwa [tab_ok] at this
  have C8 := Lib.hid c8
  have B8 := Lib.hid bad_check
  have B10 := Lib.hid bad_of
  obtain ⟨r, hr⟩ : ∃ r, tab[i]? = some r := ⟨_, List.getElem?_eq_getElem hi5⟩
  obtain ⟨f, t, k⟩ := r
  have HR := Lib.hid hr
  obtain ⟨hf1, hf2⟩ := tab_bounds i f t k hr
  have ti1 : (0 : Int) ≤ i := by omega
  have ti2 : (i : Int) < 5 := by omega
  clear hat hh c8 hr
  go_enter Try.func5, Try.ntmps5
  go_wp2_with fail
  refine (T.out _).mono ?_
  rintro e w1 ⟨g, rfl, ⟨hg1, hg2⟩, hgc, hb1⟩
  have HG := Lib.hid hgc
  have HB1 := Lib.hid hb1
  clear hgc hb1
  go_wp2_with fail
  refine (P1.out _).mono ?_
  rintro e w2 ⟨rfl, rfl⟩
  go_wp2_with fail
  refine (C8.out _ _ (tbl_block HG.out rfl (Nat.le_refl _) five_max rfl)).mono ?_
  rintro e w2 ⟨rfl, hb2⟩
  have HB2 := Lib.hid (HB1.out.trans (hb2.mono HB1.out.size))
  have hgc : w2.heap[g]? = some (.cells tCells 27 (0, 0)) := by rw [hb2.block g hg2]; exact HG.out
  have hg3 : g < w2.heap.size := Nat.lt_of_lt_of_le hg2 hb2.size
  have HG2 := Lib.hid hgc
  obtain ⟨m0, m1, m2⟩ := tab_cells hgc i f t k HR.out
  obtain ⟨n0, n1, -⟩ := tab_cells hgc 0 39 39 3 rfl
  obtain ⟨l0, l1, l2⟩ := tab_cells hgc 4 192 591 1 rfl
  obtain ⟨s0, -, -⟩ := tab_cells hgc 1 48 57 2 rfl
  have fz := fun j => frozen_of_row w2 g j tCells 27 hgc
  have hnat : h = 0 ∨ h = 1 ∨ h = 2 ∨ h = 3 ∨ h = 4 ∨ h = 5 ∨ h = 6 ∨ h = 7 := by omega
  clear hgc hb2 HB1 HG hg2
  go_wp2_with fail
  refine (P2.out _).mono ?_
  rintro e w3 ⟨rfl, rfl⟩
  rcases hnat with rfl | rfl | rfl | rfl | rfl | rfl | rfl | rfl
  · go_wp2_with fail
    have hbad := bad_class HG2.out i hi5 0 (.inl rfl)
    have hbel := HB2.out.setCell (p := ⟨g, i * 3 + 2, none⟩) hg1 (.int .i64 0)
    generalize w2.setCell ⟨g, i * 3 + 2, none⟩ (.int .i64 0) = w3 at hbad hbel ⊢
    have HBD := Lib.hid hbad
    have HB3 := Lib.hid hbel
    clear hbad hbel
    refine (B8.out _ _ HBD.out).mono ?_
    rintro e w4 ⟨rfl, hb4⟩
    have HB4 := Lib.hid (HB3.out.trans (hb4.mono HB3.out.size))
    have HBD4 := Lib.hid (HBD.out.below hb4)
    clear hb4
    go_wp2_with fail
    refine (B10.out _ _ _ HBD4.out).mono ?_
    rintro e w5 ⟨rfl, hb5⟩
    have HB5 := Lib.hid (HB4.out.trans (hb5.mono HB4.out.size))
    have HBD5 := Lib.hid (HBD4.out.below hb5)
    clear hb5
    go_wp2_with fail
    refine (B10.out _ _ _ HBD5.out).mono ?_
    rintro e w6 ⟨rfl, hb6⟩
    have HB6 := Lib.hid (HB5.out.trans (hb6.mono HB5.out.size))
    clear hb6
    go_wp2_with fail
    refine (awake_any _).mono ?_
    rintro e w7 ⟨rfl, hb7⟩
    have HB7 := Lib.hid (HB6.out.trans (hb7.mono HB6.out.size))
    clear hb7
    go_wp2_with fail
    go_ret
    exact ⟨rfl, HB7.out⟩
  · go_wp2_with fail
    have hbad := bad_class HG2.out i hi5 4 (.inr rfl)
    have hbel := HB2.out.setCell (p := ⟨g, i * 3 + 2, none⟩) hg1 (.int .i64 4)
    generalize w2.setCell ⟨g, i * 3 + 2, none⟩ (.int .i64 4) = w3 at hbad hbel ⊢
    have HBD := Lib.hid hbad
    have HB3 := Lib.hid hbel
    clear hbad hbel
    refine (B8.out _ _ HBD.out).mono ?_
    rintro e w4 ⟨rfl, hb4⟩
    have HB4 := Lib.hid (HB3.out.trans (hb4.mono HB3.out.size))
    have HBD4 := Lib.hid (HBD.out.below hb4)
    clear hb4
    go_wp2_with fail
    refine (B10.out _ _ _ HBD4.out).mono ?_
    rintro e w5 ⟨rfl, hb5⟩
    have HB5 := Lib.hid (HB4.out.trans (hb5.mono HB4.out.size))
    have HBD5 := Lib.hid (HBD4.out.below hb5)
    clear hb5
    go_wp2_with fail
    refine (B10.out _ _ _ HBD5.out).mono ?_
    rintro e w6 ⟨rfl, hb6⟩
    have HB6 := Lib.hid (HB5.out.trans (hb6.mono HB5.out.size))
    clear hb6
    go_wp2_with fail
    refine (awake_any _).mono ?_
    rintro e w7 ⟨rfl, hb7⟩
    have HB7 := Lib.hid (HB6.out.trans (hb7.mono HB6.out.size))
    clear hb7
    go_wp2_with fail
    go_ret
    exact ⟨rfl, HB7.out⟩
  · go_wp2_with fail
    have hbad := bad_to HG2.out i hi5 f t k HR.out
    have hbel := HB2.out.setCell (p := ⟨g, i * 3 + 1, none⟩) hg1 (.int .i64 (f - 1))
    generalize w2.setCell ⟨g, i * 3 + 1, none⟩ (.int .i64 (f - 1)) = w3 at hbad hbel ⊢
    have HBD := Lib.hid hbad
    have HB3 := Lib.hid hbel
    clear hbad hbel
    refine (B8.out _ _ HBD.out).mono ?_
    rintro e w4 ⟨rfl, hb4⟩
    have HB4 := Lib.hid (HB3.out.trans (hb4.mono HB3.out.size))
    have HBD4 := Lib.hid (HBD.out.below hb4)
    clear hb4
    go_wp2_with fail
    refine (B10.out _ _ _ HBD4.out).mono ?_
    rintro e w5 ⟨rfl, hb5⟩
    have HB5 := Lib.hid (HB4.out.trans (hb5.mono HB4.out.size))
    have HBD5 := Lib.hid (HBD4.out.below hb5)
    clear hb5
    go_wp2_with fail
    refine (B10.out _ _ _ HBD5.out).mono ?_
    rintro e w6 ⟨rfl, hb6⟩
    have HB6 := Lib.hid (HB5.out.trans (hb6.mono HB5.out.size))
    clear hb6
    go_wp2_with fail
    refine (awake_any _).mono ?_
    rintro e w7 ⟨rfl, hb7⟩
    have HB7 := Lib.hid (HB6.out.trans (hb7.mono HB6.out.size))
    clear hb7
    go_wp2_with fail
    go_ret
    exact ⟨rfl, HB7.out⟩
  · go_wp2_with fail
    have hbad := bad_from HG2.out i hi5
    have hbel := HB2.out.setCell (p := ⟨g, i * 3, none⟩) hg1 (.int .i64 (-1))
    generalize w2.setCell ⟨g, i * 3, none⟩ (.int .i64 (-1)) = w3 at hbad hbel ⊢
    have HBD := Lib.hid hbad
    have HB3 := Lib.hid hbel
    clear hbad hbel
    refine (B8.out _ _ HBD.out).mono ?_
    rintro e w4 ⟨rfl, hb4⟩
    have HB4 := Lib.hid (HB3.out.trans (hb4.mono HB3.out.size))
    have HBD4 := Lib.hid (HBD.out.below hb4)
    clear hb4
    go_wp2_with fail
    refine (B10.out _ _ _ HBD4.out).mono ?_
    rintro e w5 ⟨rfl, hb5⟩
    have HB5 := Lib.hid (HB4.out.trans (hb5.mono HB4.out.size))
    have HBD5 := Lib.hid (HBD4.out.below hb5)
    clear hb5
    go_wp2_with fail
    refine (B10.out _ _ _ HBD5.out).mono ?_
    rintro e w6 ⟨rfl, hb6⟩
    have HB6 := Lib.hid (HB5.out.trans (hb6.mono HB5.out.size))
    clear hb6
    go_wp2_with fail
    refine (awake_any _).mono ?_
    rintro e w7 ⟨rfl, hb7⟩
    have HB7 := Lib.hid (HB6.out.trans (hb7.mono HB6.out.size))
    clear hb7
    go_wp2_with fail
    go_ret
    exact ⟨rfl, HB7.out⟩
  · go_wp2_with fail
    have hbad := bad_last HG2.out
    have hbel := HB2.out.setCell (p := ⟨g, 13, none⟩) hg1 (.int .i64 1114112)
    generalize w2.setCell ⟨g, 13, none⟩ (.int .i64 1114112) = w3 at hbad hbel ⊢
    have HBD := Lib.hid hbad
    have HB3 := Lib.hid hbel
    clear hbad hbel
    refine (B8.out _ _ HBD.out).mono ?_
    rintro e w4 ⟨rfl, hb4⟩
    have HB4 := Lib.hid (HB3.out.trans (hb4.mono HB3.out.size))
    have HBD4 := Lib.hid (HBD.out.below hb4)
    clear hb4
    go_wp2_with fail
    refine (B10.out _ _ _ HBD4.out).mono ?_
    rintro e w5 ⟨rfl, hb5⟩
    have HB5 := Lib.hid (HB4.out.trans (hb5.mono HB4.out.size))
    have HBD5 := Lib.hid (HBD4.out.below hb5)
    clear hb5
    go_wp2_with fail
    refine (B10.out _ _ _ HBD5.out).mono ?_
    rintro e w6 ⟨rfl, hb6⟩
    have HB6 := Lib.hid (HB5.out.trans (hb6.mono HB5.out.size))
    clear hb6
    go_wp2_with fail
    refine (awake_any _).mono ?_
    rintro e w7 ⟨rfl, hb7⟩
    have HB7 := Lib.hid (HB6.out.trans (hb7.mono HB6.out.size))
    clear hb7
    go_wp2_with fail
    go_ret
    exact ⟨rfl, HB7.out⟩
  · have hgrows : Grows w w2 (.slice (some ⟨g, 0, none⟩) 5 5) tab := ⟨tab_own HG2.out hg1, HB2.out⟩
    have HGR := Lib.hid hgrows
    have hbt := bad_twice i (f, t, k) HR.out
    have HBT := Lib.hid hbt
    clear hgrows hbt
    go_wp2_with (first
      | (at_builtin; refine wpList_append_own _ rfl _ _ 22 rfl w.heap.size 27 i0 (.agg #[.int .i64 0, .int .i64 0, .int .i64 0]) 3 24 Try.underlying22 hi hz0 hz1 hz2 rfl (by decide) _ _ _ rfl (HGR.out.1.alloc _) ⟨w2.heap.size, 0, none⟩ 1 1 (rCells (f, t, k)) rfl rfl (cells_new _ _ _) (rCells_one (f, t, k)) (by decide) (by decide) (by have := HB2.out.size; simp; omega) ?_; intro v' w3 hown3 hgrow3 _))
    have hst := HGR.out.step (r := (f, t, k)) rfl hown3 hgrow3
    have hbad : Bad w3 v' := ⟨_, hst.tbl, HBT.out⟩
    have HBD := Lib.hid hbad
    have HB3 := Lib.hid hst.2
    clear hst hbad hown3 hgrow3
    refine (B8.out _ _ HBD.out).mono ?_
    rintro e w4 ⟨rfl, hb4⟩
    have HB4 := Lib.hid (HB3.out.trans (hb4.mono HB3.out.size))
    have HBD4 := Lib.hid (HBD.out.below hb4)
    clear hb4
    go_wp2_with fail
    refine (B10.out _ _ _ HBD4.out).mono ?_
    rintro e w5 ⟨rfl, hb5⟩
    have HB5 := Lib.hid (HB4.out.trans (hb5.mono HB4.out.size))
    have HBD5 := Lib.hid (HBD4.out.below hb5)
    clear hb5
    go_wp2_with fail
    refine (B10.out _ _ _ HBD5.out).mono ?_
    rintro e w6 ⟨rfl, hb6⟩
    have HB6 := Lib.hid (HB5.out.trans (hb6.mono HB5.out.size))
    clear hb6
    go_wp2_with fail
    refine (awake_any _).mono ?_
    rintro e w7 ⟨rfl, hb7⟩
    have HB7 := Lib.hid (HB6.out.trans (hb7.mono HB6.out.size))
    clear hb7
    go_wp2_with fail
    go_ret
    exact ⟨rfl, HB7.out⟩
  · go_wp2_with fail
    have hbad := bad_touch HG2.out
    have hbel := HB2.out.setCell (p := ⟨g, 3, none⟩) hg1 (.int .i64 39)
    generalize w2.setCell ⟨g, 3, none⟩ (.int .i64 39) = w3 at hbad hbel ⊢
    have HBD := Lib.hid hbad
    have HB3 := Lib.hid hbel
    clear hbad hbel
    refine (B8.out _ _ HBD.out).mono ?_
    rintro e w4 ⟨rfl, hb4⟩
    have HB4 := Lib.hid (HB3.out.trans (hb4.mono HB3.out.size))
    have HBD4 := Lib.hid (HBD.out.below hb4)
    clear hb4
    go_wp2_with fail
    refine (B10.out _ _ _ HBD4.out).mono ?_
    rintro e w5 ⟨rfl, hb5⟩
    have HB5 := Lib.hid (HB4.out.trans (hb5.mono HB4.out.size))
    have HBD5 := Lib.hid (HBD4.out.below hb5)
    clear hb5
    go_wp2_with fail
    refine (B10.out _ _ _ HBD5.out).mono ?_
    rintro e w6 ⟨rfl, hb6⟩
    have HB6 := Lib.hid (HB5.out.trans (hb6.mono HB5.out.size))
    clear hb6
    go_wp2_with fail
    refine (awake_any _).mono ?_
    rintro e w7 ⟨rfl, hb7⟩
    have HB7 := Lib.hid (HB6.out.trans (hb7.mono HB6.out.size))
    clear hb7
    go_wp2_with fail
    go_ret
    exact ⟨rfl, HB7.out⟩
  · have hgrows : Grows w w2 (.slice (some ⟨g, 0, none⟩) 5 5) (more 0) := ⟨tab_own HG2.out hg1, HB2.out⟩
    clear m0 m1 m2 n0 n1 l0 l1 l2 s0 fz
    go_wp2_with fail
    go_loopg [7] 96 (fun m v wr => ∃ q, q + m = 96 ∧ Hid (Grows w wr v (more q)))
    case atStart => exact ⟨0, rfl, hgrows⟩
    case round =>
      obtain ⟨q, hq, HQ⟩ := hrel
      have HBw := Lib.hid HQ.out.2
      obtain ⟨n, hn⟩ : ∃ n, n = 5 + q := ⟨_, rfl⟩
      have hown := HQ.out.1
      rw [more_len, ← hn] at hown
      obtain ⟨z, hz⟩ : ∃ z : Int, z = 591 + 2 * (q : Int) := ⟨_, rfl⟩
      obtain ⟨lf, lk, hlast⟩ := more_last q
      rw [← hz] at hlast
      rcases hown.2 with ⟨-, h0⟩ | ⟨g', cap', cur, hv, -, hgg, hnc, hcm, -, -⟩
      · exact absurd h0 (by omega)
      · subst hv
        have hcs := fun j u => hown.cells (g := g') rfl j u
        have hadd : ∀ j, (⟨g', 0, none⟩ : Addr).add j = ⟨g', j, none⟩ := fun j => by unfold Addr.add; split <;> simp_all
        obtain ⟨-, x1, -⟩ := cells3 _ _ _ hlast
        dsimp only at x1
        have mz := hcs _ _ x1
        rw [hadd, show 4 + q = n - 1 by omega] at mz
        have MZ := Lib.hid mz
        have HO := Lib.hid hown
        have HN := Lib.hid hn
        have HZ := Lib.hid hz
        have hn1 : 5 ≤ n := by omega
        have hn2 : n ≤ 101 := by omega
        have hn3 : n ≤ 5 + q := by omega
        have hn4 : 5 + q ≤ n := by omega
        have zz1 : 591 ≤ z := by omega
        have zz2 : z ≤ 1000 := by omega
        unfold maxLen at hcm
        clear hown hcs hadd x1 hlast mz hn hz hgg hgrows
        by_cases hbig : n ≤ 100
        · have t1 : (0 : Int) ≤ (n : Int) - 1 := by omega
          have t2 : (n : Int) - 1 < n := by omega
          have t3 : ((n : Int) - 1).toNat = n - 1 := by omega
          have mz := MZ.out
          have a1 : IntKind.i64.wrap ((n : Int) - 1) = (n : Int) - 1 := IntWalk.i64_in _ (by omega)
          have a2 : IntKind.i64.wrap (z + 2) = z + 2 := IntWalk.i64_in _ (by omega)
          have A := Lib.hid (And.intro a1 a2)
          clear a1 a2
          go_wp2_with fail
          obtain ⟨a1, a2⟩ := A.out
          have t4 : (1 : Int) ≤ n := by omega
          go_region_law ((refine step_append_lies _ (by rfl) _ _ _ (by rfl) w.heap.size 27 i0 _ 3 24 Try.underlying22 hi hz0 hz1 hz2 rfl (by omega) (.slice (some ⟨g', 0, none⟩) n cap') n ((more q).flatMap rCells) (by rfl) ((HO.out.alloc _).drew) ⟨wr.heap.size, 0, none⟩ 1 1 (rCells (z + 2, z + 2, 1)) (by rfl) (by rfl) (World.news_of_block (cs := #[.int .i64 (z + 2), .int .i64 (z + 2), .int .i64 1]) (t := 27) (fr := (0, 0)) (heap_alloc_new wr _)) (rCells_one (z + 2, z + 2, 1)) (by omega) (by unfold maxLen; omega) (by omega) (by have := HBw.out.size; simp; omega) (wr.heap.size + 1) (by simp) ?_; intro gg cap4 w4 hown4 hgrow4 hat4 hlt4))
          all_goals
            have hst := HQ.out.step (r := (z + 2, z + 2, 1)) (n := n) (by rw [more_len]; omega) hown4 (grown_drew hgrow4)
            rw [show ((z + 2, z + 2, 1) : R3) = (593 + 2 * (q : Int), 593 + 2 * (q : Int), 1) from by rw [HZ.out, show (591 + 2 * (q : Int) + 2) = 593 + 2 * (q : Int) by omega], ← more_succ] at hst
            have HST := Lib.hid hst
            clear hst hown4 hgrow4 hat4 mz a1 a2
            go_wp2_with fail
            go_roundg (gk - 1)
            case measure => omega
            case rel => exact ⟨q + 1, by omega, HST.out⟩
        · have hbad : Bad wr (.slice (some ⟨g', 0, none⟩) n cap') := ⟨_, HQ.out.tbl, more_no q (by omega)⟩
          have HBD := Lib.hid hbad
          have HB3 := HBw
          clear hbad
          go_wp2_with fail
          refine (B8.out _ _ HBD.out).mono ?_
          rintro e w4 ⟨rfl, hb4⟩
          have HB4 := Lib.hid (HB3.out.trans (hb4.mono HB3.out.size))
          have HBD4 := Lib.hid (HBD.out.below hb4)
          clear hb4
          go_wp2_with fail
          refine (B10.out _ _ _ HBD4.out).mono ?_
          rintro e w5 ⟨rfl, hb5⟩
          have HB5 := Lib.hid (HB4.out.trans (hb5.mono HB4.out.size))
          have HBD5 := Lib.hid (HBD4.out.below hb5)
          clear hb5
          go_wp2_with fail
          refine (B10.out _ _ _ HBD5.out).mono ?_
          rintro e w6 ⟨rfl, hb6⟩
          have HB6 := Lib.hid (HB5.out.trans (hb6.mono HB5.out.size))
          clear hb6
          go_wp2_with fail
          refine (awake_any _).mono ?_
          rintro e w7 ⟨rfl, hb7⟩
          have HB7 := Lib.hid (HB6.out.trans (hb7.mono HB6.out.size))
          clear hb7
          go_wp2_with fail
          go_ret
          exact ⟨rfl, HB7.out⟩
end Go.Proofs.Ytjjjefpdpjaadaa
