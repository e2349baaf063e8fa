/- ClassMany: as many ranges as may be, and one more: the walk. -/
import Derived.Test.YtjjjefpdpjaadaaAwake
import Derived.Test.YtjjjefpdpjaadaaMany
namespace Go.Proofs.Ytjjjefpdpjaadaa
open Go Go.RowKit

theorem Try.info27 : (Try.prog.info? 27).map (fun i => (i.zero, i.size, i.bytes)) = some (some (.agg #[.int .i64 0, .int .i64 0, .int .i64 0]), 3, 24) := by kernel_rfl

/-- What holds of a row that the call fills. -/
def Grows (w wr : World) (v : Value) (rs : List R3) : Prop := wr.ownsRow w.heap.size 27 3 v rs.length (rs.flatMap rCells) ∧ Below w.heap.size w wr
theorem Grows.nil (w : World) {wr : World} (hb : Below w.heap.size w wr) : Grows w wr (.slice none 0 0) [] := ⟨World.ownsRow_nil _ _ _ _, hb⟩
theorem Grows.step {w wr w4 : World} {v v' : Value} {rs : List R3} {o : Obj} {n : Nat} {r : R3} (h : Grows w wr v rs) (hn : rs.length = n)
    (hown : w4.ownsRow w.heap.size 27 3 v' (n + 1) (rs.flatMap rCells ++ rCells r)) (hg : (wr.alloc o).grownBy w4 v.ownBlock) : Grows w w4 v' (rs ++ [r]) := by
  refine ⟨?_, (h.2.alloc h.2.size o).grown hg (by have := h.2.size; simp; omega) (fun k hk => (h.1.lt k hk).1)⟩
  have : (rs ++ [r]).flatMap rCells = rs.flatMap rCells ++ rCells r := by simp
  rw [this, List.length_append, hn]
  exact hown
theorem Grows.tbl {w wr : World} {v : Value} {rs : List R3} (h : Grows w wr v rs) : Tbl wr v rs := tbl_own rfl h.1

theorem place_at (v n : Int) (k : Nat) (hk : v % n = k) (hn : 0 < n) (hn2 : n ≤ 1000000000) : ∀ wx, Calls Try.prog 12 #[.int .i64 v, .int .i64 n] wx fun e w' => e = .returned (.int .i64 k) ∧ wx = w' := by
  intro wx
  rw [← hk]
  exact place_any v n wx hn hn2

set_option maxRecDepth 100000 in
set_option maxHeartbeats 4000000 in
theorem many_law (n code : Int) (w : World) :
    Calls Try.prog 6 #[.int .i64 n, .int .i64 code] w fun e w' => e = .returned (.bool true) ∧ Below w.heap.size w w' := by
  obtain ⟨i0, hi, hz0, hz1, hz2⟩ := info_parts Try.info27
  obtain ⟨d, hd⟩ : ∃ d : Nat, n % 5 = d := ⟨(n % 5).toNat, by omega⟩
  have hd5 : d < 5 := by omega
  obtain ⟨c, hc⟩ : ∃ c : Nat, code % (10 * (98 + (d : Int))) = c := ⟨(code % (10 * (98 + (d : Int)))).toNat, by have := Int.emod_nonneg code (show 10 * (98 + (d : Int)) ≠ 0 by omega); omega⟩
  have hclt : (c : Int) < 10 * (98 + (d : Int)) := by rw [← hc]; exact Int.emod_lt_of_pos _ (by omega)
  have P1 := Lib.hid (place_at n 5 d hd (by omega) (by omega))
  have P2 := Lib.hid (place_at code _ c hc (by omega) (by omega))
  clear hd hc
  go_enter Try.func6, Try.ntmps6
  go_wp2_with fail
  refine (P1.out _).mono ?_
  rintro e w1 ⟨rfl, rfl⟩
  go_wp2_with fail
  go_loopw [6, 7] (fun v i wr => ∃ j : Nat, j ≤ 98 + d ∧ i = .int .i64 j ∧ Hid (Grows w wr v (mkMany j))) (fun _ i _ => 98 + d - (RowKit.intOf i).toNat)
  case atStart => exact ⟨0, Nat.zero_le _, rfl, Grows.nil w (Below.refl _ _)⟩
  case round =>
    obtain ⟨j, hj, rfl, HG⟩ := hrel
    by_cases hjd : j < 98 + d
    · go_wp2_with (first
        | (at_builtin; refine wpList_append_own _ rfl _ _ 22 rfl w.heap.size 27 i0 (.agg #[.int .i64 0, .int .i64 0, .int .i64 0]) 3 24 Try.underlying22 hi hz0 hz1 hz2 rfl (by decide) _ _ _ rfl (HG.out.1.alloc _) ⟨wr.heap.size, 0, none⟩ 1 1 (rCells (mOne j)) rfl rfl (cells_new _ _ _) (rCells_one (mOne j)) (by rw [many_len]; unfold maxLen; omega) (by rw [many_len]; omega) (by have := HG.out.2.size; simp; omega) ?_; intro v' w4 hown4 hgrow4 _))
      have hst := Lib.hid (HG.out.step (many_len j) (by rw [many_len] at hown4; exact hown4) hgrow4)
      clear hown4 hgrow4
      go_roundw
      case rel => exact ⟨j + 1, by omega, by go_num, by rw [many_succ]; exact hst.out⟩
      case measure => simp [RowKit.intOf]; omega
    · obtain rfl : j = 98 + d := by omega
      obtain ⟨rs, hrs⟩ : ∃ rs, rs = mkMany (98 + d) := ⟨_, rfl⟩
      rw [← hrs] at HG
      have HT := Lib.hid HG.out.tbl
      have HB := Lib.hid HG.out.2
      have HRS := Lib.hid hrs
      clear hrs HG hj hi hz0 hz1 hz2
      by_cases hbig : 2 < d
      · have hok : okT rs = false := by rw [HRS.out]; exact many_no _ (by omega)
        have c8 : ∀ wx v, Tbl wx v rs → Calls Try.prog 8 #[v] wx fun e w' => e = .returned (.bool false) ∧ Below wx.heap.size wx w' := fun wx v h => by
          have := check_any v rs wx h
          rwa [hok] at this
        have c10 : ∀ wx v x, Tbl wx v rs → Calls Try.prog 10 #[v, .int .i64 x] wx fun e w' => e = .returned (.int .i64 0) ∧ Below wx.heap.size wx w' := fun wx v x h => by
          have := of_any v rs x wx h
          rwa [ofT_no hok] at this
        have C8 := Lib.hid c8
        have C10 := Lib.hid c10
        clear hok c8 c10
        go_wp2_with fail
        refine (P2.out _).mono ?_
        rintro e w1 ⟨rfl, rfl⟩
        go_wp2_with fail
        refine (C8.out _ _ HT.out).mono ?_
        rintro e w2 ⟨rfl, hb2⟩
        have HB2 := Lib.hid (HB.out.trans (hb2.mono HB.out.size))
        have HT2 := Lib.hid (HT.out.below hb2)
        clear hb2
        go_wp2_with fail
        refine (C10.out _ _ _ HT2.out).mono ?_
        rintro e w3 ⟨rfl, hb3⟩
        have HB3 := Lib.hid (HB2.out.trans (hb3.mono HB2.out.size))
        clear hb3
        go_wp2_with fail
        refine (awake_any _).mono ?_
        rintro e w4 ⟨rfl, hb4⟩
        have HB4 := Lib.hid (HB3.out.trans (hb4.mono HB3.out.size))
        clear hb4
        go_wp2_with fail
        go_ret
        exact ⟨rfl, HB4.out⟩
      · have hok : okT rs = true := by rw [HRS.out]; exact many_ok _ (by omega)
        have c8 : ∀ wx v, Tbl wx v rs → Calls Try.prog 8 #[v] wx fun e w' => e = .returned (.bool true) ∧ Below wx.heap.size wx w' := fun wx v h => by
          have := check_any v rs wx h
          rwa [hok] at this
        have C8 := Lib.hid c8
        clear hok c8
        by_cases hin : (c : Int) % 10 ≤ 4
        · have hof : ofT rs c = 1 + (c : Int) / 10 % 3 := by rw [HRS.out]; exact many_in _ _ (by omega) (by omega) (by omega) hin
          have c10 : ∀ wx v, Tbl wx v rs → Calls Try.prog 10 #[v, .int .i64 c] wx fun e w' => e = .returned (.int .i64 (1 + (c : Int) / 10 % 3)) ∧ Below wx.heap.size wx w' := fun wx v h => by
            have := of_any v rs c wx h
            rwa [hof] at this
          have C10 := Lib.hid c10
          clear hof c10
          go_wp2_with fail
          refine (P2.out _).mono ?_
          rintro e w1 ⟨rfl, rfl⟩
          go_wp2_with fail
          refine (C8.out _ _ HT.out).mono ?_
          rintro e w2 ⟨rfl, hb2⟩
          have HB2 := Lib.hid (HB.out.trans (hb2.mono HB.out.size))
          have HT2 := Lib.hid (HT.out.below hb2)
          clear hb2
          go_wp2_with fail
          refine (C10.out _ _ HT2.out).mono ?_
          rintro e w3 ⟨rfl, hb3⟩
          have HB3 := Lib.hid (HB2.out.trans (hb3.mono HB2.out.size))
          clear hb3
          go_wp2_with fail
          refine (awake_any _).mono ?_
          rintro e w4 ⟨rfl, hb4⟩
          have HB4 := Lib.hid (HB3.out.trans (hb4.mono HB3.out.size))
          clear hb4
          go_wp2_with fail
          go_ret
          exact ⟨rfl, HB4.out⟩
        · have hof : ofT rs c = 0 := by rw [HRS.out]; exact many_out _ _ (by omega) (by omega)
          have c10 : ∀ wx v, Tbl wx v rs → Calls Try.prog 10 #[v, .int .i64 c] wx fun e w' => e = .returned (.int .i64 0) ∧ Below wx.heap.size wx w' := fun wx v h => by
            have := of_any v rs c wx h
            rwa [hof] at this
          have C10 := Lib.hid c10
          clear hof c10
          go_wp2_with fail
          refine (P2.out _).mono ?_
          rintro e w1 ⟨rfl, rfl⟩
          go_wp2_with fail
          refine (C8.out _ _ HT.out).mono ?_
          rintro e w2 ⟨rfl, hb2⟩
          have HB2 := Lib.hid (HB.out.trans (hb2.mono HB.out.size))
          have HT2 := Lib.hid (HT.out.below hb2)
          clear hb2
          go_wp2_with fail
          refine (C10.out _ _ HT2.out).mono ?_
          rintro e w3 ⟨rfl, hb3⟩
          have HB3 := Lib.hid (HB2.out.trans (hb3.mono HB2.out.size))
          clear hb3
          go_wp2_with fail
          refine (awake_any _).mono ?_
          rintro e w4 ⟨rfl, hb4⟩
          have HB4 := Lib.hid (HB3.out.trans (hb4.mono HB3.out.size))
          clear hb4
          go_wp2_with fail
          go_ret
          exact ⟨rfl, HB4.out⟩
end Go.Proofs.Ytjjjefpdpjaadaa
