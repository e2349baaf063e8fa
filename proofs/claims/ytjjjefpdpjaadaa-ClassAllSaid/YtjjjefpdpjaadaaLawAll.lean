/- ClassAll: any table, any code: the walk. -/
import Derived.Test.YtjjjefpdpjaadaaAwake
import Derived.Test.YtjjjefpdpjaadaaRefCheck
import Derived.Deep.RegionHeld3
import Derived.Deep.Draws
namespace Go.Proofs.Ytjjjefpdpjaadaa
open Go Go.RowKit

theorem below_drew {B : Nat} {a w : World} (h : Below B a w) : Below B a w.drew := below_drewN h 1

set_option maxHeartbeats 1000000 in
theorem all_big (A : Option Addr) (n cap : Nat) (c : Int) (w : World) (hn : 120 < n) (hm : n ≤ maxLen) :
    Calls Try.prog 3 #[.slice A n cap, .int .i64 c] w fun e w' => e = .returned (.bool true) ∧ Below w.heap.size w w' := by
  unfold maxLen at hm
  go_enter Try.func3, Try.ntmps3
  go_wp2_with (go_at_call 7; refine (awake_any _).mono ?_; rintro e w1 ⟨rfl, hb1⟩)
  go_ret
  exact ⟨rfl, hb1⟩

set_option maxHeartbeats 1000000 in
theorem all_none (A : Option Addr) (cap : Nat) (c : Int) (w : World) :
    Calls Try.prog 3 #[.slice A 0 cap, .int .i64 c] w fun e w' => e = .returned (.bool true) ∧ Below w.heap.size w w' := by
  have C8 := Lib.hid (check_none A cap)
  have C9 := Lib.hid (rcheck_none A cap)
  have C10 := Lib.hid (of_none A cap)
  have C11 := Lib.hid (rof_none A cap)
  go_enter Try.func3, Try.ntmps3
  go_wp2_with fail
  refine (C8.out _).mono ?_
  rintro e w1 ⟨rfl, hb1⟩
  go_wp2_with fail
  refine (C9.out _).mono ?_
  rintro e w2 ⟨rfl, hb2⟩
  have HB2 := Lib.hid (hb1.trans (hb2.mono hb1.size))
  clear hb1 hb2
  go_wp2_with fail
  refine (C10.out _ _).mono ?_
  rintro e w3 ⟨rfl, hb3⟩
  have HB3 := Lib.hid (HB2.out.trans (hb3.mono HB2.out.size))
  clear hb3
  go_wp2_with fail
  refine (C11.out _ _).mono ?_
  rintro e w4 ⟨rfl, hb4⟩
  have HB4 := Lib.hid (HB3.out.trans (hb4.mono HB3.out.size))
  clear hb4
  go_wp2_with fail
  go_loop [5] (fun i => i = .int .i64 0) (fun _ => 0)
  case atStart => rfl
  case round =>
    subst hrel
    go_wp2_with fail
    refine (awake_any _).mono ?_
    rintro e w5 ⟨rfl, hb5⟩
    have HB5 := Lib.hid (HB4.out.trans (hb5.mono HB4.out.size))
    clear hb5
    go_wp2_with fail
    go_ret
    exact ⟨rfl, HB5.out⟩

set_option maxRecDepth 100000 in
set_option maxHeartbeats 4000000 in
theorem all_some (b off cap n : Nat) (rs : List R3) (c : Int) (w : World) (hn : rs.length = n) (hn2 : n ≤ 120) (hlt : b < w.heap.size) (h1 : n ≤ cap) (h2 : cap ≤ maxLen)
    (hc : ∀ (i : Nat) (r : R3), rs[i]? = some r → w.cell? ⟨b, off + i * 3, none⟩ = some (.int .i64 r.1) ∧ w.cell? ⟨b, off + i * 3 + 1, none⟩ = some (.int .i64 r.2.1) ∧ w.cell? ⟨b, off + i * 3 + 2, none⟩ = some (.int .i64 r.2.2)) :
    Calls Try.prog 3 #[.slice (some ⟨b, off, none⟩) n cap, .int .i64 c] w fun e w' => e = .returned (.bool true) ∧ Below w.heap.size w w' := by
  have ht : Tbl w (.slice (some ⟨b, off, none⟩) n cap) rs := .inr ⟨b, off, cap, by rw [hn], hlt, by rw [hn]; exact h1, h2, hc⟩
  have c8 : ∀ wx, Below w.heap.size w wx → Calls Try.prog 8 #[.slice (some ⟨b, off, none⟩) n cap] wx fun e w' => e = .returned (.bool (okT rs)) ∧ Below w.heap.size w w' :=
    fun wx hx => (check_any _ rs wx (ht.below hx)).mono fun e w' ⟨he, hb⟩ => ⟨he, hx.trans (hb.mono hx.size)⟩
  have c9 : ∀ wx, Below w.heap.size w wx → Calls Try.prog 9 #[.slice (some ⟨b, off, none⟩) n cap] wx fun e w' => e = .returned (.bool (okT rs)) ∧ Below w.heap.size w w' :=
    fun wx hx => (rcheck_any _ rs wx (ht.below hx)).mono fun e w' ⟨he, hb⟩ => ⟨he, hx.trans (hb.mono hx.size)⟩
  have c10 : ∀ wx c, Below w.heap.size w wx → Calls Try.prog 10 #[.slice (some ⟨b, off, none⟩) n cap, .int .i64 c] wx fun e w' => e = .returned (.int .i64 (ofT rs c)) ∧ Below w.heap.size w w' :=
    fun wx c hx => (of_any _ rs c wx (ht.below hx)).mono fun e w' ⟨he, hb⟩ => ⟨he, hx.trans (hb.mono hx.size)⟩
  have c11 : ∀ wx c, Below w.heap.size w wx → Calls Try.prog 11 #[.slice (some ⟨b, off, none⟩) n cap, .int .i64 c] wx fun e w' => e = .returned (.int .i64 (ofT rs c)) ∧ Below w.heap.size w w' :=
    fun wx c hx => (rof_any _ rs c wx (ht.below hx)).mono fun e w' ⟨he, hb⟩ => ⟨he, hx.trans (hb.mono hx.size)⟩
  have HN := Lib.hid hn
  have HC := Lib.hid hc
  have C8 := Lib.hid c8
  have C9 := Lib.hid c9
  have C10 := Lib.hid c10
  have C11 := Lib.hid c11
  clear c8 c9 c10 c11 hc hn ht h2
  go_enter Try.func3, Try.ntmps3
  go_wp2_with fail
  refine (C8.out _ (Below.refl _ _)).mono ?_
  rintro e w1 ⟨rfl, hb1⟩
  have HB1 := Lib.hid hb1
  clear hb1
  go_wp2_with fail
  refine (C9.out _ HB1.out).mono ?_
  rintro e w2 ⟨rfl, hb2⟩
  have HB2 := Lib.hid hb2
  clear hb2
  go_wp2_with fail
  refine (C10.out _ _ HB2.out).mono ?_
  rintro e w3 ⟨rfl, hb3⟩
  have HB3 := Lib.hid hb3
  clear hb3
  go_wp2_with fail
  refine (C11.out _ _ HB3.out).mono ?_
  rintro e w4 ⟨rfl, hb4⟩
  have HB4 := Lib.hid hb4
  clear hb4 HB1 HB2 HB3
  go_wp2_with fail
  go_loopw [5] (fun i wr => ∃ k : Nat, k ≤ n ∧ i = .int .i64 k ∧ Hid (Below w.heap.size w wr)) (fun i _ => n - (RowKit.intOf i).toNat)
  case atStart => exact ⟨0, Nat.zero_le _, rfl, HB4.out⟩
  case round =>
    obtain ⟨k, hk, rfl, HB⟩ := hrel
    by_cases hkn : k < n
    · obtain ⟨r, hr⟩ : ∃ r, rs[k]? = some r := ⟨_, List.getElem?_eq_getElem (by rw [HN.out]; exact hkn)⟩
      obtain ⟨c0, c1, -⟩ := HC.out k r hr
      obtain ⟨f, t, q⟩ := r
      dsimp only at c0 c1
      have tk1 : (0 : Int) ≤ k := by omega
      have tk2 : (k : Int) < n := by omega
      have M0 := Lib.hid c0
      have M1 := Lib.hid c1
      clear hr c0 c1
      obtain ⟨wo, rfl⟩ : ∃ wo : World, wo = wr := ⟨_, rfl⟩
      go_wp2_with fail
      go_loopw [6] (fun i wr => ∃ z : Int, -1 ≤ z ∧ z ≤ 2 ∧ i = .int .i64 z ∧ Hid (Below w.heap.size w wr)) (fun i _ => (2 - RowKit.intOf i).toNat)
      case atStart => exact ⟨-1, by omega, by omega, rfl, HB.out⟩
      case round =>
        obtain ⟨z, hz1, hz2, rfl, HB5⟩ := hrel
        by_cases hz : z < 2
        · have c10' : ∀ wx c, (wx.cell? ⟨b, off + k * 3, none⟩ = some (.int .i64 f) ∧ wx.cell? ⟨b, off + k * 3 + 1, none⟩ = some (.int .i64 t) ∧ Hid (Below w.heap.size w wx)) →
              Calls Try.prog 10 #[.slice (some ⟨b, off, none⟩) n cap, .int .i64 c] wx fun e w' => e = .returned (.int .i64 (ofT rs c)) ∧ (w'.cell? ⟨b, off + k * 3, none⟩ = some (.int .i64 f) ∧ w'.cell? ⟨b, off + k * 3 + 1, none⟩ = some (.int .i64 t) ∧ Hid (Below w.heap.size w w')) :=
            fun wx c hx => (C10.out wx c hx.2.2.out).mono fun e w' ⟨he, hb⟩ => ⟨he, (hb.cell (p := ⟨b, _, none⟩) hlt).trans M0.out, (hb.cell (p := ⟨b, _, none⟩) hlt).trans M1.out, hb⟩
          have c11' : ∀ wx c, (wx.cell? ⟨b, off + k * 3, none⟩ = some (.int .i64 f) ∧ wx.cell? ⟨b, off + k * 3 + 1, none⟩ = some (.int .i64 t) ∧ Hid (Below w.heap.size w wx)) →
              Calls Try.prog 11 #[.slice (some ⟨b, off, none⟩) n cap, .int .i64 c] wx fun e w' => e = .returned (.int .i64 (ofT rs c)) ∧ (w'.cell? ⟨b, off + k * 3, none⟩ = some (.int .i64 f) ∧ w'.cell? ⟨b, off + k * 3 + 1, none⟩ = some (.int .i64 t) ∧ Hid (Below w.heap.size w w')) :=
            fun wx c hx => (C11.out wx c hx.2.2.out).mono fun e w' ⟨he, hb⟩ => ⟨he, (hb.cell (p := ⟨b, _, none⟩) hlt).trans M0.out, (hb.cell (p := ⟨b, _, none⟩) hlt).trans M1.out, hb⟩
          have C10' := Lib.hid c10'
          have C11' := Lib.hid c11'
          have hS : wr.drew.cell? ⟨b, off + k * 3, none⟩ = some (.int .i64 f) ∧ wr.drew.cell? ⟨b, off + k * 3 + 1, none⟩ = some (.int .i64 t) ∧ Hid (Below w.heap.size w wr.drew) :=
            ⟨(HB5.out.cell (p := ⟨b, _, none⟩) hlt).trans M0.out, (HB5.out.cell (p := ⟨b, _, none⟩) hlt).trans M1.out, below_drew HB5.out⟩
          have HS := Lib.hid hS
          clear c10' c11' hS
          go_wp2_with fail
          go_region_held3 (fun wx => wx.cell? ⟨b, off + k * 3, none⟩ = some (.int .i64 f) ∧ wx.cell? ⟨b, off + k * 3 + 1, none⟩ = some (.int .i64 t) ∧ Hid (Below w.heap.size w wx))
            (first | exact HS.out | assumption)
            (first
              | (go_at_call 10; refine (C10'.out _ _ (by assumption)).mono ?_; rintro e w5 ⟨rfl, hs⟩)
              | (go_at_call 11; refine (C11'.out _ _ (by assumption)).mono ?_; rintro e w5 ⟨rfl, hs⟩))
          all_goals
            have HB6 : Hid (Below w.heap.size w w5) := by
              have hh : w5.cell? ⟨b, off + k * 3, none⟩ = some (.int .i64 f) ∧ w5.cell? ⟨b, off + k * 3 + 1, none⟩ = some (.int .i64 t) ∧ Hid (Below w.heap.size w w5) := by assumption
              exact hh.2.2
            go_wp2_with fail
            go_roundw
            case rel => exact ⟨z + 1, by omega, by omega, rfl, HB6.out⟩
            case measure => simp [RowKit.intOf]; omega
        · go_wp2_with fail
          go_roundw
          case rel => exact ⟨k + 1, by omega, by go_num, HB5.out⟩
          case measure => simp [RowKit.intOf]; omega
    · go_wp2_with fail
      refine (awake_any _).mono ?_
      rintro e w5 ⟨rfl, hb5⟩
      have HB5 := Lib.hid (HB.out.trans (hb5.mono HB.out.size))
      clear hb5
      go_wp2_with fail
      go_ret
      exact ⟨rfl, HB5.out⟩

/-- ClassAll of a slice that reads as a table. -/
theorem all_law (A : Option Addr) (n cap : Nat) (rs : List R3) (c : Int) (w : World) (h : Tbl w (.slice A n cap) rs) (hm : n ≤ maxLen) :
    Calls Try.prog 3 #[.slice A n cap, .int .i64 c] w fun e w' => e = .returned (.bool true) ∧ Below w.heap.size w w' := by
  by_cases hn : 120 < n
  · exact all_big A n cap c w hn hm
  · rcases h with ⟨⟨A', cap', hv⟩, rfl⟩ | ⟨b, off, cap', hv, hlt, h1, h2, hc⟩
    · cases hv
      exact all_none A cap c w
    · cases hv
      exact all_some b off cap _ rs c w rfl (by omega) hlt h1 h2 hc
end Go.Proofs.Ytjjjefpdpjaadaa
