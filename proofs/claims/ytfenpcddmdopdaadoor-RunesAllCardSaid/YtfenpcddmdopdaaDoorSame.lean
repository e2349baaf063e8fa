/- The laws' own comparisons of lists: two that read alike are the same. -/
import Derived.Test.YtfenpcddmdopdaaDoorSide
import Derived.Test.YtfenpcddmdopdaaDoorLawWrong
import Derived.Deep.QuietTactic
import Derived.BigQuiet
namespace Go.Proofs.YtfenpcddmdopdaaDoor
open Go Go.RowKit Go.Lib

set_option maxHeartbeats 1000000 in
theorem same_nil (a b : Option Addr) (ca cb : Nat) (w : World) : Calls Tryd.prog 12 #[.slice a 0 ca, .slice b 0 cb] w fun e w' => e = .returned (.bool true) ∧ Drawn w w' := by
  go_enter Tryd.func12, Tryd.ntmps12
  go_wp2
  go_loopw [5] (fun i wr => i = .int .i64 0 ∧ Hid (Drawn w wr)) (fun _ _ => 0)
  case atStart => exact ⟨rfl, Drawn.refl w⟩
  case round =>
    obtain ⟨rfl, HD⟩ := hrel
    go_wp2
    go_ret
    exact ⟨rfl, HD.out⟩

set_option maxRecDepth 100000 in
set_option maxHeartbeats 2000000 in
theorem same_yes (us : List (Nat × Nat × Int)) (g h n ca cb : Nat) (w : World) (hn : us.length = n) (hca : n ≤ ca) (hcm : ca ≤ maxLen)
    (hg : ∀ j u, (us.flatMap uCells)[j]? = some u → w.cell? ⟨g, j, none⟩ = some u) (hh : ∀ j u, (us.flatMap uCells)[j]? = some u → w.cell? ⟨h, j, none⟩ = some u) :
    Calls Tryd.prog 12 #[.slice (some ⟨g, 0, none⟩) n ca, .slice (some ⟨h, 0, none⟩) n cb] w fun e w' => e = .returned (.bool true) ∧ Drawn w w' := by
  unfold maxLen at hcm
  have HN := Lib.hid hn
  have HG := Lib.hid hg
  have HH := Lib.hid hh
  clear hn hg hh
  go_enter Tryd.func12, Tryd.ntmps12
  go_wp2_with fail
  go_loopw [5] (fun i wr => ∃ q : Nat, q ≤ n ∧ i = .int .i64 q ∧ Hid (Drawn w wr)) (fun i _ => n - (RowKit.intOf i).toNat)
  case atStart => exact ⟨0, Nat.zero_le _, rfl, Drawn.refl w⟩
  case round =>
    obtain ⟨q, hq, rfl, HD⟩ := hrel
    by_cases hqn : q < n
    · obtain ⟨u, hu⟩ : ∃ u, us[q]? = some u := by
        have hql : q < us.length := by rw [HN.out]; exact hqn
        exact ⟨us[q], List.getElem?_eq_getElem hql⟩
      obtain ⟨x0, x1, x2⟩ := cells3 us q u hu
      have m0 := (HD.out.cell ⟨g, q * 3, none⟩).trans (HG.out _ _ x0)
      have m1 := (HD.out.cell ⟨g, q * 3 + 1, none⟩).trans (HG.out _ _ x1)
      have m2 := (HD.out.cell ⟨g, q * 3 + 2, none⟩).trans (HG.out _ _ x2)
      have n0 := (HD.out.cell ⟨h, q * 3, none⟩).trans (HH.out _ _ x0)
      have n1 := (HD.out.cell ⟨h, q * 3 + 1, none⟩).trans (HH.out _ _ x1)
      have n2 := (HD.out.cell ⟨h, q * 3 + 2, none⟩).trans (HH.out _ _ x2)
      have t1 : (0 : Int) ≤ q := by omega
      have t2 : (q : Int) < n := by omega
      obtain ⟨ua, ub, uc⟩ := u
      dsimp only at m0 m1 m2 n0 n1 n2
      clear hu x0 x1 x2
      go_wp2_with fail
      go_quiet (fail)
      clear m0 m1 m2 n0 n1 n2
      have HD2 := Lib.hid (HD.out.drewN nq)
      clear HD
      go_wp2_with fail
      go_roundw
      case rel => exact ⟨q + 1, by omega, by go_num, HD2.out⟩
      case measure => simp [RowKit.intOf]; omega
    · go_wp2_with fail
      go_ret
      exact ⟨rfl, HD.out⟩

set_option maxHeartbeats 1000000 in
theorem ints_nil (a b : Option Addr) (ca cb : Nat) (w : World) : Calls Tryd.prog 17 #[.slice a 0 ca, .slice b 0 cb] w fun e w' => e = .returned (.bool true) ∧ Drawn w w' := by
  go_enter Tryd.func17, Tryd.ntmps17
  go_wp2
  go_loopw [5] (fun i wr => i = .int .i64 0 ∧ Hid (Drawn w wr)) (fun _ _ => 0)
  case atStart => exact ⟨rfl, Drawn.refl w⟩
  case round =>
    obtain ⟨rfl, HD⟩ := hrel
    go_wp2
    go_ret
    exact ⟨rfl, HD.out⟩

set_option maxRecDepth 100000 in
set_option maxHeartbeats 2000000 in
theorem ints_yes (zs : List Int) (g h n ca cb : Nat) (w : World) (hn : zs.length = n) (hca : n ≤ ca) (hcm : ca ≤ maxLen)
    (hg : ∀ j u, (zs.map (Value.int .i64))[j]? = some u → w.cell? ⟨g, j, none⟩ = some u) (hh : ∀ j u, (zs.map (Value.int .i64))[j]? = some u → w.cell? ⟨h, j, none⟩ = some u) :
    Calls Tryd.prog 17 #[.slice (some ⟨g, 0, none⟩) n ca, .slice (some ⟨h, 0, none⟩) n cb] w fun e w' => e = .returned (.bool true) ∧ Drawn w w' := by
  unfold maxLen at hcm
  have HN := Lib.hid hn
  have HG := Lib.hid hg
  have HH := Lib.hid hh
  clear hn hg hh
  go_enter Tryd.func17, Tryd.ntmps17
  go_wp2_with fail
  go_loopw [5] (fun i wr => ∃ q : Nat, q ≤ n ∧ i = .int .i64 q ∧ Hid (Drawn w wr)) (fun i _ => n - (RowKit.intOf i).toNat)
  case atStart => exact ⟨0, Nat.zero_le _, rfl, Drawn.refl w⟩
  case round =>
    obtain ⟨q, hq, rfl, HD⟩ := hrel
    by_cases hqn : q < n
    · obtain ⟨u, hu⟩ : ∃ u, zs[q]? = some u := by
        have hql : q < zs.length := by rw [HN.out]; exact hqn
        exact ⟨zs[q], List.getElem?_eq_getElem hql⟩
      have x0 : (zs.map (Value.int .i64))[q]? = some (.int .i64 u) := by rw [List.getElem?_map, hu]; rfl
      have m0 := (HD.out.cell ⟨g, q, none⟩).trans (HG.out _ _ x0)
      have n0 := (HD.out.cell ⟨h, q, none⟩).trans (HH.out _ _ x0)
      have t1 : (0 : Int) ≤ q := by omega
      have t2 : (q : Int) < n := by omega
      clear hu x0
      go_wp2_with fail
      go_quiet (fail)
      clear m0 n0
      have HD2 := Lib.hid (HD.out.drewN nq)
      clear HD
      go_wp2_with fail
      go_roundw
      case rel => exact ⟨q + 1, by omega, by go_num, HD2.out⟩
      case measure => simp [RowKit.intOf]; omega
    · go_wp2_with fail
      go_ret
      exact ⟨rfl, HD.out⟩

/-- Two lists of units of the call's own that read alike. -/
theorem same_own {w : World} {B B' n : Nat} {v v' : Value} {us : List (Nat × Nat × Int)} (hn : us.length = n) (h : w.ownsRow B 24 3 v n (us.flatMap uCells)) (h' : w.ownsRow B' 24 3 v' n (us.flatMap uCells)) :
    Calls Tryd.prog 12 #[v, v'] w fun e w' => e = .returned (.bool true) ∧ Drawn w w' := by
  by_cases h0 : 0 < n
  · obtain ⟨g, ca, rfl, _, _, hc1, hc2, hcells⟩ := own_open h h0
    obtain ⟨g', cb, rfl, _, _, _, _, hcells'⟩ := own_open h' h0
    exact same_yes us g g' n ca cb w hn hc1 hc2 hcells hcells'
  · obtain rfl : n = 0 := by omega
    rcases h.2 with ⟨rfl, _⟩ | ⟨g, cap, cur, rfl, _⟩ <;> rcases h'.2 with ⟨rfl, _⟩ | ⟨g', cap', cur', rfl, _⟩
    all_goals exact same_nil _ _ _ _ w
/-- Two lists of numbers of the call's own that read alike. -/
theorem ints_own {w : World} {B B' n : Nat} {v v' : Value} {zs : List Int} (hn : zs.length = n) (h : w.ownsRow B 3 1 v n (zs.map (Value.int .i64))) (h' : w.ownsRow B' 3 1 v' n (zs.map (Value.int .i64))) :
    Calls Tryd.prog 17 #[v, v'] w fun e w' => e = .returned (.bool true) ∧ Drawn w w' := by
  by_cases h0 : 0 < n
  · obtain ⟨g, ca, rfl, _, _, hc1, hc2, hcells⟩ := own_open h h0
    obtain ⟨g', cb, rfl, _, _, _, _, hcells'⟩ := own_open h' h0
    exact ints_yes zs g g' n ca cb w hn hc1 hc2 hcells hcells'
  · obtain rfl : n = 0 := by omega
    rcases h.2 with ⟨rfl, _⟩ | ⟨g, cap, cur, rfl, _⟩ <;> rcases h'.2 with ⟨rfl, _⟩ | ⟨g', cap', cur', rfl, _⟩
    all_goals exact ints_nil _ _ _ _ w
end Go.Proofs.YtfenpcddmdopdaaDoor
