/- The document's own tokens of whatever text; its own comparison of two lists of tokens. -/
import Derived.Test.YtmebboadadlahaaDoorSSeg
import Derived.Deep.QuietTactic
import Derived.BigQuiet
import Derived.Deep.Draws
namespace Go.Proofs.YtmebboadadlahaaDoor
open Go Go.RowKit Go.Lib

set_option maxRecDepth 100000 in
set_option maxHeartbeats 2000000 in
theorem rseg_none (v : Value) (s : ByteArray) (w : World) (hs : s.size ≤ 1000000000000) (hus : units 0 s.data.toList = []) :
    Calls Tryd.prog 11 #[v, .string s] w fun e w' => e = .returned (.slice none 0 0) ∧ Below w.heap.size w w' := by
  have c15 : ∀ wx, Calls Tryd.prog 15 #[.string s] wx fun e w' => ∃ A cap, e = .returned (.slice A 0 cap) ∧ Below wx.heap.size wx w' := by
    intro wx
    refine (rall_any s wx hs).mono ?_
    rintro e w' ⟨v, he, ho, hb⟩
    rw [hus] at ho
    rcases ho.2 with ⟨rfl, _⟩ | ⟨g, cap, cur, rfl, _⟩
    · exact ⟨_, _, he, hb⟩
    · exact ⟨_, _, he, hb⟩
  have C15 := Lib.hid c15
  clear c15 hus
  go_enter Tryd.func11, Tryd.ntmps11
  go_wp2_with fail
  refine (C15.out _).mono ?_
  rintro e w1 ⟨A, cap, rfl, hb1⟩
  have HB1 := Lib.hid hb1
  clear hb1
  go_wp2_with fail
  go_loop [7, 8] (fun _ i => i = .int .i64 0) (fun _ _ => 0)
  case atStart => rfl
  case round =>
    subst hrel
    go_wp2_with fail
    go_loop [6, 9, 10] (fun m _ i => m = .slice none 0 0 ∧ i = .int .i64 0) (fun _ _ _ => 0)
    case atStart => exact ⟨rfl, rfl⟩
    case round =>
      obtain ⟨rfl, rfl⟩ := hrel
      go_wp2
      go_ret
      exact ⟨rfl, HB1.out⟩

/-- A world that differs by draws alone. -/
def Drawn (w wr : World) : Prop := ∃ n, wr = w.drewN n
theorem Drawn.refl (w : World) : Drawn w w := ⟨0, rfl⟩
theorem Drawn.drewN {w wr : World} (h : Drawn w wr) (m : Nat) : Drawn w (wr.drewN m) := by
  obtain ⟨n, rfl⟩ := h
  exact ⟨n + m, by rw [World.drewN_drewN]⟩
theorem Drawn.cell {w wr : World} (h : Drawn w wr) (a : Addr) : wr.cell? a = w.cell? a := by
  obtain ⟨n, rfl⟩ := h
  rfl
theorem below_drewN {B : Nat} {a w : World} (h : Below B a w) (n : Nat) : Below B a (w.drewN n) := ⟨h.os, h.tape, h.output, h.size, h.block⟩
theorem Drawn.below {w wr : World} (h : Drawn w wr) {B : Nat} {w0 : World} (hb : Below B w0 w) : Below B w0 wr := by
  obtain ⟨n, rfl⟩ := h
  exact below_drewN hb n

set_option maxHeartbeats 1000000 in
theorem rsame_nil (a b : Option Addr) (ca cb : Nat) (w : World) : Calls Tryd.prog 10 #[.slice a 0 ca, .slice b 0 cb] w fun e w' => e = .returned (.bool true) ∧ Drawn w w' := by
  go_enter Tryd.func10, Tryd.ntmps10
  go_wp2
  go_loopw [5] (fun i wr => i = .int .i64 0 ∧ Hid (Drawn w wr)) (fun _ _ => 0)
  case atStart => exact ⟨rfl, Drawn.refl w⟩
  case round =>
    obtain ⟨rfl, HD⟩ := hrel
    go_wp2
    go_ret
    exact ⟨rfl, HD.out⟩

set_option maxRecDepth 100000 in
set_option maxHeartbeats 2000000 in
theorem rsame_yes (ts : List Tok) (g h n ca cb : Nat) (w : World) (hn : ts.length = n) (hca : n ≤ ca) (hcm : ca ≤ maxLen)
    (hg : ∀ j u, (ts.flatMap kCells)[j]? = some u → w.cell? ⟨g, j, none⟩ = some u) (hh : ∀ j u, (ts.flatMap kCells)[j]? = some u → w.cell? ⟨h, j, none⟩ = some u) :
    Calls Tryd.prog 10 #[.slice (some ⟨g, 0, none⟩) n ca, .slice (some ⟨h, 0, none⟩) n cb] w fun e w' => e = .returned (.bool true) ∧ Drawn w w' := by
  unfold maxLen at hcm
  have HN := Lib.hid hn
  have HG := Lib.hid hg
  have HH := Lib.hid hh
  clear hn hg hh
  go_enter Tryd.func10, Tryd.ntmps10
  go_wp2_with fail
  go_loopw [5] (fun i wr => ∃ q : Nat, q ≤ n ∧ i = .int .i64 q ∧ Hid (Drawn w wr)) (fun i _ => n - (RowKit.intOf i).toNat)
  case atStart => exact ⟨0, Nat.zero_le _, rfl, Drawn.refl w⟩
  case round =>
    obtain ⟨q, hq, rfl, HD⟩ := hrel
    by_cases hqn : q < n
    · obtain ⟨u, hu⟩ : ∃ u, ts[q]? = some u := by
        have hql : q < ts.length := by rw [HN.out]; exact hqn
        exact ⟨ts[q], List.getElem?_eq_getElem hql⟩
      obtain ⟨x0, x1, x2⟩ := kCells_at ts q u hu
      have m0 := (HD.out.cell ⟨g, q * 3, none⟩).trans (HG.out _ _ x0)
      have m1 := (HD.out.cell ⟨g, q * 3 + 1, none⟩).trans (HG.out _ _ x1)
      have m2 := (HD.out.cell ⟨g, q * 3 + 2, none⟩).trans (HG.out _ _ x2)
      have n0 := (HD.out.cell ⟨h, q * 3, none⟩).trans (HH.out _ _ x0)
      have n1 := (HD.out.cell ⟨h, q * 3 + 1, none⟩).trans (HH.out _ _ x1)
      have n2 := (HD.out.cell ⟨h, q * 3 + 2, none⟩).trans (HH.out _ _ x2)
      have t1 : (0 : Int) ≤ q := by omega
      have t2 : (q : Int) < n := by omega
      obtain ⟨ua, ub, uc⟩ := u
      dsimp only at m0 m1 m2 n0 n1 n2
      clear hu x0 x1 x2
      go_wp2_with fail
      go_quiet (fail)
      clear m0 m1 m2 n0 n1 n2
      have HD2 := Lib.hid (HD.out.drewN nq)
      clear HD
      go_wp2_with fail
      go_roundw
      case rel => exact ⟨q + 1, by omega, by go_num, HD2.out⟩
      case measure => simp [RowKit.intOf]; omega
    · go_wp2_with fail
      go_ret
      exact ⟨rfl, HD.out⟩

/-- Two lists of tokens of the call's own that read alike. -/
theorem rsame_own {w : World} {B B' n : Nat} {v v' : Value} {ts : List Tok} (hn : ts.length = n) (h : w.ownsRow B 34 3 v n (ts.flatMap kCells)) (h' : w.ownsRow B' 34 3 v' n (ts.flatMap kCells)) :
    Calls Tryd.prog 10 #[v, v'] w fun e w' => e = .returned (.bool true) ∧ Drawn w w' := by
  by_cases h0 : 0 < n
  · obtain ⟨g, ca, rfl, _, _, hc1, hc2, hcells⟩ := own_open h h0
    obtain ⟨g', cb, rfl, _, _, _, _, hcells'⟩ := own_open h' h0
    exact rsame_yes ts g g' n ca cb w hn hc1 hc2 hcells hcells'
  · obtain rfl : n = 0 := by omega
    rcases h.2 with ⟨rfl, _⟩ | ⟨g, cap, cur, rfl, _⟩ <;> rcases h'.2 with ⟨rfl, _⟩ | ⟨g', cap', cur', rfl, _⟩
    all_goals exact rsame_nil _ _ _ _ w
end Go.Proofs.YtmebboadadlahaaDoor
