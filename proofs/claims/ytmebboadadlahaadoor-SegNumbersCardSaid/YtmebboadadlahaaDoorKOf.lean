/- class.Of by its contract. -/
import Derived.Test.YtmebboadadlahaaDoorKCheck
import Derived.WalkMore
namespace Go.Proofs.YtmebboadadlahaaDoor.Cls
open Go Go.RowKit

set_option maxHeartbeats 1000000 in
theorem of_bad (A : Option Addr) (cap n : Nat) (rs : List R3) (c : Int) (w : World) (h : Tbl w (.slice A n cap) rs) (ho : okT rs = false) :
    Calls Tryd.prog 30 #[.slice A n cap, .int .i64 c] w fun e w' => e = .returned (.int .i64 0) ∧ Below w.heap.size w w' := by
  have C := check_any _ rs w h
  rw [ho] at C
  have CH := Lib.hid C
  clear C ho h
  go_enter Tryd.func30, Tryd.ntmps30
  go_wp2
  go_step3
  go_wp2_with (go_at_call 34; refine (CH.out).mono ?_; rintro e w1 ⟨rfl, hb1⟩)
  rw [Exit.noGoto_ret]
  go_ret
  exact ⟨rfl, hb1⟩

set_option maxHeartbeats 1000000 in
theorem of_none (A : Option Addr) (cap : Nat) (c : Int) (w : World) : Calls Tryd.prog 30 #[.slice A 0 cap, .int .i64 c] w fun e w' => e = .returned (.int .i64 0) ∧ Below w.heap.size w w' := by
  have CH := Lib.hid (check_none A cap w)
  go_enter Tryd.func30, Tryd.ntmps30
  go_wp2
  go_step3
  go_wp2_with (go_at_call 34; refine (CH.out).mono ?_; rintro e w1 ⟨rfl, hb1⟩)
  go_step3
  go_wp2
  go_loop [5, 6, 7] (fun y a z => y = .int .i64 0 ∧ a = .int .i64 0 ∧ z = .int .i64 0) (fun _ _ _ => 0)
  case atStart => exact ⟨rfl, rfl, rfl⟩
  case round =>
    obtain ⟨rfl, rfl, rfl⟩ := hrel
    go_wp2
    try rw [Exit.noGoto_ret]
    go_ret
    exact ⟨rfl, hb1⟩

set_option maxHeartbeats 1000000 in
theorem of_good (b off cap n : Nat) (rs : List R3) (c : Int) (w : World) (hn : rs.length = n) (hlt : b < w.heap.size) (h1 : n ≤ cap) (h2 : cap ≤ maxLen)
    (hc : ∀ (i : Nat) (r : R3), rs[i]? = some r → w.cell? ⟨b, off + i * 3, none⟩ = some (.int .i64 r.1) ∧ w.cell? ⟨b, off + i * 3 + 1, none⟩ = some (.int .i64 r.2.1) ∧ w.cell? ⟨b, off + i * 3 + 2, none⟩ = some (.int .i64 r.2.2)) (ho : okT rs = true) :
    Calls Tryd.prog 30 #[.slice (some ⟨b, off, none⟩) n cap, .int .i64 c] w fun e w' => e = .returned (.int .i64 (find rs c)) ∧ Below w.heap.size w w' := by
  have C := check_some b off cap n rs w hn hlt h1 h2 hc
  rw [ho] at C
  have hch := okT_chain ho
  have hn100 : n ≤ 100 := by
    rw [okT, Bool.and_eq_true] at ho
    have := of_decide_eq_true ho.1
    omega
  have CH := Lib.hid C
  have HC := Lib.hid hc
  have HN := Lib.hid hn
  have HCH := Lib.hid hch
  clear C ho hc hn hch h2
  go_enter Tryd.func30, Tryd.ntmps30
  go_wp2
  go_step3
  go_wp2_with (go_at_call 34; refine (CH.out).mono ?_; rintro e w1 ⟨rfl, hb1⟩)
  go_step3
  go_wp2
  have HB1 := Lib.hid hb1
  clear hb1
  go_loopw [5, 6, 7] (fun y a z wr => ∃ (lo hi : Nat), y = .int .i64 0 ∧ lo ≤ hi ∧ hi ≤ n ∧ a = .int .i64 lo ∧ z = .int .i64 hi ∧ Hid ((∀ (i : Nat) (r : R3), i < lo → rs[i]? = some r → r.2.1 < c) ∧ (∀ (i : Nat) (r : R3), hi ≤ i → rs[i]? = some r → c < r.1)) ∧ Hid (Below w.heap.size w wr)) (fun _ a z _ => (RowKit.intOf z).toNat - (RowKit.intOf a).toNat)
  case atStart => exact ⟨0, n, rfl, Nat.zero_le _, Nat.le_refl _, rfl, rfl, ⟨fun i r h => absurd h (Nat.not_lt_zero i), fun i r h hr => by
    have := (List.getElem?_eq_some_iff.1 hr).1
    rw [HN.out] at this; omega⟩, HB1.out⟩
  case round =>
    obtain ⟨lo, hi, rfl, hlh, hhn, rfl, rfl, HX, HB⟩ := hrel
    by_cases hm : lo < hi
    · obtain ⟨m, hmm⟩ : ∃ m : Nat, m = (lo + hi) / 2 := ⟨_, rfl⟩
      have hm1 : lo ≤ m := by omega
      have hm2 : m < hi := by omega
      obtain ⟨r, hr⟩ : ∃ r, rs[m]? = some r := ⟨_, List.getElem?_eq_getElem (by rw [HN.out]; omega)⟩
      obtain ⟨c0, c1, c2⟩ := HC.out m r hr
      have m0 := (HB.out.cell (p := ⟨b, off + m * 3, none⟩) hlt).trans c0
      have m1 := (HB.out.cell (p := ⟨b, off + m * 3 + 1, none⟩) hlt).trans c1
      have m2 := (HB.out.cell (p := ⟨b, off + m * 3 + 2, none⟩) hlt).trans c2
      have hq : ((lo : Int) + (hi : Int)) / 2 = (m : Int) := by omega
      obtain ⟨f, t, k⟩ := r
      dsimp only at m0 m1 m2
      have HR := Lib.hid hr
      clear c0 c1 c2 hr hmm
      go_wp2
      · go_round
        case rel => exact ⟨lo, m, rfl, hm1, by omega, rfl, by rw [hq], ⟨HX.out.1, halves_high HCH.out HR.out (by assumption) HX.out.2⟩, HB.out.alloc HB.out.size _⟩
        case measure => simp [RowKit.intOf]; omega
      · go_roundw
        case rel => exact ⟨m + 1, hi, rfl, hm2, hhn, by go_num, rfl, ⟨halves_low HCH.out HR.out (by assumption), HX.out.2⟩, HB.out.alloc HB.out.size _⟩
        case measure => simp [RowKit.intOf]; omega
      · have hst := Lib.hid (find_hit HCH.out HR.out (by assumption) (by assumption))
        rw [Exit.noGoto_ret]
        go_ret
        exact ⟨ret_int hst.out.symm, HB.out.alloc HB.out.size _⟩
    · have hst := Lib.hid (halves_none (by omega) HX.out.1 HX.out.2)
      go_wp2
      try rw [Exit.noGoto_ret]
      go_ret
      exact ⟨ret_int hst.out.symm, HB.out⟩

/-- class.Of of a slice that reads as a table. -/
theorem of_any (v : Value) (rs : List R3) (c : Int) (w : World) (h : Tbl w v rs) : Calls Tryd.prog 30 #[v, .int .i64 c] w fun e w' => e = .returned (.int .i64 (ofT rs c)) ∧ Below w.heap.size w w' := by
  by_cases ho : okT rs = true
  · rw [ofT_yes ho]
    rcases h with ⟨⟨A, cap, rfl⟩, rfl⟩ | ⟨b, off, cap, rfl, hlt, h1, h2, hc⟩
    · exact of_none A cap c w
    · exact of_good b off cap _ rs c w rfl hlt h1 h2 hc ho
  · rw [ofT_no (by simpa using ho)]
    rcases h with ⟨_, rfl⟩ | ⟨b, off, cap, rfl, hlt, h1, h2, hc⟩
    · exact absurd okT_nil ho
    · exact of_bad _ cap _ rs c w (.inr ⟨b, off, cap, rfl, hlt, h1, h2, hc⟩) (by simpa using ho)
end Go.Proofs.YtmebboadadlahaaDoor.Cls
