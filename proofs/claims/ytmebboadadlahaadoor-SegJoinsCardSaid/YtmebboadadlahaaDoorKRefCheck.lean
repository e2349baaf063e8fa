/- The document's own Check by its contract. -/
import Derived.Test.YtmebboadadlahaaDoorKCheck
namespace Go.Proofs.YtmebboadadlahaaDoor.Cls
open Go Go.RowKit

theorem below_drewN {B : Nat} {a w : World} (h : Below B a w) (n : Nat) : Below B a (w.drewN n) := ⟨h.os, h.tape, h.output, h.size, h.block⟩

/-- What is ahead of place k: -1 at the first, else the To of the one before. -/
def Ahead (rs : List R3) (k : Nat) (a : Int) : Prop := -1 ≤ a ∧ (k = 0 → a = -1) ∧ (0 < k → ∃ r, rs[k - 1]? = some r ∧ a = r.2.1)

set_option maxRecDepth 100000 in
set_option maxHeartbeats 4000000 in
theorem rcheck_some (b off cap n : Nat) (rs : List R3) (w : World) (hn : rs.length = n) (hlt : b < w.heap.size) (_h1 : n ≤ cap) (_h2 : cap ≤ maxLen)
    (hc : ∀ (i : Nat) (r : R3), rs[i]? = some r → w.cell? ⟨b, off + i * 3, none⟩ = some (.int .i64 r.1) ∧ w.cell? ⟨b, off + i * 3 + 1, none⟩ = some (.int .i64 r.2.1) ∧ w.cell? ⟨b, off + i * 3 + 2, none⟩ = some (.int .i64 r.2.2)) :
    Calls Tryd.prog 23 #[.slice (some ⟨b, off, none⟩) n cap] w fun e w' => e = .returned (.bool (okT rs)) ∧ Below w.heap.size w w' := by
  unfold maxLen at _h2
  have HN := Lib.hid hn
  have HC := Lib.hid hc
  clear hn hc
  go_enter Tryd.func23, Tryd.ntmps23
  go_wp2
  go_loopw [3] (fun i wr => ∃ (k : Nat) (x : Int), k ≤ n ∧ i = .int .i64 k ∧ Hid (chain (-1) rs = chain x (rs.drop k) ∧ Ahead rs k x) ∧ Hid (Below w.heap.size w wr)) (fun i _ => n - (RowKit.intOf i).toNat)
  case atStart => exact ⟨0, -1, Nat.zero_le _, rfl, ⟨by rw [List.drop_zero], by omega, fun _ => rfl, fun h => absurd h (by omega)⟩, Below.refl _ _⟩
  case round =>
    obtain ⟨k, x, hk, rfl, HX, HB⟩ := hrel
    by_cases hkn : k < n
    · obtain ⟨r, hr⟩ : ∃ r, rs[k]? = some r := ⟨_, List.getElem?_eq_getElem (by rw [HN.out]; exact hkn)⟩
      obtain ⟨c0, c1, c2⟩ := HC.out k r hr
      have m0 := (HB.out.cell (p := ⟨b, off + k * 3, none⟩) hlt).trans c0
      have m1 := (HB.out.cell (p := ⟨b, off + k * 3 + 1, none⟩) hlt).trans c1
      have m2 := (HB.out.cell (p := ⟨b, off + k * 3 + 2, none⟩) hlt).trans c2
      obtain ⟨f, t, c⟩ := r
      dsimp only at m0 m1 m2
      have HR := Lib.hid hr
      clear c0 c1 c2 hr
      have hx1 := HX.out.2.1
      have tk1 : (0 : Int) ≤ k := by omega
      have tk2 : (k : Int) < n := by omega
      go_wp2_with fail
      have o0 : (wr.alloc (.cells #[.int .i64 f, .int .i64 t, .int .i64 c] 54)).cell? ⟨wr.heap.size, 0, none⟩ = some (.int .i64 f) := by simp
      have o1 : (wr.alloc (.cells #[.int .i64 f, .int .i64 t, .int .i64 c] 54)).cell? ⟨wr.heap.size, 1, none⟩ = some (.int .i64 t) := by simp
      have o2 : (wr.alloc (.cells #[.int .i64 f, .int .i64 t, .int .i64 c] 54)).cell? ⟨wr.heap.size, 2, none⟩ = some (.int .i64 c) := by simp
      have hW3 := HB.out.alloc HB.out.size (.cells #[.int .i64 f, .int .i64 t, .int .i64 c] 54)
      generalize wr.alloc (.cells #[.int .i64 f, .int .i64 t, .int .i64 c] 54) = w3 at o0 o1 o2 hW3 ⊢
      have HW3 := Lib.hid hW3
      clear hW3 HB m0 m1 m2
      by_cases a1 : f < 0
      · have hst := Lib.hid (chain_stop HR.out HX.out.1 ((okR_not _ _).2 (by dsimp only; omega)))
        have d1 : decide (f < 0) = true := by simp; omega
        go_quiet (fail)
        go_wp2
        go_ret
        exact ⟨ret_bool hst.out.symm, below_drewN HW3.out nq⟩
      have d1 : decide (f < 0) = false := by simp; omega
      by_cases a2 : t < f
      · have hst := Lib.hid (chain_stop HR.out HX.out.1 ((okR_not _ _).2 (by dsimp only; omega)))
        have d2 : decide (t < f) = true := by simp; omega
        go_quiet (fail)
        go_wp2
        go_ret
        exact ⟨ret_bool hst.out.symm, below_drewN HW3.out nq⟩
      have d2 : decide (t < f) = false := by simp; omega
      by_cases a3 : 1114111 < t
      · have hst := Lib.hid (chain_stop HR.out HX.out.1 ((okR_not _ _).2 (by dsimp only; omega)))
        have d3 : decide (1114111 < t) = true := by simp; omega
        go_quiet (fail)
        go_wp2
        go_ret
        exact ⟨ret_bool hst.out.symm, below_drewN HW3.out nq⟩
      have d3 : decide (1114111 < t) = false := by simp; omega
      by_cases a4 : c < 1
      · have hst := Lib.hid (chain_stop HR.out HX.out.1 ((okR_not _ _).2 (by dsimp only; omega)))
        have d4 : decide (c < 1) = true := by simp; omega
        go_quiet (fail)
        go_wp2
        go_ret
        exact ⟨ret_bool hst.out.symm, below_drewN HW3.out nq⟩
      have d4 : decide (c < 1) = false := by simp; omega
      by_cases a5 : 3 < c
      · have hst := Lib.hid (chain_stop HR.out HX.out.1 ((okR_not _ _).2 (by dsimp only; omega)))
        have d5 : decide (3 < c) = true := by simp; omega
        go_quiet (fail)
        go_wp2
        go_ret
        exact ⟨ret_bool hst.out.symm, below_drewN HW3.out nq⟩
      have d5 : decide (3 < c) = false := by simp; omega
      by_cases a6 : k = 0
      · have hst := Lib.hid (chain_step HR.out HX.out.1 ((okR_iff _ _).2 (by have := HX.out.2.2.1 a6; dsimp only; omega)))
        have HA : Hid (Ahead rs (k + 1) t) := ⟨by omega, fun h => absurd h (by omega), fun _ => ⟨_, HR.out, rfl⟩⟩
        have d6 : decide (0 < (k : Int)) = false := by simp; omega
        have d7 : decide (0 < k) = false := by simp; omega
        have d8 : (0 < k) = False := by simp; omega
        clear a6
        go_quiet (fail)
        go_wp2
        have HD := Lib.hid (below_drewN HW3.out nq)
        go_roundw
        case rel => exact ⟨k + 1, t, by omega, by go_num, ⟨hst.out, HA.out⟩, HD.out⟩
        case measure => simp [RowKit.intOf]; omega
      obtain ⟨q, hq, hqx⟩ := HX.out.2.2.2 (by omega)
      obtain ⟨f', t', c'⟩ := q
      have hw : w3.cell? ⟨b, off + (k - 1) * 3 + 1, none⟩ = some (.int .i64 t') := (HW3.out.cell (p := ⟨b, off + (k - 1) * 3 + 1, none⟩) hlt).trans (HC.out _ _ hq).2.1
      dsimp only at hqx
      have HQ := Lib.hid hqx
      have d6 : decide (0 < (k : Int)) = true := by simp; omega
      have d7 : decide (0 < k) = true := by simp; omega
      have tk3 : (0 : Int) ≤ (k : Int) - 1 := by omega
      have tk4 : (k : Int) - 1 < n := by omega
      have tk5 : ((k : Int) - 1).toNat = k - 1 := by omega
      have tk6 : IntKind.i64.wrap ((k : Int) - 1) = (k : Int) - 1 := IntWalk.i64_in _ (by omega)
      clear hq hqx a6
      by_cases a7 : f ≤ t'
      · have hst := Lib.hid (chain_stop HR.out HX.out.1 ((okR_not _ _).2 (by rw [HQ.out]; dsimp only; omega)))
        have d8 : decide (f ≤ t') = true := by simp; omega
        go_quiet (fail)
        go_wp2
        go_ret
        exact ⟨ret_bool hst.out.symm, below_drewN HW3.out nq⟩
      · have hst := Lib.hid (chain_step HR.out HX.out.1 ((okR_iff _ _).2 (by rw [HQ.out]; dsimp only; omega)))
        have HA : Hid (Ahead rs (k + 1) t) := ⟨by omega, fun h => absurd h (by omega), fun _ => ⟨_, HR.out, rfl⟩⟩
        have d8 : decide (f ≤ t') = false := by simp; omega
        go_quiet (fail)
        go_wp2
        have HD := Lib.hid (below_drewN HW3.out nq)
        go_roundw
        case rel => exact ⟨k + 1, t, by omega, by go_num, ⟨hst.out, HA.out⟩, HD.out⟩
        case measure => simp [RowKit.intOf]; omega
    · by_cases h100 : n ≤ 100
      · have hst := Lib.hid (chain_end (by rw [HN.out]; omega) HX.out.1 true (by rw [HN.out]; simp; omega))
        go_wp2
        go_ret
        exact ⟨ret_bool (by rw [hst.out]; simp; omega), HB.out⟩
      · have hst := Lib.hid (chain_end (by rw [HN.out]; omega) HX.out.1 false (by rw [HN.out]; simp; omega))
        go_wp2
        go_ret
        exact ⟨ret_bool (by rw [hst.out]; simp; omega), HB.out⟩

set_option maxHeartbeats 1000000 in
theorem rcheck_none (A : Option Addr) (cap : Nat) (w : World) : Calls Tryd.prog 23 #[.slice A 0 cap] w fun e w' => e = .returned (.bool true) ∧ Below w.heap.size w w' := by
  go_enter Tryd.func23, Tryd.ntmps23
  go_wp2
  go_loop [3] (fun i => i = .int .i64 0) (fun _ => 0)
  case atStart => rfl
  case round =>
    subst hrel
    go_wp2
    go_ret
    exact ⟨rfl, Below.refl _ _⟩

/-- The document's Check of a slice that reads as a table. -/
theorem rcheck_any (v : Value) (rs : List R3) (w : World) (h : Tbl w v rs) : Calls Tryd.prog 23 #[v] w fun e w' => e = .returned (.bool (okT rs)) ∧ Below w.heap.size w w' := by
  rcases h with ⟨⟨A, cap, rfl⟩, rfl⟩ | ⟨b, off, cap, rfl, hlt, h1, h2, hc⟩
  · exact rcheck_none A cap w
  · exact rcheck_some b off cap _ rs w rfl hlt h1 h2 hc

set_option maxHeartbeats 1000000 in
theorem rof_bad (A : Option Addr) (cap n : Nat) (rs : List R3) (c : Int) (w : World) (h : Tbl w (.slice A n cap) rs) (ho : okT rs = false) :
    Calls Tryd.prog 16 #[.slice A n cap, .int .i64 c] w fun e w' => e = .returned (.int .i64 0) ∧ Below w.heap.size w w' := by
  have C := rcheck_any _ rs w h
  rw [ho] at C
  have CH := Lib.hid C
  clear C ho h
  go_enter Tryd.func16, Tryd.ntmps16
  go_wp2_with (go_at_call 23; refine (CH.out).mono ?_; rintro e w1 ⟨rfl, hb1⟩)
  go_ret
  exact ⟨rfl, hb1⟩

set_option maxHeartbeats 1000000 in
theorem rof_none (A : Option Addr) (cap : Nat) (c : Int) (w : World) : Calls Tryd.prog 16 #[.slice A 0 cap, .int .i64 c] w fun e w' => e = .returned (.int .i64 0) ∧ Below w.heap.size w w' := by
  have CH := Lib.hid (rcheck_none A cap w)
  go_enter Tryd.func16, Tryd.ntmps16
  go_wp2_with (go_at_call 23; refine (CH.out).mono ?_; rintro e w1 ⟨rfl, hb1⟩)
  go_loop [5] (fun a => a = .int .i64 0) (fun _ => 0)
  case atStart => rfl
  case round =>
    subst hrel
    go_wp2
    go_ret
    exact ⟨rfl, hb1⟩

set_option maxHeartbeats 1000000 in
theorem rof_good (b off cap n : Nat) (rs : List R3) (c : Int) (w : World) (hn : rs.length = n) (hlt : b < w.heap.size) (h1 : n ≤ cap) (h2 : cap ≤ maxLen)
    (hc : ∀ (i : Nat) (r : R3), rs[i]? = some r → w.cell? ⟨b, off + i * 3, none⟩ = some (.int .i64 r.1) ∧ w.cell? ⟨b, off + i * 3 + 1, none⟩ = some (.int .i64 r.2.1) ∧ w.cell? ⟨b, off + i * 3 + 2, none⟩ = some (.int .i64 r.2.2)) (ho : okT rs = true) :
    Calls Tryd.prog 16 #[.slice (some ⟨b, off, none⟩) n cap, .int .i64 c] w fun e w' => e = .returned (.int .i64 (find rs c)) ∧ Below w.heap.size w w' := by
  have C := rcheck_some b off cap n rs w hn hlt h1 h2 hc
  rw [ho] at C
  have hn100 : n ≤ 100 := by
    rw [okT, Bool.and_eq_true] at ho
    have := of_decide_eq_true ho.1
    omega
  have CH := Lib.hid C
  have HC := Lib.hid hc
  have HN := Lib.hid hn
  clear C ho hc hn h2
  go_enter Tryd.func16, Tryd.ntmps16
  go_wp2_with (go_at_call 23; refine (CH.out).mono ?_; rintro e w1 ⟨rfl, hb1⟩)
  have HB1 := Lib.hid hb1
  have hcell := fun (a : Nat) => hb1.cell (p := ⟨b, a, none⟩) hlt
  have HL := Lib.hid hcell
  clear hb1 hcell
  go_loop [5] (fun a => ∃ k : Nat, k ≤ n ∧ a = .int .i64 k ∧ Hid (∀ (j : Nat) (s : R3), j < k → rs[j]? = some s → ¬ (s.1 ≤ c ∧ c ≤ s.2.1))) (fun a => n - (RowKit.intOf a).toNat)
  case atStart => exact ⟨0, Nat.zero_le _, rfl, fun j s h => absurd h (Nat.not_lt_zero j)⟩
  case round =>
    obtain ⟨k, hk, rfl, HX⟩ := hrel
    by_cases hkn : k < n
    · obtain ⟨r, hr⟩ : ∃ r, rs[k]? = some r := ⟨_, List.getElem?_eq_getElem (by rw [HN.out]; omega)⟩
      obtain ⟨c0, c1, c2⟩ := HC.out k r hr
      have m0 := (HL.out (off + k * 3)).trans c0
      have m1 := (HL.out (off + k * 3 + 1)).trans c1
      have m2 := (HL.out (off + k * 3 + 2)).trans c2
      obtain ⟨f, t, q⟩ := r
      dsimp only at m0 m1 m2
      have HR := Lib.hid hr
      clear c0 c1 c2 hr
      by_cases hin : f ≤ c ∧ c ≤ t
      · obtain ⟨i1, i2⟩ := hin
        have hst := Lib.hid (find_first HX.out HR.out i1 i2)
        go_wp2
        go_ret
        exact ⟨ret_int hst.out.symm, HB1.out⟩
      · have HI := Lib.hid hin
        clear hin
        go_wp2
        all_goals first
          | (exfalso; have := HI.out; omega)
          | (go_round
             case rel => exact ⟨k + 1, by omega, by go_num, fun j s hj hs => by
               rcases Nat.eq_or_lt_of_le (Nat.le_of_lt_succ hj) with h | h
               · subst h; rw [HR.out] at hs; cases hs; exact HI.out
               · exact HX.out j s h hs⟩
             case measure => simp [RowKit.intOf]; omega)
    · have hst := Lib.hid (find_none (rs := rs) (c := c) fun i r hr => by
        have h3 := (List.getElem?_eq_some_iff.1 hr).1
        rw [HN.out] at h3
        have := HX.out i r (by omega) hr
        omega)
      go_wp2
      go_ret
      exact ⟨ret_int hst.out.symm, HB1.out⟩

/-- The document's Of of a slice that reads as a table. -/
theorem rof_any (v : Value) (rs : List R3) (c : Int) (w : World) (h : Tbl w v rs) : Calls Tryd.prog 16 #[v, .int .i64 c] w fun e w' => e = .returned (.int .i64 (ofT rs c)) ∧ Below w.heap.size w w' := by
  by_cases ho : okT rs = true
  · rw [ofT_yes ho]
    rcases h with ⟨⟨A, cap, rfl⟩, rfl⟩ | ⟨b, off, cap, rfl, hlt, h1, h2, hc⟩
    · exact rof_none A cap c w
    · exact rof_good b off cap _ rs c w rfl hlt h1 h2 hc ho
  · rw [ofT_no (by simpa using ho)]
    rcases h with ⟨_, rfl⟩ | ⟨b, off, cap, rfl, hlt, h1, h2, hc⟩
    · exact absurd okT_nil ho
    · exact rof_bad _ cap _ rs c w (.inr ⟨b, off, cap, rfl, hlt, h1, h2, hc⟩) (by simpa using ho)
end Go.Proofs.YtmebboadadlahaaDoor.Cls
