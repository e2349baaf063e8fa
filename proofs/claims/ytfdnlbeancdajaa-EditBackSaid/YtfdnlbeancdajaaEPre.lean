/- edit.Apply and edit.Inverse by contract: what EditApplies and EditKnown ask of them is met. -/
import Derived.Test.YtfdnlbeancdajaaELaws
import Derived.Test.YtfdnlbeancdajaaShelf
namespace Go.Proofs.Ytfdnlbeancdajaa
open Go Go.RowKit

theorem cut_yes (s p : ByteArray) (w : World) (h1 : p.size ≤ s.size) (h2 : s.extract 0 p.size = p) :
    Calls Try.prog 22 #[.string s, .string p] w fun e w' => e = .returned (.tuple #[.string (s.extract p.size s.size), .bool true]) ∧ w' = w := by
  have hl : ((s.extract 0 p.size).toList == p.toList) = true := by rw [list_eq, decide_eq_true h2]
  have h := Try.strings_CutPrefix s p w
  rw [Lib.trimPrefix_hit s p h1 hl, ← Lib.hasPrefix_raw, decide_eq_true h1, hl] at h
  exact h
theorem cut_no (s p : ByteArray) (w : World) (h : ¬ (p.size ≤ s.size ∧ s.extract 0 p.size = p)) :
    Calls Try.prog 22 #[.string s, .string p] w fun e w' => e = .returned (.tuple #[.string s, .bool false]) ∧ w' = w := by
  have hl : (decide (p.size ≤ s.size) && ((s.extract 0 p.size).toList == p.toList)) = false := by
    rw [list_eq]
    rw [← Bool.not_eq_true, Bool.and_eq_true, decide_eq_true_iff, decide_eq_true_iff]
    exact h
  have hc := Try.strings_CutPrefix s p w
  rw [Lib.trimPrefix_miss s p hl, ← Lib.hasPrefix_raw, hl] at hc
  exact hc

theorem tail_cut (s : ByteArray) (q z : Nat) (h : q + z ≤ s.size) : (s.extract q s.size).extract 0 z = s.extract q (q + z) ∧ (s.extract q s.size).extract z (s.extract q s.size).size = s.extract (q + z) s.size ∧ (s.extract q s.size).size = s.size - q := by
  have hz : (s.extract q s.size).size = s.size - q := by rw [ByteArray.size_extract]; omega
  refine ⟨?_, ?_, hz⟩
  · rw [ByteArray.extract_extract, Nat.add_zero, Nat.min_eq_left (by omega)]
  · rw [hz, ByteArray.extract_extract, Nat.min_eq_right (by omega)]

theorem edit_inverse (w : World) (k : Int) (d i : ByteArray) : Calls Try.prog 11 #[EdV k d i] w fun e w' => e = .returned (EdV k i d) ∧ Below w.heap.size w w' := by
  have h2 : ((w.alloc (.cells #[.int .i64 k, .string d, .string i] /-t-/23)).alloc (.cells #[.int .i64 k, .string i, .string d] /-t-/23)).heap[w.heap.size + 1]? = some (.cells #[.int .i64 k, .string i, .string d] /-t-/23 (0, 0)) := by
    have := World.alloc_heap_new (w.alloc (.cells #[.int .i64 k, .string d, .string i] /-t-/23)) (.cells #[.int .i64 k, .string i, .string d] /-t-/23)
    rwa [World.size_alloc] at this
  have hb : Below w.heap.size w ((w.alloc (.cells #[.int .i64 k, .string d, .string i] /-t-/23)).alloc (.cells #[.int .i64 k, .string i, .string d] /-t-/23)) := (((Below.refl _ _).alloc (Nat.le_refl _) _).alloc (by rw [World.size_alloc]; omega) _)
  have H2 := Lib.hid (And.intro h2 hb)
  clear h2 hb
  show Calls _ _ #[.agg #[.int .i64 k, .string d, .string i]] _ _
  go_enter Try.func11, Try.ntmps11
  go_wp2_with fail
  refine bodyPost_ret (results_cell_row rfl _ _ (w.heap.size + 1) 23 _ (0, 0) _ rfl H2.out.1 Try.underlying23 rfl Try.info23) rfl ?_
  exact ⟨rfl, H2.out.2⟩

set_option maxRecDepth 100000 in
set_option maxHeartbeats 2000000 in
theorem edit_apply (w : World) (s d i : ByteArray) (k : Int) (hs : s.size ≤ 100000) (hd : d.size ≤ 100000) (hi : i.size ≤ 100000) : Calls Try.prog 8 #[.string s, EdV k d i] w fun e w' => e = .returned (.tuple #[.string (appS s k d i), .bool (decide (fitsE s k d))]) ∧ Below w.heap.size w w' := by
  have hb : Below w.heap.size w (w.alloc (.cells #[.int .i64 k, .string d, .string i] /-t-/23)) := (Below.refl _ _).alloc (Nat.le_refl _) _
  have o0 : (w.alloc (.cells #[.int .i64 k, .string d, .string i] /-t-/23)).cell? ⟨w.heap.size, 0, none⟩ = some (.int .i64 k) := by simp
  have o1 : (w.alloc (.cells #[.int .i64 k, .string d, .string i] /-t-/23)).cell? ⟨w.heap.size, 1, none⟩ = some (.string d) := by simp
  have o2 : (w.alloc (.cells #[.int .i64 k, .string d, .string i] /-t-/23)).cell? ⟨w.heap.size, 2, none⟩ = some (.string i) := by simp
  have s3 : (s.size : Int) ≤ 100000 := by omega
  show Calls _ _ #[.string s, .agg #[.int .i64 k, .string d, .string i]] _ _
  by_cases h0 : k < 0
  · have hn : ¬ fitsE s k d := fun h => by have := h.1; omega
    rw [appS, if_neg hn, decide_eq_false hn]
    have t1 : decide (k < 0) = true := by simp; omega
    have HB := Lib.hid hb
    clear hn hs hd hi hb
    go_enter Try.func8, Try.ntmps8
    go_wp2_with fail
    go_ret2
    exact ⟨rfl, HB.out⟩
  have t1 : decide (k < 0) = false := by simp; omega
  by_cases h1 : (s.size : Int) < k
  · have hn : ¬ fitsE s k d := fun h => by have := h.2.1; omega
    rw [appS, if_neg hn, decide_eq_false hn]
    have t2 : decide ((s.size : Int) < k) = true := by simp; omega
    have HB := Lib.hid hb
    clear hn hs hd hi hb
    go_enter Try.func8, Try.ntmps8
    go_wp2_with fail
    go_ret2
    exact ⟨rfl, HB.out⟩
  have t2 : decide ((s.size : Int) < k) = false := by simp; omega
  obtain ⟨q, rfl⟩ : ∃ q : Nat, k = q := ⟨k.toNat, by omega⟩
  have hq : q ≤ s.size := by omega
  have q0 : (0 : Int) ≤ q := by omega
  have q1 : (q : Int) ≤ s.size := by omega
  have e3 : (s.extract q s.size).size = s.size - q := (tail_cut s q 0 hq).2.2
  by_cases h3 : fitsE s q d
  · have hz : q + d.size ≤ s.size := by have := h3.2.2.1; omega
    obtain ⟨c1, c2, c3⟩ := tail_cut s q d.size hz
    have hx : s.extract q (q + d.size) = d := h3.2.2.2
    have C := Lib.hid (fun wx => cut_yes (s.extract q s.size) d wx (by omega) (c1.trans hx))
    rw [c2] at C
    rw [appS, if_pos h3, decide_eq_true h3, putT, Int.toNat_natCast]
    have HB := Lib.hid hb
    have hN1 : ¬ 9223372036854775807 < min q s.size + i.size := by omega
    have hN2 : ¬ 9223372036854775807 < min q s.size + i.size + (s.size - (q + d.size)) := by omega
    clear hs hd hi hb h3 h1 h0 hz c1 c2 c3 hx e3 hq
    go_enter Try.func8, Try.ntmps8
    go_wp2_with fail
    generalize w.alloc (.cells #[.int .i64 q, .string d, .string i] /-t-/23) = w3 at o0 o1 o2 HB ⊢
    go_quiet ((go_at_call 22; refine (C.out _).mono ?_; rintro e wn ⟨rfl, rfl⟩; exact ⟨rfl, _, rfl⟩))
    go_wp2_with fail
    have p0 : (w3.drewN nq).cell? ⟨w.heap.size, 0, none⟩ = some (.int .i64 q) := o0
    have p1 : (w3.drewN nq).cell? ⟨w.heap.size, 1, none⟩ = some (.string d) := o1
    have p2 : (w3.drewN nq).cell? ⟨w.heap.size, 2, none⟩ = some (.string i) := o2
    have HB4 := Lib.hid (below_drewN HB.out nq)
    generalize w3.drewN nq = w4 at p0 p1 p2 HB4 ⊢
    clear o0 o1 o2 HB nq w3
    go_quiet (fail)
    go_wp2_with fail
    go_ret2
    exact ⟨rfl, below_drewN HB4.out nq⟩
  · have C := Lib.hid (fun wx => cut_no (s.extract q s.size) d wx (fun h => h3 ⟨by omega, by omega, by omega, by
      have hz : q + d.size ≤ s.size := by omega
      rw [Int.toNat_natCast, ← (tail_cut s q d.size hz).1]; exact h.2⟩))
    rw [appS, if_neg h3, decide_eq_false h3]
    have HB := Lib.hid hb
    clear hs hd hi hb h3 h1 h0 e3 hq
    go_enter Try.func8, Try.ntmps8
    go_wp2_with fail
    generalize w.alloc (.cells #[.int .i64 q, .string d, .string i] /-t-/23) = w3 at o0 o1 o2 HB ⊢
    go_quiet ((go_at_call 22; refine (C.out _).mono ?_; rintro e wn ⟨rfl, rfl⟩; exact ⟨rfl, _, rfl⟩))
    go_wp2_with fail
    go_ret2
    exact ⟨rfl, below_drewN HB.out nq⟩

theorem edit_says : SaysP := ⟨fun w s d i k hs hd hi _ _ => edit_apply w s d i k hs hd hi, edit_inverse⟩
end Go.Proofs.Ytfdnlbeancdajaa
