/- Edits, plain; the document's own answers of chapter 7 by contract. -/
import Derived.Test.YtfdnlbeancdajaaCFlat
import Derived.Laws.DeepStrings4
import Derived.BigRegion
import Derived.Laws.Rows
import Derived.Deep.RegionHeld3
namespace Go.Proofs.Ytfdnlbeancdajaa
open Go Go.RowKit

/-! ### Edits, plain -/
def EdV (k : Int) (d i : ByteArray) : Value := .agg #[.int .i64 k, .string d, .string i]
def fitsE (s : ByteArray) (k : Int) (d : ByteArray) : Prop := 0 ≤ k ∧ k ≤ s.size ∧ (d.size : Int) ≤ s.size - k ∧ s.extract k.toNat (k.toNat + d.size) = d
instance (s : ByteArray) (k : Int) (d : ByteArray) : Decidable (fitsE s k d) := inferInstanceAs (Decidable (_ ∧ _))
def putT (s : ByteArray) (k n : Nat) (i : ByteArray) : ByteArray := s.extract 0 k ++ i ++ s.extract (k + n) s.size
def appS (s : ByteArray) (k : Int) (d i : ByteArray) : ByteArray := if fitsE s k d then putT s k.toNat d.size i else ⟨#[]⟩
theorem putT_size (s i : ByteArray) (k n : Nat) (h : k + n ≤ s.size) : (putT s k n i).size = s.size - n + i.size := by
  simp only [putT, ByteArray.size_append, ByteArray.size_extract]; omega

theorem ret_bool {a b : Bool} (h : a = b) : Ending.returned (.bool a) = .returned (.bool b) := by rw [h]
theorem Try.info23 : (Try.prog.info? 23).map (·.size) = some 3 := by kernel_rfl

set_option maxRecDepth 100000 in
set_option maxHeartbeats 1000000 in
theorem ref_inverse (w : World) (k : Int) (d i : ByteArray) : Calls Try.prog 12 #[EdV k d i] w fun e w' => e = .returned (EdV k i d) ∧ Below w.heap.size w w' := by
  have h2 : ((w.alloc (.cells #[.int .i64 k, .string d, .string i] /-t-/23)).alloc (.cells #[.int .i64 k, .string i, .string d] /-t-/23)).heap[w.heap.size + 1]? = some (.cells #[.int .i64 k, .string i, .string d] /-t-/23 (0, 0)) := by
    have := World.alloc_heap_new (w.alloc (.cells #[.int .i64 k, .string d, .string i] /-t-/23)) (.cells #[.int .i64 k, .string i, .string d] /-t-/23)
    rwa [World.size_alloc] at this
  have hb : Below w.heap.size w ((w.alloc (.cells #[.int .i64 k, .string d, .string i] /-t-/23)).alloc (.cells #[.int .i64 k, .string i, .string d] /-t-/23)) := (((Below.refl _ _).alloc (Nat.le_refl _) _).alloc (by rw [World.size_alloc]; omega) _)
  have H2 := Lib.hid (And.intro h2 hb)
  clear h2 hb
  show Calls _ _ #[.agg #[.int .i64 k, .string d, .string i]] _ _
  go_enter Try.func12, Try.ntmps12
  go_wp2_with fail
  refine bodyPost_ret (results_cell_row rfl _ _ (w.heap.size + 1) 23 _ (0, 0) _ rfl H2.out.1 Try.underlying23 rfl Try.info23) rfl ?_
  exact ⟨rfl, H2.out.2⟩

theorem list_eq (a b : ByteArray) : (a.toList == b.toList) = decide (a = b) := by
  rw [ByteArray.toList_eq, ByteArray.toList_eq]
  by_cases h : a = b
  · subst h; simp
  · have h2 : ¬ a.data.toList = b.data.toList := fun e => h (ByteArray.ext (Array.ext' e))
    rw [decide_eq_false h]
    exact beq_eq_false_iff_ne.2 h2

set_option maxRecDepth 100000 in
set_option maxHeartbeats 1000000 in
theorem ref_same (w : World) (k k' : Int) (d d' i i' : ByteArray) : Calls Try.prog 10 #[EdV k d i, EdV k' d' i'] w fun e w' => e = .returned (.bool (decide (k = k' ∧ d = d' ∧ i = i'))) ∧ Below w.heap.size w w' := by
  have hb : Below w.heap.size w ((w.alloc (.cells #[.int .i64 k, .string d, .string i] /-t-/23)).alloc (.cells #[.int .i64 k', .string d', .string i'] /-t-/23)) := (((Below.refl _ _).alloc (Nat.le_refl _) _).alloc (by rw [World.size_alloc]; omega) _)
  have H2 := Lib.hid hb
  have e1 := list_eq d d'
  have e2 := list_eq i i'
  obtain ⟨v, hv⟩ : ∃ v, v = decide (k = k' ∧ d = d' ∧ i = i') := ⟨_, rfl⟩
  rw [← hv]
  show Calls _ _ #[.agg #[.int .i64 k, .string d, .string i], .agg #[.int .i64 k', .string d', .string i']] _ _
  clear hb
  obtain h1 | h1 := Classical.em (k = k')
  · subst h1
    by_cases h2 : d = d'
    · by_cases h3 : i = i'
      · have HV := Lib.hid (show v = true by rw [hv]; exact decide_eq_true ⟨rfl, h2, h3⟩)
        rw [decide_eq_true h2] at e1
        rw [decide_eq_true h3] at e2
        clear hv h2 h3
        go_enter Try.func10, Try.ntmps10
        go_wp2_with fail
        go_ret
        exact ⟨ret_bool HV.out.symm, H2.out⟩
      · have HV := Lib.hid (show v = false by rw [hv]; exact decide_eq_false (fun h => h3 h.2.2))
        rw [decide_eq_true h2] at e1
        rw [decide_eq_false h3] at e2
        clear hv h2 h3
        go_enter Try.func10, Try.ntmps10
        go_wp2_with fail
        go_ret
        exact ⟨ret_bool HV.out.symm, H2.out⟩
    · have HV := Lib.hid (show v = false by rw [hv]; exact decide_eq_false (fun h => h2 h.2.1))
      rw [decide_eq_false h2] at e1
      clear hv h2 e2
      go_enter Try.func10, Try.ntmps10
      go_wp2_with fail
      go_ret
      exact ⟨ret_bool HV.out.symm, H2.out⟩
  · have HV := Lib.hid (show v = false by rw [hv]; exact decide_eq_false (fun h => h1 h.1))
    clear hv e1 e2
    go_enter Try.func10, Try.ntmps10
    go_wp2_with fail
    go_ret
    exact ⟨ret_bool HV.out.symm, H2.out⟩

set_option maxRecDepth 100000 in
set_option maxHeartbeats 2000000 in
theorem ref_apply (w : World) (s d i : ByteArray) (k : Int) (hs : s.size ≤ 100000) (hd : d.size ≤ 100000) (hi : i.size ≤ 100000) : Calls Try.prog 9 #[.string s, EdV k d i] w fun e w' => e = .returned (.tuple #[.string (appS s k d i), .bool (decide (fitsE s k d))]) ∧ Below w.heap.size w w' := by
  have hb : Below w.heap.size w (w.alloc (.cells #[.int .i64 k, .string d, .string i] /-t-/23)) := (Below.refl _ _).alloc (Nat.le_refl _) _
  have o0 : (w.alloc (.cells #[.int .i64 k, .string d, .string i] /-t-/23)).cell? ⟨w.heap.size, 0, none⟩ = some (.int .i64 k) := by simp
  have o1 : (w.alloc (.cells #[.int .i64 k, .string d, .string i] /-t-/23)).cell? ⟨w.heap.size, 1, none⟩ = some (.string d) := by simp
  have o2 : (w.alloc (.cells #[.int .i64 k, .string d, .string i] /-t-/23)).cell? ⟨w.heap.size, 2, none⟩ = some (.string i) := by simp
  have s3 : (s.size : Int) ≤ 100000 := by omega
  have d3 : (d.size : Int) ≤ 100000 := by omega
  have d4 : (0 : Int) ≤ d.size := by omega
  show Calls _ _ #[.string s, .agg #[.int .i64 k, .string d, .string i]] _ _
  by_cases h0 : k < 0
  · have hn : ¬ fitsE s k d := fun h => by have := h.1; omega
    rw [appS, if_neg hn, decide_eq_false hn]
    have t1 : decide (k < 0) = true := by simp; omega
    have HB := Lib.hid hb
    clear hn hs hd hi hb
    go_enter Try.func9, Try.ntmps9
    go_wp2_with fail
    generalize w.alloc (.cells #[.int .i64 k, .string d, .string i] /-t-/23) = w3 at o0 o1 o2 HB ⊢
    go_quiet (fail)
    go_wp2_with fail
    go_ret2
    exact ⟨rfl, below_drewN HB.out nq⟩
  have t1 : decide (k < 0) = false := by simp; omega
  by_cases h1 : (s.size : Int) < k
  · have hn : ¬ fitsE s k d := fun h => by have := h.2.1; omega
    rw [appS, if_neg hn, decide_eq_false hn]
    have t2 : decide ((s.size : Int) < k) = true := by simp; omega
    have HB := Lib.hid hb
    clear hn hs hd hi hb
    go_enter Try.func9, Try.ntmps9
    go_wp2_with fail
    generalize w.alloc (.cells #[.int .i64 k, .string d, .string i] /-t-/23) = w3 at o0 o1 o2 HB ⊢
    go_quiet (fail)
    go_wp2_with fail
    go_ret2
    exact ⟨rfl, below_drewN HB.out nq⟩
  have t2 : decide ((s.size : Int) < k) = false := by simp; omega
  by_cases h2 : (s.size : Int) - k < d.size
  · have hn : ¬ fitsE s k d := fun h => by have := h.2.2.1; omega
    rw [appS, if_neg hn, decide_eq_false hn]
    have t3 : decide ((s.size : Int) - k < d.size) = true := by simp; omega
    have HB := Lib.hid hb
    clear hn hs hd hi hb
    go_enter Try.func9, Try.ntmps9
    go_wp2_with fail
    generalize w.alloc (.cells #[.int .i64 k, .string d, .string i] /-t-/23) = w3 at o0 o1 o2 HB ⊢
    go_quiet (fail)
    go_wp2_with fail
    go_ret2
    exact ⟨rfl, below_drewN HB.out nq⟩
  have t3 : decide ((s.size : Int) - k < d.size) = false := by simp; omega
  obtain ⟨q, rfl⟩ : ∃ q : Nat, k = q := ⟨k.toNat, by omega⟩
  have hw : IntKind.i64.wrap ((q : Int) + d.size) = (q : Int) + d.size := IntWalk.i64_in _ (by omega)
  have t4 : decide (s.size < q) = false := by simp; omega
  have g1 : (q : Int) ≤ (q : Int) + d.size := by omega
  have g4 : (0 : Int) ≤ (q : Int) + d.size := by omega
  have g5 : (q : Int) ≤ s.size := by omega
  have g2 : (q : Int) + d.size ≤ s.size := by omega
  have g0 : (0 : Int) ≤ q := by omega
  have g3 : ((q : Int) + d.size).toNat = q + d.size := by omega
  have he := list_eq (s.extract q (q + d.size)) d
  by_cases h3 : s.extract q (q + d.size) = d
  · have hy : fitsE s q d := ⟨by omega, by omega, by omega, h3⟩
    rw [appS, if_pos hy, decide_eq_true hy, putT, Int.toNat_natCast]
    rw [decide_eq_true h3] at he
    have HB := Lib.hid hb
    have hN1 : ¬ 9223372036854775807 < min q s.size + i.size := by omega
    have hN2 : ¬ 9223372036854775807 < min q s.size + i.size + (s.size - (q + d.size)) := by omega
    clear hy hs hd hi hb h3 h2 h1 h0
    go_enter Try.func9, Try.ntmps9
    go_wp2_with fail
    generalize w.alloc (.cells #[.int .i64 q, .string d, .string i] /-t-/23) = w3 at o0 o1 o2 HB ⊢
    go_quiet (fail)
    go_wp2_with fail
    have p0 : (w3.drewN nq).cell? ⟨w.heap.size, 0, none⟩ = some (.int .i64 q) := o0
    have p1 : (w3.drewN nq).cell? ⟨w.heap.size, 1, none⟩ = some (.string d) := o1
    have p2 : (w3.drewN nq).cell? ⟨w.heap.size, 2, none⟩ = some (.string i) := o2
    have HB4 := Lib.hid (below_drewN HB.out nq)
    generalize w3.drewN nq = w4 at p0 p1 p2 HB4 ⊢
    clear o0 o1 o2 HB nq w3
    go_quiet (fail)
    go_wp2_with fail
    go_ret2
    exact ⟨rfl, below_drewN HB4.out nq⟩
  · have hn : ¬ fitsE s q d := fun h => h3 h.2.2.2
    rw [appS, if_neg hn, decide_eq_false hn]
    rw [decide_eq_false h3] at he
    have HB := Lib.hid hb
    clear hn hs hd hi hb h3 h2 h1 h0
    go_enter Try.func9, Try.ntmps9
    go_wp2_with fail
    generalize w.alloc (.cells #[.int .i64 q, .string d, .string i] /-t-/23) = w3 at o0 o1 o2 HB ⊢
    go_quiet (fail)
    go_wp2_with fail
    go_ret2
    exact ⟨rfl, below_drewN HB.out nq⟩
end Go.Proofs.Ytfdnlbeancdajaa
