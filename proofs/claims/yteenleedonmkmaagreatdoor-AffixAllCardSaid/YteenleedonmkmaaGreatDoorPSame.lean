/- The document's Same of chapter 10 by contract, of whatever rules. -/
import Derived.Test.YteenleedonmkmaaGreatDoorQLaws
import Derived.Test.YteenleedonmkmaaGreatDoorNRefSame
namespace Go.Proofs.YteenleedonmkmaaGreatDoor
open Go Go.RowKit Go.Lib

theorem ba_beqS (a b : ByteArray) : (a.toList == b.toList) = decide (a = b) := by
  rw [Bool.eq_iff_iff, beq_iff_eq, decide_eq_true_eq, ByteArray.toList_eq, ByteArray.toList_eq]
  constructor
  · intro h
    cases a; cases b
    simp only [ByteArray.mk.injEq]
    exact Array.toList_inj.1 h
  · intro h; rw [h]

set_option maxRecDepth 100000 in
set_option maxHeartbeats 4000000 in
theorem rsame10_any (w : World) (v v' : Value) (r r' : Ru) (h : RuAt w v r) (h' : RuAt w v' r') (hl : r.cond.length ≤ 100000) (hl' : r'.cond.length ≤ 100000) (hs : ∀ it ∈ r.cond, it.set.length ≤ 100000) (hs' : ∀ it ∈ r'.cond, it.set.length ≤ 100000) :
    Calls Tryz.prog 17 #[v, v'] w fun e w' => e = .returned (.bool (decide (r = r'))) ∧ Below w.heap.size w w' := by
  obtain ⟨A, cap, rfl, h1⟩ := h
  obtain ⟨A', cap', rfl, h1'⟩ := h'
  obtain ⟨pre, flag, cross, strip, add, cond⟩ := r
  obtain ⟨pre', flag', cross', strip', add', cond'⟩ := r'
  dsimp only at h1 h1' hl hl' hs hs' ⊢
  obtain ⟨n, hn⟩ : ∃ n, n = cond.length := ⟨_, rfl⟩
  obtain ⟨n', hn'⟩ : ∃ n, n = cond'.length := ⟨_, rfl⟩
  rw [← hn] at h1 hl ⊢
  rw [← hn'] at h1' hl' ⊢
  have hb2 : Below w.heap.size w ((w.alloc (.cells #[.bool pre, .int .i64 flag, .bool cross, .string strip, .string add, .slice A n cap] /-t-/36)).alloc (.cells #[.bool pre', .int .i64 flag', .bool cross', .string strip', .string add', .slice A' n' cap'] /-t-/36)) :=
    ((Below.refl _ _).alloc (Nat.le_refl _) _).alloc (by rw [World.size_alloc]; omega) _
  have C := Lib.hid (rsame9_any _ _ _ cond cond' (h1.keep hb2) (h1'.keep hb2) (by omega) (by omega) hs hs')
  have HB := Lib.hid hb2
  have s1 := ba_beqS strip strip'
  have s2 := ba_beqS add add'
  clear h1 h1' hb2 hs hs' hn hn'
  have hne : ∀ b : Bool, (pre = pre' → flag = flag' → cross = cross' → strip = strip' → add = add' → decide (cond = cond') = b) → (¬ (pre = pre' ∧ flag = flag' ∧ cross = cross' ∧ strip = strip' ∧ add = add') → b = false) → decide ((⟨pre, flag, cross, strip, add, cond⟩ : Ru) = ⟨pre', flag', cross', strip', add', cond'⟩) = b := by
    intro b h1 h2
    by_cases hall : pre = pre' ∧ flag = flag' ∧ cross = cross' ∧ strip = strip' ∧ add = add'
    · obtain ⟨rfl, rfl, rfl, rfl, rfl⟩ := hall
      rw [← h1 rfl rfl rfl rfl rfl, Bool.eq_iff_iff]
      simp
    · rw [h2 hall]
      exact decide_eq_false fun e => hall (by injection e with a b c d e f; exact ⟨a, b, c, d, e⟩)
  by_cases ha : pre = pre'
  case neg =>
    rw [hne false (fun e => absurd e ha) (fun _ => rfl)]
    have d : (pre == pre') = false := by simpa using ha
    clear hne ha C
    go_enter Tryz.func17, Tryz.ntmps17
    go_wp2_with fail
    go_ret
    exact ⟨rfl, HB.out⟩
  have da : (pre == pre') = true := by simpa using ha
  by_cases hf : flag = flag'
  case neg =>
    rw [hne false (fun _ e => absurd e hf) (fun _ => rfl)]
    have d : (flag == flag') = false := by simpa using hf
    clear hne ha hf C
    go_enter Tryz.func17, Tryz.ntmps17
    go_wp2_with fail
    go_ret
    exact ⟨rfl, HB.out⟩
  have df : (flag == flag') = true := by simpa using hf
  by_cases hc : cross = cross'
  case neg =>
    rw [hne false (fun _ _ e => absurd e hc) (fun _ => rfl)]
    have d : (cross == cross') = false := by simpa using hc
    clear hne ha hf hc C
    go_enter Tryz.func17, Tryz.ntmps17
    go_wp2_with fail
    go_ret
    exact ⟨rfl, HB.out⟩
  have dc : (cross == cross') = true := by simpa using hc
  by_cases ht : strip = strip'
  case neg =>
    rw [hne false (fun _ _ _ e => absurd e ht) (fun _ => rfl)]
    have d : (strip.toList == strip'.toList) = false := by rw [s1]; exact decide_eq_false ht
    clear hne ha hf hc ht C s1
    go_enter Tryz.func17, Tryz.ntmps17
    go_wp2_with fail
    go_ret
    exact ⟨rfl, HB.out⟩
  have dt : (strip.toList == strip'.toList) = true := by rw [s1]; exact decide_eq_true ht
  by_cases hd : add = add'
  case neg =>
    rw [hne false (fun _ _ _ _ e => absurd e hd) (fun _ => rfl)]
    have d : (add.toList == add'.toList) = false := by rw [s2]; exact decide_eq_false hd
    clear hne ha hf hc ht hd C s1 s2
    go_enter Tryz.func17, Tryz.ntmps17
    go_wp2_with fail
    go_ret
    exact ⟨rfl, HB.out⟩
  have dd : (add.toList == add'.toList) = true := by rw [s2]; exact decide_eq_true hd
  rw [hne (decide (cond = cond')) (fun _ _ _ _ _ => rfl) (fun e => absurd ⟨ha, hf, hc, ht, hd⟩ e)]
  clear hne ha hf hc ht hd s1 s2
  go_enter Tryz.func17, Tryz.ntmps17
  go_wp2_with (go_at_call 37; refine C.out.mono ?_)
  rintro e w1 ⟨rfl, hb1⟩
  have HF := Lib.hid (HB.out.trans (hb1.mono HB.out.size))
  clear hb1
  go_wp2_with fail
  go_ret
  exact ⟨rfl, HF.out⟩
end Go.Proofs.YteenleedonmkmaaGreatDoor
