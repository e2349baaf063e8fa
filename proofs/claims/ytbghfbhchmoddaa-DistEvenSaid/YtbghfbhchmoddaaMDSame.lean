/- SameInts by contract. -/
import Derived.Test.YtbghfbhchmoddaaMDBase
import Derived.Deep.DeepCutAuto
namespace Go.Proofs.Ytbghfbhchmoddaa
open Go Go.RowKit Go.Lib

set_option maxRecDepth 100000 in
set_option maxHeartbeats 4000000 in
theorem same_any (w : World) (v v' : Value) (l m : List Int) (h : IntsAt w v l) (h' : IntsAt w v' m) (nl : l.length ≤ 1000000) (nm : m.length ≤ 1000000) :
    Calls Try.prog 11 #[v, v'] w fun e w' => e = .returned (.bool (decide (l = m))) ∧ Below w.heap.size w w' := by
  obtain ⟨A, cap, rfl⟩ := ints_form h
  obtain ⟨B, cap', rfl⟩ := ints_form h'
  obtain ⟨n, hn⟩ : ∃ n, n = l.length := ⟨_, rfl⟩
  obtain ⟨k', hk'⟩ : ∃ k, k = m.length := ⟨_, rfl⟩
  have HA := Lib.hid (show ∀ (k : Nat) x, l[k]? = some x → ∃ b off, A = some ⟨b, off, none⟩ ∧ b < w.heap.size ∧ n ≤ cap ∧ w.cell? ⟨b, off + k, none⟩ = some (.int .i64 x) from fun k x hx => by
    obtain ⟨A1, c1, e, h1⟩ := ints_open h
    injection e with e1 e2 e3
    subst e1 e3
    obtain ⟨q, o, e4, h2, h3, h4⟩ := h1 k x hx
    exact ⟨q, o, e4, h2, hn ▸ h3, h4⟩)
  have HB := Lib.hid (show ∀ (k : Nat) x, m[k]? = some x → ∃ b off, B = some ⟨b, off, none⟩ ∧ b < w.heap.size ∧ k' ≤ cap' ∧ w.cell? ⟨b, off + k, none⟩ = some (.int .i64 x) from fun k x hx => by
    obtain ⟨A1, c1, e, h1⟩ := ints_open h'
    injection e with e1 e2 e3
    subst e1 e3
    obtain ⟨q, o, e4, h2, h3, h4⟩ := h1 k x hx
    exact ⟨q, o, e4, h2, hk' ▸ h3, h4⟩)
  rw [← hn] at nl ⊢
  rw [← hk'] at nm ⊢
  have HN := Lib.hid (And.intro hn hk')
  clear h h' hn hk'
  by_cases hne : n = k'
  · subst hne
    go_enter Try.func11, Try.ntmps11
    go_wp2_with fail
    go_loopg [5] n (fun g i wr => ∃ k : Nat, k + g = n ∧ i = .int .i64 k ∧ Hid (Below w.heap.size w wr ∧ l.take k = m.take k))
    case atStart => exact ⟨0, by omega, rfl, Lib.hid ⟨Below.refl _ _, by simp⟩⟩
    case round =>
      obtain ⟨k, hk, rfl, HP⟩ := hrel
      by_cases hlt : k < n
      · have d1 : (k : Int) < n := by omega
        obtain ⟨x, hx⟩ : ∃ x, l[k]? = some x := ⟨_, List.getElem?_eq_getElem (by have := HN.out.1; omega)⟩
        obtain ⟨y, hy⟩ : ∃ y, m[k]? = some y := ⟨_, List.getElem?_eq_getElem (by have := HN.out.2; omega)⟩
        obtain ⟨b, off, rfl, hb, hnc, cx⟩ := HA.out k x hx
        obtain ⟨b', off', rfl, hb', hnc', cy⟩ := HB.out k y hy
        have x0 := (HP.out.1.cell (p := ⟨b, off + k, none⟩) hb).trans cx
        have y0 := (HP.out.1.cell (p := ⟨b', off' + k, none⟩) hb').trans cy
        have wk1 : IntKind.i64.wrap ((k : Int) + 1) = ((k + 1 : Nat) : Int) := by rw [IntWalk.i64_in _ (by omega)]; omega
        have HXY := Lib.hid (And.intro hx hy)
        clear hx hy cx cy
        go_upto_region 6 with fail
        go_quiet (fail)
        have HBN := Lib.hid (show Below w.heap.size w (wr.drewN nq) from HP.out.1.trans ⟨rfl, rfl, rfl, Nat.le_refl _, fun _ _ => rfl⟩)
        clear x0 y0
        by_cases he : x = y
        · subst he
          have HT := Lib.hid (show l.take (k + 1) = m.take (k + 1) by rw [List.take_add_one, List.take_add_one, HP.out.2, HXY.out.1, HXY.out.2])
          go_wp2_with fail
          go_roundg (gk - 1)
          case measure => omega
          case rel => exact ⟨k + 1, by omega, by go_num, Lib.hid ⟨HBN.out, HT.out⟩⟩
        · have HF := Lib.hid (show ¬ (l = m) from fun e => he (by have h1 := HXY.out.1; rw [e, HXY.out.2] at h1; exact (Option.some.inj h1).symm))
          go_wp2_with fail
          go_ret
          exact ⟨by rw [decide_eq_false HF.out]; rfl, HBN.out⟩
      · have d1 : ¬ (k : Int) < n := by omega
        have HF := Lib.hid (show l = m by
          have h1 := HP.out.2
          rwa [List.take_of_length_le (by have := HN.out.1; omega), List.take_of_length_le (by have := HN.out.2; omega)] at h1)
        clear hlt
        go_wp2_with fail
        go_ret
        exact ⟨by rw [decide_eq_true HF.out]; rfl, HP.out.1⟩
  · have hne' : ¬ ((n : Int) = k') := by omega
    have HF := Lib.hid (show ¬ (l = m) from fun e => hne (by rw [HN.out.1, HN.out.2, e]))
    clear hne
    go_enter Try.func11, Try.ntmps11
    go_wp2_with fail
    go_ret
    exact ⟨by rw [decide_eq_false HF.out]; rfl, Below.refl _ _⟩
end Go.Proofs.Ytbghfbhchmoddaa
