/- SameStrings by contract. -/
import Derived.Test.YtkabdieenijnlaaIPut
import Derived.Deep.QuietTactic
import Derived.BigQuiet
namespace Go.Proofs.Ytkabdieenijnlaa
open Go Go.RowKit Go.Lib

def SameE (e : Ending) (l m : List ByteArray) : Prop := e = .returned (.bool (decide (l = m)))
set_option maxRecDepth 100000 in
set_option maxHeartbeats 4000000 in
theorem sames_any (w : World) (v v' : Value) (l m : List ByteArray) (h : StrsAt w v l) (h' : StrsAt w v' m) :
    Calls Try.prog 16 #[v, v'] w fun e w' => SameE e l m ∧ Below w.heap.size w w' := by
  have hb1 := strs_bd h
  have hb2 := strs_bd h'
  obtain ⟨A, cap, rfl⟩ := strs_form h
  obtain ⟨B, cap', rfl⟩ := strs_form h'
  obtain ⟨n, hn⟩ : ∃ n, n = l.length := ⟨_, rfl⟩
  obtain ⟨k', hk'⟩ : ∃ k, k = m.length := ⟨_, rfl⟩
  rw [← hn] at h hb1 ⊢
  rw [← hk'] at h' hb2 ⊢
  have HA := Lib.hid (strs_open h)
  have HB := Lib.hid (strs_open h')
  have HN := Lib.hid (And.intro hn hk')
  clear h h' hn hk'
  by_cases hne : n = k'
  · subst hne
    go_enter Try.func16, Try.ntmps16
    go_wp2_with fail
    go_loopg [5] n (fun g i wr => ∃ k : Nat, k + g = n ∧ i = .int .i64 k ∧ Hid (Below w.heap.size w wr ∧ l.take k = m.take k))
    case atStart => exact ⟨0, by omega, rfl, Lib.hid ⟨Below.refl _ _, by simp⟩⟩
    case round =>
      obtain ⟨k, hk, rfl, HP⟩ := hrel
      by_cases hlt : k < n
      · have d1 : (k : Int) < n := by omega
        obtain ⟨x, hx⟩ : ∃ x, l[k]? = some x := ⟨_, List.getElem?_eq_getElem (by have := HN.out.1; omega)⟩
        obtain ⟨y, hy⟩ : ∃ y, m[k]? = some y := ⟨_, List.getElem?_eq_getElem (by have := HN.out.2; omega)⟩
        obtain ⟨b, off, rfl, hb, hnc, cx⟩ := HA.out k x hx
        obtain ⟨b', off', rfl, hb', hnc', cy⟩ := HB.out k y hy
        have x0 := (HP.out.1.cell (p := ⟨b, off + k, none⟩) hb).trans cx
        have y0 := (HP.out.1.cell (p := ⟨b', off' + k, none⟩) hb').trans cy
        have HXY := Lib.hid (And.intro hx hy)
        clear hx hy cx cy
        go_upto_region 6 with fail
        go_quiet (fail)
        have HBN := Lib.hid (show Below w.heap.size w (wr.drewN nq) from HP.out.1.trans ⟨rfl, rfl, rfl, Nat.le_refl _, fun _ _ => rfl⟩)
        clear x0 y0
        rw [eq_eq]
        by_cases he : x = y
        · rw [decide_eq_true he]
          subst he
          have HT := Lib.hid (show l.take (k + 1) = m.take (k + 1) by rw [List.take_add_one, List.take_add_one, HP.out.2, HXY.out.1, HXY.out.2])
          go_wp2_with fail
          go_roundg (gk - 1)
          case measure => omega
          case rel => exact ⟨k + 1, by omega, by go_num, Lib.hid ⟨HBN.out, HT.out⟩⟩
        · rw [decide_eq_false he]
          have HF := Lib.hid (show ¬ (l = m) from fun e => he (by have h1 := HXY.out.1; rw [e, HXY.out.2] at h1; exact (Option.some.inj h1).symm))
          go_wp2_with fail
          go_ret
          exact ⟨by unfold SameE; rw [decide_eq_false HF.out]; rfl, HBN.out⟩
      · have d1 : ¬ (k : Int) < n := by omega
        have HF := Lib.hid (show l = m by
          have h1 := HP.out.2
          rwa [List.take_of_length_le (by have := HN.out.1; omega), List.take_of_length_le (by have := HN.out.2; omega)] at h1)
        clear hlt
        go_wp2_with fail
        go_ret
        exact ⟨by unfold SameE; rw [decide_eq_true HF.out]; rfl, HP.out.1⟩
  · have hne' : ¬ ((n : Int) = k') := by omega
    have HF := Lib.hid (show ¬ (l = m) from fun e => hne (by rw [HN.out.1, HN.out.2, e]))
    clear hne
    go_enter Try.func16, Try.ntmps16
    go_wp2_with fail
    go_ret
    exact ⟨by unfold SameE; rw [decide_eq_false HF.out]; rfl, Below.refl _ _⟩
end Go.Proofs.Ytkabdieenijnlaa
