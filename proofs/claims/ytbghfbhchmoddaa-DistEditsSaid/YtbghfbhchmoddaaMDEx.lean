/- exchanged by contract. -/
import Derived.Test.YtbghfbhchmoddaaMDRow
namespace Go.Proofs.Ytbghfbhchmoddaa
open Go Go.RowKit Go.Lib

/-- The last two codes of the one are those of the other, the other way round. -/
def exL (a b : List Int) (i k : Nat) : Bool := decide (1 < i ∧ 1 < k ∧ a[i - 1]? = b[k - 2]? ∧ a[i - 2]? = b[k - 1]?)
theorem w64 (i : Nat) (c : Nat) (j : Nat) (hj : j + c = i) (hi : i ≤ 1000000) : IntKind.i64.wrap ((i : Int) - c) = (j : Int) := by
  rw [IntWalk.i64_in _ (by omega)]; omega
set_option maxRecDepth 100000 in
set_option maxHeartbeats 4000000 in
theorem ex_any (w : World) (p : Nat) (va vb : Value) (B m : Nat) (la lb : List Int) (i k : Nat) (T : Tab w p va vb B m) (ha : IntsAt w va la) (hb : IntsAt w vb lb) (hi : i ≤ la.length) (hk : k ≤ lb.length) (na : la.length ≤ 1000) (nb : lb.length ≤ 1000) :
    Calls Try.prog 17 #[.pointer (some ⟨p, 0, none⟩), .int .i64 i, .int .i64 k] w fun e w' => e = .returned (.bool (exL la lb i k)) ∧ ∃ n, w' = w.drewN n := by
  obtain ⟨c0, c1, -, -⟩ := T.cells
  by_cases h1 : 1 < i
  · by_cases h2 : 1 < k
    · obtain ⟨b, off, cap, rfl, hlt, hcap, hc⟩ := ints_pos ha (by omega)
      obtain ⟨b', off', cap', rfl, hlt', hcap', hc'⟩ := ints_pos hb (by omega)
      obtain ⟨x1, hx1⟩ : ∃ x, la[i - 1]? = some x := ⟨_, List.getElem?_eq_getElem (by omega)⟩
      obtain ⟨x2, hx2⟩ : ∃ x, la[i - 2]? = some x := ⟨_, List.getElem?_eq_getElem (by omega)⟩
      obtain ⟨y1, hy1⟩ : ∃ x, lb[k - 1]? = some x := ⟨_, List.getElem?_eq_getElem (by omega)⟩
      obtain ⟨y2, hy2⟩ : ∃ x, lb[k - 2]? = some x := ⟨_, List.getElem?_eq_getElem (by omega)⟩
      have HE := Lib.hid (show exL la lb i k = (decide (x1 = y2) && decide (x2 = y1)) by
        unfold exL
        rw [hx1, hx2, hy1, hy2]
        by_cases e1 : x1 = y2 <;> by_cases e2 : x2 = y1 <;> simp [h1, h2, e1, e2])
      have u1 := hc _ _ hx1
      have u2 := hc _ _ hx2
      have v1 := hc' _ _ hy1
      have v2 := hc' _ _ hy2
      obtain ⟨i1, hi1⟩ : ∃ j, j = i - 1 := ⟨_, rfl⟩
      obtain ⟨i2, hi2⟩ : ∃ j, j = i - 2 := ⟨_, rfl⟩
      obtain ⟨k1, hk1⟩ : ∃ j, j = k - 1 := ⟨_, rfl⟩
      obtain ⟨k2, hk2⟩ : ∃ j, j = k - 2 := ⟨_, rfl⟩
      rw [← hi1] at u1
      rw [← hi2] at u2
      rw [← hk1] at v1
      rw [← hk2] at v2
      have wi1 : IntKind.i64.wrap ((i : Int) - 1) = (i1 : Int) := w64 i 1 i1 (by omega) (by omega)
      have wi2 : IntKind.i64.wrap ((i : Int) - 2) = (i2 : Int) := w64 i 2 i2 (by omega) (by omega)
      have wk1 : IntKind.i64.wrap ((k : Int) - 1) = (k1 : Int) := w64 k 1 k1 (by omega) (by omega)
      have wk2 : IntKind.i64.wrap ((k : Int) - 2) = (k2 : Int) := w64 k 2 k2 (by omega) (by omega)
      obtain ⟨la', hla⟩ : ∃ j, j = la.length := ⟨_, rfl⟩
      obtain ⟨lb', hlb⟩ : ∃ j, j = lb.length := ⟨_, rfl⟩
      rw [← hla] at hcap c0
      rw [← hlb] at hcap' c1
      have j1 : i1 < la' := by omega
      have j2 : i2 < la' := by omega
      have j3 : k1 < lb' := by omega
      have j4 : k2 < lb' := by omega
      have g1 : decide ((1 : Int) < i) = true := decide_eq_true (by omega)
      have g2 : decide ((1 : Int) < k) = true := decide_eq_true (by omega)
      rw [HE.out]
      clear hx1 hx2 hy1 hy2 hc hc' hi1 hi2 hk1 hk2 hla hlb HE h1 h2 hi hk na nb T ha hb
      by_cases e1 : x1 = y2
      · have d1 : decide (x1 = y2) = true := decide_eq_true e1
        have d1' : (x1 == y2) = true := by simpa using e1
        rw [d1]
        clear e1
        go_enter Try.func17, Try.ntmps17
        go_wp2_with fail
        go_quiet (fail)
        go_wp2_with fail
        go_ret
        exact ⟨rfl, _, rfl⟩
      · have d1 : decide (x1 = y2) = false := decide_eq_false e1
        have d1' : (x1 == y2) = false := by simpa using e1
        rw [d1]
        clear e1
        go_enter Try.func17, Try.ntmps17
        go_wp2_with fail
        go_quiet (fail)
        go_wp2_with fail
        go_ret
        exact ⟨rfl, _, rfl⟩
    · have g1 : decide ((1 : Int) < i) = true := decide_eq_true (by omega)
      have g2 : decide ((1 : Int) < k) = false := decide_eq_false (by omega)
      rw [show exL la lb i k = false by unfold exL; simp [h2]]
      clear h1 h2 hi hk na nb T ha hb c0 c1
      go_enter Try.func17, Try.ntmps17
      go_wp2_with fail
      go_quiet (fail)
      go_wp2_with fail
      go_ret
      exact ⟨rfl, _, rfl⟩
  · have g1 : decide ((1 : Int) < i) = false := decide_eq_false (by omega)
    rw [show exL la lb i k = false by unfold exL; simp [h1]]
    clear h1 hi hk na nb T ha hb c0 c1
    go_enter Try.func17, Try.ntmps17
    go_wp2_with fail
    go_quiet (fail)
    go_wp2_with fail
    go_ret
    exact ⟨rfl, _, rfl⟩
end Go.Proofs.Ytbghfbhchmoddaa
