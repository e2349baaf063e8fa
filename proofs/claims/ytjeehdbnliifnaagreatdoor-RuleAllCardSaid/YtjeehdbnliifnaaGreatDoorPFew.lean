/- Stage 10's law RuleAll: few by contract. -/
import Derived.Test.YtjeehdbnliifnaaGreatDoorQLaws
import Derived.Test.YtjeehdbnliifnaaGreatDoorNRefSame
namespace Go.Proofs.YtjeehdbnliifnaaGreatDoor
open Go Go.RowKit Go.Lib

/-- What few says of a rule. -/
def Few (r : Ru) : Prop := r.cond.length ≤ 12 ∧ (∀ it ∈ r.cond, it.set.length ≤ 40) ∧ r.strip.size + r.add.size < 200
/-- What few answers. -/
def FewE (e : Ending) (r : Ru) : Prop := ∃ b, e = .returned (.bool b) ∧ (b = true → Few r)
theorem Few.fewR {r : Ru} (h : Few r) : FewR r := ⟨h.1, fun it hit => by have := h.2.1 it hit; omega, by have := h.2.2; omega, by have := h.2.2; omega⟩

set_option maxRecDepth 100000 in
set_option maxHeartbeats 4000000 in
theorem rfew_any (w : World) (v : Value) (r : Ru) (h : RuAt w v r) (hs : r.strip.size ≤ 1000000000000000) (ha : r.add.size ≤ 1000000000000000) :
    Calls Tryz.prog 4 #[v] w fun e w' => FewE e r ∧ Below w.heap.size w w' := by
  obtain ⟨A, cap, rfl, hi⟩ := h
  have hba := (Below.refl w.heap.size w).alloc (Nat.le_refl _) (.cells #[.bool r.pre, .int .i64 r.flag, .bool r.cross, .string r.strip, .string r.add, .slice A r.cond.length cap] /-t-/24)
  obtain ⟨A', cap', e, hA⟩ := items_open hi
  injection e with e1 e2 e3
  subst e1
  subst e3
  obtain ⟨pre, flag, cross, strip, add, cond⟩ := r
  dsimp only at hs ha hA hba ⊢
  obtain ⟨n, hn⟩ : ∃ n, n = cond.length := ⟨_, rfl⟩
  rw [← hn] at hba ⊢
  have HA := Lib.hid hA
  have HN := Lib.hid hn
  have HB := Lib.hid hba
  have hes : IntKind.i64.wrap ((strip.size : Int) + add.size) = (strip.size : Int) + add.size := IntWalk.i64_in _ (by omega)
  clear hi hA hn hba
  go_enter Tryz.func4, Tryz.ntmps4
  go_wp2_with fail
  go_loopg [3] 13 (fun g i wr => ∃ k : Nat, k + g = 13 ∧ i = .int .i64 k ∧ k ≤ n ∧ wr = w.alloc (.cells #[.bool pre, .int .i64 flag, .bool cross, .string strip, .string add, .slice A n cap] /-t-/24) ∧ Hid (k ≤ 12 ∧ ∀ j, j < k → ∀ it, cond[j]? = some it → it.set.length ≤ 40))
  case atStart => exact ⟨0, by omega, rfl, Nat.zero_le _, rfl, Lib.hid ⟨by omega, fun j hj => absurd hj (Nat.not_lt_zero _)⟩⟩
  case round =>
    obtain ⟨k, hk, rfl, hkn, rfl, HP⟩ := hrel
    have hk0 : (0 : Int) ≤ k := by omega
    have hcs : (k < n ∧ k < 12) ∨ (¬ k < n) ∨ (k < n ∧ ¬ k < 12) := by omega
    rcases hcs with ⟨h1, h2⟩ | h1 | ⟨h1, h2⟩
    · have d1 : (k : Int) < n := by omega
      have d2 : (k : Int) < 12 := by omega
      obtain ⟨it, hit⟩ : ∃ it, cond[k]? = some it := ⟨_, List.getElem?_eq_getElem (by have := HN.out; omega)⟩
      obtain ⟨b, off, rfl, hb, hcap, m0, m1, sv, m2, hsv⟩ := HA.out k it hit
      obtain ⟨B, bc, rfl, -⟩ := ints_open hsv
      have hnc : n ≤ cap := by have := HN.out; omega
      have m2' := (HB.out.cell (p := ⟨b, off + k * 3 + 2, none⟩) hb).trans m2
      obtain ⟨m, hm⟩ : ∃ m, m = it.set.length := ⟨_, rfl⟩
      rw [← hm] at m2'
      have HM := Lib.hid (And.intro hit hm)
      clear hit m0 m1 m2 hsv hm h1 h2 hcap
      by_cases h40 : 40 < m
      · have d3 : (40 : Int) < m := by omega
        clear h40
        go_wp2_with fail
        go_ret
        exact ⟨⟨_, rfl, fun e => (by cases e)⟩, HB.out⟩
      · have d3 : ¬ (40 : Int) < m := by omega
        have HP2 := Lib.hid (show k + 1 ≤ 12 ∧ ∀ j, j < k + 1 → ∀ it, cond[j]? = some it → it.set.length ≤ 40 from ⟨by omega, fun j hj it' hj' => by
          rcases Nat.lt_or_ge j k with hjk | hjk
          · exact HP.out.2 j hjk it' hj'
          · obtain rfl : j = k := by omega
            rw [HM.out.1] at hj'
            rw [← Option.some.inj hj', ← HM.out.2]
            omega⟩)
        clear h40
        go_wp2_with fail
        go_roundg (gk - 1)
        case measure => omega
        case rel => exact ⟨k + 1, by omega, by go_num, by omega, rfl, HP2⟩
    · have d1 : ¬ (k : Int) < n := by omega
      have hkn' : k = n := by omega
      have HP3 := Lib.hid (show n ≤ 12 ∧ ∀ it ∈ cond, it.set.length ≤ 40 from ⟨by have := HP.out.1; omega, fun it hit => by
        obtain ⟨j, hj, hje⟩ := List.getElem_of_mem hit
        exact HP.out.2 j (by have := HN.out; omega) it (by rw [List.getElem?_eq_getElem hj, hje])⟩)
      have hle : (n : Int) ≤ 12 := by have := HP3.out.1; omega
      clear h1 hkn'
      go_wp2_with fail
      go_ret
      refine ⟨⟨_, rfl, fun e => ⟨by have := HN.out; have := HP3.out.1; dsimp only; omega, HP3.out.2, ?_⟩⟩, HB.out⟩
      have h3 : decide ((strip.size : Int) + add.size < 200) = true := e
      have := of_decide_eq_true h3
      dsimp only
      omega
    · have d1 : (k : Int) < n := by omega
      have d2 : ¬ (k : Int) < 12 := by omega
      have d3 : ¬ (n : Int) ≤ 12 := by omega
      clear h1 h2
      go_wp2_with fail
      go_ret
      exact ⟨⟨_, rfl, fun e => (by cases e)⟩, HB.out⟩
end Go.Proofs.YtjeehdbnliifnaaGreatDoor
