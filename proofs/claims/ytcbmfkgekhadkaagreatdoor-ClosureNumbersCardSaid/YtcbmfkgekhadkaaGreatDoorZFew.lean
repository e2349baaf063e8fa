/- Stage 13's laws: few by contract. -/
import Derived.Test.YtcbmfkgekhadkaaGreatDoorZTable
import Derived.Test.YtcbmfkgekhadkaaGreatDoorZGa
import Derived.Test.YtcbmfkgekhadkaaGreatDoorZGd
import Derived.Deep.QuietTactic
import Derived.BigQuiet
import Derived.IntWalk
import Derived.Deep.CutRange
import Derived.Deep.DeepCutAuto
namespace Go.Proofs.YtcbmfkgekhadkaaGreatDoor
open Go Go.RowKit Go.Lib

/-- What few says of rules. -/
def Few1 (r : Ru) : Prop := r.cond.length ≤ 12 ∧ (∀ it ∈ r.cond, it.set.length ≤ 40) ∧ r.strip.size + r.add.size ≤ 100
def Few13 (rs : List Ru) : Prop := rs.length ≤ 20 ∧ ∀ r ∈ rs, Few1 r

def FewE13 (e : Ending) (rs : List Ru) : Prop := ∃ b, e = .returned (.bool b) ∧ (b = true → Few13 rs)
set_option maxRecDepth 100000 in
set_option maxHeartbeats 8000000 in
theorem few13_any (w : World) (v : Value) (rs : List Ru) (h : RulesAt w v rs) (hz : ∀ r ∈ rs, r.strip.size ≤ 1000000000000000 ∧ r.add.size ≤ 1000000000000000) :
    Calls Tryz.prog 8 #[v] w fun e w' => FewE13 e rs ∧ Below w.heap.size w w' := by
  obtain ⟨SA, sc, rfl⟩ := rules_form h
  obtain ⟨n, hn⟩ : ∃ n, n = rs.length := ⟨_, rfl⟩
  rw [← hn] at h ⊢
  have HO := Lib.hid (rules_open h)
  have HN := Lib.hid (And.intro hn hz)
  have hnm : n ≤ 9223372036854775807 := by
    rcases h with ⟨e, _⟩ | ⟨b, off, cap, e, h1, h2, h3, h4⟩
    · rw [hn, e]; simp
    · unfold maxLen at h3; omega
  clear h hz hn
  go_enter Tryz.func8, Tryz.ntmps8
  go_wp2_with fail
  go_loopg [3] 21 (fun g i wr => ∃ k : Nat, k + g = 21 ∧ i = .int .i64 k ∧ k ≤ n ∧ k ≤ 20 ∧ Hid (Below w.heap.size w wr ∧ ∀ j, j < k → ∀ r, rs[j]? = some r → Few1 r))
  case atStart => exact ⟨0, by omega, rfl, Nat.zero_le _, by omega, Lib.hid ⟨Below.refl _ _, fun j hj => absurd hj (Nat.not_lt_zero _)⟩⟩
  case round =>
    obtain ⟨k, hk, rfl, hkn, hk20, HP⟩ := hrel
    have hcs : (k < n ∧ k < 20) ∨ (¬ k < n) ∨ (k < n ∧ ¬ k < 20) := by omega
    rcases hcs with ⟨h1, h2⟩ | h1 | ⟨h1, h2⟩
    · have d1 : (k : Int) < n := by omega
      have d2 : (k : Int) < 20 := by omega
      obtain ⟨r, hr⟩ : ∃ r, rs[k]? = some r := ⟨_, List.getElem?_eq_getElem (by have := HN.out.1; omega)⟩
      obtain ⟨b, off, rfl, hb, hnc, c0, c1, c2, c3, c4, B, bc, c5, hits⟩ := HO.out k r hr
      obtain ⟨hs1, hs2⟩ := HN.out.2 r (List.mem_of_getElem? hr)
      obtain ⟨B', bc', e, hA⟩ := items_open hits
      injection e with e1 e2 e3
      subst e1
      subst e3
      have HR := Lib.hid hr
      clear hr c0 c1 c2 hits
      obtain ⟨pre, flag, cross, strip, add, cond⟩ := r
      dsimp only at c3 c4 c5 hs1 hs2 hA
      obtain ⟨cn, hcn⟩ : ∃ cn, cn = cond.length := ⟨_, rfl⟩
      rw [← hcn] at c5
      have x3 := (HP.out.1.cell (p := ⟨b, off + k * 6 + 3, none⟩) hb).trans c3
      have x4 := (HP.out.1.cell (p := ⟨b, off + k * 6 + 4, none⟩) hb).trans c4
      have x5 := (HP.out.1.cell (p := ⟨b, off + k * 6 + 5, none⟩) hb).trans c5
      have HA := Lib.hid hA
      have HC := Lib.hid hcn
      clear c3 c4 c5 hA hcn h1 h2
      obtain ⟨g1, hg1⟩ : ∃ g1, g1 = gk := ⟨_, rfl⟩
      go_wp2_with fail
      go_loopg [4] 13 (fun g i wq => ∃ j : Nat, j + g = 13 ∧ i = .int .i64 j ∧ j ≤ cn ∧ wq = wr ∧ Hid (j ≤ 12 ∧ ∀ q, q < j → ∀ it, cond[q]? = some it → it.set.length ≤ 40))
      case atStart => exact ⟨0, by omega, rfl, Nat.zero_le _, rfl, Lib.hid ⟨by omega, fun q hq => absurd hq (Nat.not_lt_zero _)⟩⟩
      case round =>
        obtain ⟨j, hj, rfl, hjn, rfl, HQ⟩ := hrel
        have hcs2 : (j < cn ∧ j < 12) ∨ (¬ j < cn) ∨ (j < cn ∧ ¬ j < 12) := by omega
        rcases hcs2 with ⟨h1, h2⟩ | h1 | ⟨h1, h2⟩
        · have d3 : (j : Int) < cn := by omega
          have d4 : (j : Int) < 12 := by omega
          obtain ⟨it, hit⟩ : ∃ it, cond[j]? = some it := ⟨_, List.getElem?_eq_getElem (by have := HC.out; omega)⟩
          obtain ⟨bi, oi, rfl, hbi, hci, m0, m1, sv, m2, hsv⟩ := HA.out j it hit
          obtain ⟨S, sc2, rfl, -⟩ := ints_open hsv
          have hnc2 : cn ≤ bc := by have := HC.out; omega
          have m2' := (HP.out.1.cell (p := ⟨bi, oi + j * 3 + 2, none⟩) hbi).trans m2
          obtain ⟨m, hm⟩ : ∃ m, m = it.set.length := ⟨_, rfl⟩
          rw [← hm] at m2'
          have HM := Lib.hid (And.intro hit hm)
          clear hit m0 m1 m2 hsv hm h1 h2 hci
          by_cases h40 : 40 < m
          · have d5 : (40 : Int) < m := by omega
            clear h40
            go_wp2_with fail
            go_ret
            exact ⟨⟨_, rfl, fun e => (by cases e)⟩, HP.out.1⟩
          · have d5 : ¬ (40 : Int) < m := by omega
            have HP2 := Lib.hid (show j + 1 ≤ 12 ∧ ∀ q, q < j + 1 → ∀ it, cond[q]? = some it → it.set.length ≤ 40 from ⟨by omega, fun q hq it' hq' => by
              rcases Nat.lt_or_ge q j with hjk | hjk
              · exact HQ.out.2 q hjk it' hq'
              · obtain rfl : q = j := by omega
                rw [HM.out.1] at hq'
                rw [← Option.some.inj hq', ← HM.out.2]
                omega⟩)
            clear h40
            go_wp2_with fail
            go_roundg (gk - 1)
            case measure => omega
            case rel => exact ⟨j + 1, by omega, by go_num, by omega, rfl, HP2⟩
        · have d3 : ¬ (j : Int) < cn := by omega
          have hjn' : j = cn := by omega
          have HP3 := Lib.hid (show cn ≤ 12 ∧ ∀ it ∈ cond, it.set.length ≤ 40 from ⟨by have := HQ.out.1; omega, fun it hit => by
            obtain ⟨q, hq, hqe⟩ := List.getElem_of_mem hit
            exact HQ.out.2 q (by have := HC.out; omega) it (by rw [List.getElem?_eq_getElem hq, hqe])⟩)
          have d6 : ¬ (12 : Int) < cn := by have := HP3.out.1; omega
          have hes : IntKind.i64.wrap ((strip.size : Int) + add.size) = (strip.size : Int) + add.size := IntWalk.i64_in _ (by omega)
          have hg : decide ((12 : Int) < cn) = false := decide_eq_false d6
          clear h1 hjn'
          go_upto_region 9 with fail
          go_quiet (fail)
          have HBN := Lib.hid (show Below w.heap.size w (wr.drewN nq) from below_drewN HP.out.1 nq)
          by_cases hsum : (100 : Int) < (strip.size : Int) + add.size
          · clear hes
            go_wp2_with fail
            go_ret
            exact ⟨⟨_, rfl, fun e => (by cases e)⟩, HBN.out⟩
          · have HNX := Lib.hid (show ∀ q, q < k + 1 → ∀ r, rs[q]? = some r → Few1 r from fun q hq r' hq' => by
              rcases Nat.lt_or_ge q k with hjk | hjk
              · exact HP.out.2 q hjk r' hq'
              · obtain rfl : q = k := by omega
                rw [HR.out] at hq'
                rw [← Option.some.inj hq']
                exact ⟨by have := HP3.out.1; have := HC.out; dsimp only; omega, HP3.out.2, by dsimp only; omega⟩)
            clear hes
            go_wp2_with fail
            go_roundg (g1 - 1)
            case measure => omega
            case rel => exact ⟨k + 1, by omega, by go_num, by omega, by omega, Lib.hid ⟨HBN.out, HNX.out⟩⟩
        · have d3 : (j : Int) < cn := by omega
          have d4 : ¬ (j : Int) < 12 := by omega
          have d6 : (12 : Int) < cn := by have := HQ.out.1; omega
          have hg : decide ((12 : Int) < cn) = true := decide_eq_true d6
          clear h1 h2
          go_upto_region 9 with fail
          go_quiet (fail)
          have HBN := Lib.hid (show Below w.heap.size w (wr.drewN nq) from below_drewN HP.out.1 nq)
          go_wp2_with fail
          go_ret
          exact ⟨⟨_, rfl, fun e => (by cases e)⟩, HBN.out⟩
    · have d1 : ¬ (k : Int) < n := by omega
      have hkn' : k = n := by omega
      have hle : (n : Int) ≤ 20 := by omega
      have HX := Lib.hid (show Few13 rs from ⟨by have := HN.out.1; omega, fun r hr => by
        obtain ⟨j, hj, hje⟩ := List.getElem_of_mem hr
        exact HP.out.2 j (by have := HN.out.1; omega) r (by rw [List.getElem?_eq_getElem hj, hje])⟩)
      clear h1 hkn'
      go_wp2_with fail
      go_ret
      exact ⟨⟨_, rfl, fun _ => HX.out⟩, HP.out.1⟩
    · have d1 : (k : Int) < n := by omega
      have d2 : ¬ (k : Int) < 20 := by omega
      have d3 : ¬ (n : Int) ≤ 20 := by omega
      clear h1 h2
      go_wp2_with fail
      go_ret
      exact ⟨⟨_, rfl, fun e => (by cases e)⟩, HP.out.1⟩
end Go.Proofs.YtcbmfkgekhadkaaGreatDoor
