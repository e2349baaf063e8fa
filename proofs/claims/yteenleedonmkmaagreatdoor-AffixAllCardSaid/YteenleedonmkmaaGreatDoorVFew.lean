/- Stage 11's law AffixAll: few by contract. -/
import Derived.Test.YteenleedonmkmaaGreatDoorVSame
import Derived.Test.YteenleedonmkmaaGreatDoorNRefSame
import Derived.BigQuiet
namespace Go.Proofs.YteenleedonmkmaaGreatDoor
open Go Go.RowKit Go.Lib

/-- What few says of a rule, of an affix file. -/
def FewRu (r : Ru) : Prop := r.cond.length ≤ 12 ∧ (∀ it ∈ r.cond, it.set.length ≤ 40) ∧ r.strip.size + r.add.size ≤ 200
structure FewF (a : Af) : Prop where
  rules : a.rules.length ≤ 20
  pairs : a.pairs.length ≤ 20
  each : ∀ r ∈ a.rules, FewRu r
theorem RuCells.itemsV {w : World} {b o : Nat} {r : Ru} (h : RuCells w b o r) : ∃ A cap, w.cell? ⟨b, o, none⟩ = some (.bool r.pre) ∧ w.cell? ⟨b, o + 1, none⟩ = some (.int .i64 r.flag) ∧ w.cell? ⟨b, o + 2, none⟩ = some (.bool r.cross) ∧ w.cell? ⟨b, o + 3, none⟩ = some (.string r.strip) ∧ w.cell? ⟨b, o + 4, none⟩ = some (.string r.add) ∧ w.cell? ⟨b, o + 5, none⟩ = some (.slice A r.cond.length cap) ∧ ItemsAt w (.slice A r.cond.length cap) r.cond := by
  obtain ⟨h0, h1, h2, h3, h4, A, cap, h5, h6⟩ := h
  exact ⟨A, cap, h0, h1, h2, h3, h4, h5, h6⟩
/-- What few answers. -/
def FewVE (e : Ending) (a : Af) : Prop := ∃ b, e = .returned (.bool b) ∧ (b = true → FewF a)
theorem FewF.few {a : Af} (h : FewF a) : FewA a :=
  ⟨by have := h.rules; omega, by have := h.pairs; omega, fun r hr => (h.each r hr).1, fun r hr it hit => by have := (h.each r hr).2.1 it hit; omega, fun r hr => by have := (h.each r hr).2.2; omega, fun r hr => by have := (h.each r hr).2.2; omega⟩

set_option maxRecDepth 100000 in
set_option maxHeartbeats 4000000 in
theorem vfew_any (w : World) (v : Value) (a : Af) (h : AffAt w v a) (hz : ∀ r ∈ a.rules, r.strip.size ≤ 1000000000000000 ∧ r.add.size ≤ 1000000000000000) :
    Calls Tryz.prog 4 #[v] w fun e w' => FewVE e a ∧ Below w.heap.size w w' := by
  obtain ⟨A, cA, B, cB, rfl, hA, hB⟩ := h
  obtain ⟨n, hn⟩ : ∃ n, n = a.rules.length := ⟨_, rfl⟩
  obtain ⟨m, hm⟩ : ∃ n, n = a.pairs.length := ⟨_, rfl⟩
  have l1 := hA.bd.1
  have l2 := hB.bd.1
  unfold maxLen at l1 l2
  rw [← hn] at hA l1 ⊢
  rw [← hm] at hB l2 ⊢
  obtain ⟨W0, hW0⟩ : ∃ W0, W0 = w.alloc (.cells #[.slice A n cA, .slice B m cB] 25) := ⟨_, rfl⟩
  have hb0 : Below w.heap.size w W0 := by rw [hW0]; exact (Below.refl _ _).alloc (Nat.le_refl _) _
  have HB := Lib.hid hb0
  have BX := Lib.hid (show ∀ wx, Below W0.heap.size W0 wx → _ from fun wx hb => box2 (hW0 ▸ hb))
  have HW0 := Lib.hid hW0
  have HN := Lib.hid (And.intro hn hm)
  have HA := Lib.hid (rules_open (hA.keep hb0))
  have HZ := Lib.hid hz
  clear hA hB hz hn hm hb0
  go_enter Tryz.func4, Tryz.ntmps4
  go_upto_region 1 with fail
  rw [← HW0.out]
  clear hW0
  go_wp2_with fail
  go_loopg [3, 4] 21 (fun gh i _ wr => ∃ q : Nat, q + gh = 21 ∧ i = .int .i64 q ∧ q ≤ 20 ∧ q ≤ n ∧ Hid (Below W0.heap.size W0 wr ∧ ∀ j, j < q → ∀ r, a.rules[j]? = some r → FewRu r))
  case atStart => exact ⟨0, by omega, rfl, by omega, Nat.zero_le _, Lib.hid ⟨Below.refl _ _, fun j hj => absurd hj (Nat.not_lt_zero _)⟩⟩
  case round =>
    obtain ⟨q, hq, rfl, hq20, hqn, HO⟩ := hrel
    have hq0 : (0 : Int) ≤ q := by omega
    obtain ⟨x0, x1⟩ := BX.out wr HO.out.1
    have hcs : (q < n ∧ q < 20) ∨ (¬ q < n) ∨ (q < n ∧ ¬ q < 20) := by omega
    rcases hcs with ⟨h1, h2⟩ | h1 | ⟨h1, h2⟩
    · have d1 : (q : Int) < n := by omega
      have d2 : (q : Int) < 20 := by omega
      obtain ⟨r, hr⟩ : ∃ r, a.rules[q]? = some r := ⟨_, List.getElem?_eq_getElem (by have := HN.out.1; omega)⟩
      obtain ⟨gb, off, rfl, hgb, hcA, hru⟩ := HA.out q r hr
      have hcA2 : (n : Int) ≤ cA := by omega
      have HRZ := Lib.hid (HZ.out r (List.mem_of_getElem? hr))
      have HR := Lib.hid (show ∀ wy, Below wr.heap.size wr wy → RuCells wy gb (off + q * 6) r from fun wy hb => hru.keep (HO.out.1.trans (hb.mono HO.out.1.size)) hgb)
      have HX := Lib.hid (show ∀ wy, Below wr.heap.size wr wy → _ from fun wy hb => BX.out wy (HO.out.1.trans (hb.mono HO.out.1.size)))
      have HBW := Lib.hid (show ∀ wy, Below wr.heap.size wr wy → Below W0.heap.size W0 wy from fun wy hb => HO.out.1.trans (hb.mono HO.out.1.size))
      have HP := Lib.hid HO.out.2
      have HRR := Lib.hid hr
      obtain ⟨go, hgo⟩ : ∃ g, g = gk := ⟨_, rfl⟩
      have HGO := Lib.hid hgo
      obtain ⟨dl, hdl⟩ : ∃ d, d = r.cond.length := ⟨_, rfl⟩
      have HDL := Lib.hid hdl
      clear hru hgb hcA hr hgo HO h1 h2 hdl
      go_wp2_with fail
      clear x0 x1
      go_loopg [4] 13 (fun gh kv wy => ∃ t : Nat, t + gh = 13 ∧ kv = .int .i64 t ∧ t ≤ 12 ∧ t ≤ dl ∧ Hid (Below wr.heap.size wr wy ∧ ∀ j, j < t → ∀ it, r.cond[j]? = some it → it.set.length ≤ 40))
      case atStart => exact ⟨0, by omega, rfl, by omega, Nat.zero_le _, Lib.hid ⟨Below.refl _ _, fun j hj => absurd hj (Nat.not_lt_zero _)⟩⟩
      case round =>
        obtain ⟨t, ht, rfl, ht12, htd, HI⟩ := hrel
        have ht0 : (0 : Int) ≤ t := by omega
        obtain ⟨x0, x1⟩ := HX.out wr HI.out.1
        obtain ⟨D, dc, e0, e1, e2, e3, e4, e5, hat⟩ := (HR.out wr HI.out.1).itemsV
        rw [← HDL.out] at e5
        have hcs : (t < dl ∧ t < 12) ∨ (¬ t < dl) ∨ (t < dl ∧ ¬ t < 12) := by omega
        rcases hcs with ⟨h1, h2⟩ | h1 | ⟨h1, h2⟩
        · have f1 : (t : Int) < dl := by omega
          have f2 : (t : Int) < 12 := by omega
          obtain ⟨it, hit⟩ : ∃ it, r.cond[t]? = some it := ⟨_, List.getElem?_eq_getElem (by have := HDL.out; omega)⟩
          obtain ⟨A', cap', e, hO⟩ := items_open hat
          injection e with e1' e2' e3'
          subst e1' e3'
          obtain ⟨ib, io, rfl, hib, hic, m0, m1, sv, m2, hsv⟩ := hO t it hit
          obtain ⟨SB, sc, rfl, -⟩ := ints_open hsv
          have hdc : (dl : Int) ≤ dc := by have := HDL.out; omega
          obtain ⟨sl, hsl⟩ : ∃ sl, sl = it.set.length := ⟨_, rfl⟩
          rw [← hsl] at m2
          have HSL := Lib.hid (And.intro hit hsl)
          clear hit hat hO m0 m1 hsv hsl h1 h2 hic e0 e1 e2 e3 e4
          by_cases h40 : 40 < sl
          · have d3 : (40 : Int) < sl := by omega
            clear h40
            go_wp2_with fail
            go_ret
            exact ⟨⟨_, rfl, fun e => (by cases e)⟩, HB.out.trans ((HBW.out _ HI.out.1).mono HB.out.size)⟩
          · have d3 : ¬ (40 : Int) < sl := by omega
            have HI2 := Lib.hid (show ∀ j, j < t + 1 → ∀ it, r.cond[j]? = some it → it.set.length ≤ 40 from fun j hj it' hj' => by
              rcases Nat.lt_or_ge j t with hjk | hjk
              · exact HI.out.2 j hjk it' hj'
              · obtain rfl : j = t := by omega
                rw [HSL.out.1] at hj'
                rw [← Option.some.inj hj', ← HSL.out.2]
                omega)
            clear h40
            go_wp2_with fail
            go_roundg (gk - 1)
            case measure => omega
            case rel => exact ⟨t + 1, by omega, by go_num, by omega, by omega, Lib.hid ⟨HI.out.1, HI2.out⟩⟩
        · have f1 : ¬ (t : Int) < dl := by omega
          have htd2 : t = dl := by omega
          have hdl12 : dl ≤ 12 := by omega
          have f3 : ¬ (12 : Int) < dl := by omega
          have HK := Lib.hid (show r.cond.length ≤ 12 ∧ ∀ it ∈ r.cond, it.set.length ≤ 40 from ⟨by have := HDL.out; omega, fun it hit => by
            obtain ⟨j, hj, hje⟩ := List.getElem_of_mem hit
            exact HI.out.2 j (by have := HDL.out; omega) it (by rw [List.getElem?_eq_getElem hj, hje])⟩)
          obtain ⟨s1, hs1⟩ : ∃ s, s = r.strip := ⟨_, rfl⟩
          obtain ⟨s2, hs2⟩ : ∃ s, s = r.add := ⟨_, rfl⟩
          rw [← hs1] at e3
          rw [← hs2] at e4
          have HSS := Lib.hid (And.intro hs1 hs2)
          have hz1 : s1.size ≤ 1000000000000000 := by rw [hs1]; exact HRZ.out.1
          have hz2 : s2.size ≤ 1000000000000000 := by rw [hs2]; exact HRZ.out.2
          have hes : IntKind.i64.wrap ((s1.size : Int) + s2.size) = (s1.size : Int) + s2.size := IntWalk.i64_in _ (by omega)
          clear h1 hat e0 e1 e2 hs1 hs2 htd2
          by_cases hbig : 200 < s1.size + s2.size
          · have d3 : (200 : Int) < (s1.size : Int) + s2.size := by omega
            clear hbig
            go_upto_region 9 with fail
            go_quiet (fail)
            have HB3 := Lib.hid (below_drewN HI.out.1 nq)
            go_wp2_with fail
            go_ret
            exact ⟨⟨_, rfl, fun e => (by cases e)⟩, HB.out.trans ((HBW.out _ HB3.out).mono HB.out.size)⟩
          · have d3 : ¬ (200 : Int) < (s1.size : Int) + s2.size := by omega
            have d4 : decide ((200 : Int) < (s1.size : Int) + s2.size) = false := decide_eq_false d3
            have HP2 := Lib.hid (show ∀ j, j < q + 1 → ∀ x, a.rules[j]? = some x → FewRu x from fun j hj x hx => by
              rcases Nat.lt_or_ge j q with hjk | hjk
              · exact HP.out j hjk x hx
              · obtain rfl : j = q := by omega
                rw [HRR.out] at hx
                rw [← Option.some.inj hx]
                exact ⟨HK.out.1, HK.out.2, by rw [← HSS.out.1, ← HSS.out.2]; omega⟩)
            clear hbig
            go_upto_region 9 with fail
            go_quiet (fail)
            have HB3 := Lib.hid (HBW.out _ (below_drewN HI.out.1 nq))
            go_wp2_with fail
            go_roundg (go - 1)
            case measure => have := HGO.out; omega
            case rel => exact ⟨q + 1, by have := HGO.out; omega, by go_num, by omega, by omega, Lib.hid ⟨HB3.out, HP2.out⟩⟩
        · have f1 : (t : Int) < dl := by omega
          have f2 : ¬ (t : Int) < 12 := by omega
          have f3 : (12 : Int) < dl := by omega
          clear hat e0 e1 e2 h1 h2
          go_upto_region 9 with fail
          go_quiet (fail)
          have HB3 := Lib.hid (below_drewN HI.out.1 nq)
          go_wp2_with fail
          go_ret
          exact ⟨⟨_, rfl, fun e => (by cases e)⟩, HB.out.trans ((HBW.out _ HB3.out).mono HB.out.size)⟩
    · have d1 : ¬ (q : Int) < n := by omega
      have d2 : (n : Int) ≤ 20 := by omega
      have hqn2 : q = n := by omega
      have HE := Lib.hid (show ∀ r ∈ a.rules, FewRu r from fun r hr => by
        obtain ⟨j, hj, hje⟩ := List.getElem_of_mem hr
        exact HO.out.2 j (by have := HN.out.1; omega) r (by rw [List.getElem?_eq_getElem hj, hje]))
      have HB3 := Lib.hid (HB.out.trans (HO.out.1.mono HB.out.size))
      have hn20 : n ≤ 20 := by omega
      clear h1 hqn2
      by_cases hm20 : m ≤ 20
      · have d3 : (m : Int) ≤ 20 := by omega
        have HF := Lib.hid (show FewF a from ⟨by have := HN.out.1; omega, by have := HN.out.2; omega, HE.out⟩)
        go_wp2_with fail
        go_ret
        exact ⟨⟨_, rfl, fun _ => HF.out⟩, HB3.out⟩
      · have d3 : ¬ (m : Int) ≤ 20 := by omega
        go_wp2_with fail
        go_ret
        exact ⟨⟨_, rfl, fun e => (by cases e)⟩, HB3.out⟩
    · have d1 : (q : Int) < n := by omega
      have d2 : ¬ (q : Int) < 20 := by omega
      have d3 : ¬ (n : Int) ≤ 20 := by omega
      have HB3 := Lib.hid (HB.out.trans (HO.out.1.mono HB.out.size))
      clear h1 h2
      go_wp2_with fail
      go_ret
      exact ⟨⟨_, rfl, fun e => (by cases e)⟩, HB3.out⟩
end Go.Proofs.YteenleedonmkmaaGreatDoor
