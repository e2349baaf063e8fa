/- The document's Same of chapter 11 by contract. -/
import Derived.Test.YteenleedonmkmaaGreatDoorVLaws
import Derived.Test.YteenleedonmkmaaGreatDoorPSame
import Derived.StillTailTactics
import Derived.Deep.CutRange
import Derived.Deep.DeepCutAuto
namespace Go.Proofs.YteenleedonmkmaaGreatDoor
open Go Go.RowKit Go.Lib

theorem rules_open {w : World} {A : Option Addr} {n cap : Nat} {rs : List Ru} (h : RulesAt w (.slice A n cap) rs) : ∀ (k : Nat) r, rs[k]? = some r → ∃ b off, A = some ⟨b, off, none⟩ ∧ b < w.heap.size ∧ n ≤ cap ∧ RuCells w b (off + k * 6) r := by
  intro k r hk
  rcases h with ⟨rfl, _⟩ | ⟨b, off, c, e, h1, h2, h3, h4⟩
  · simp at hk
  · injection e with e1 e2 e3
    subst e1 e2 e3
    exact ⟨b, off, rfl, h1, h2, h4 k r hk⟩
theorem pairs_open {w : World} {A : Option Addr} {n cap : Nat} {ps : List (Int × Int)} (h : PairsAt w (.slice A n cap) ps) : ∀ (k : Nat) p, ps[k]? = some p → ∃ b off, A = some ⟨b, off, none⟩ ∧ b < w.heap.size ∧ n ≤ cap ∧ w.cell? ⟨b, off + k * 2, none⟩ = some (.int .i64 p.1) ∧ w.cell? ⟨b, off + k * 2 + 1, none⟩ = some (.int .i64 p.2) := by
  intro k p hk
  rcases h with ⟨rfl, _⟩ | ⟨b, off, c, e, h1, h2, h3, h4⟩
  · simp at hk
  · injection e with e1 e2 e3
    subst e1 e2 e3
    exact ⟨b, off, rfl, h1, h2, h4 k p hk⟩
theorem RuCells.at_ {w : World} {b o : Nat} {r : Ru} (h : RuCells w b o r) : ∃ A cap, w.cell? ⟨b, o, none⟩ = some (.bool r.pre) ∧ w.cell? ⟨b, o + 1, none⟩ = some (.int .i64 r.flag) ∧ w.cell? ⟨b, o + 2, none⟩ = some (.bool r.cross) ∧ w.cell? ⟨b, o + 3, none⟩ = some (.string r.strip) ∧ w.cell? ⟨b, o + 4, none⟩ = some (.string r.add) ∧ w.cell? ⟨b, o + 5, none⟩ = some (.slice A r.cond.length cap) ∧
    RuAt w (.agg #[.bool r.pre, .int .i64 r.flag, .bool r.cross, .string r.strip, .string r.add, .slice A r.cond.length cap]) r := by
  obtain ⟨h0, h1, h2, h3, h4, A, cap, h5, h6⟩ := h
  exact ⟨A, cap, h0, h1, h2, h3, h4, h5, A, cap, rfl, h6⟩
/-- Two boxes of two cells. -/
theorem box22 {w w' : World} {a b c d : Value} {t : TypeId} (hb : Below ((w.alloc (.cells #[a, b] t)).alloc (.cells #[c, d] t)).heap.size ((w.alloc (.cells #[a, b] t)).alloc (.cells #[c, d] t)) w') :
    (w'.cell? ⟨w.heap.size, 0, none⟩ = some a ∧ w'.cell? ⟨w.heap.size, 1, none⟩ = some b) ∧ w'.cell? ⟨w.heap.size + 1, 0, none⟩ = some c ∧ w'.cell? ⟨w.heap.size + 1, 1, none⟩ = some d := by
  have h2 := box2 hb
  rw [World.size_alloc] at h2
  exact ⟨box2 (((Below.refl _ _).alloc (Nat.le_refl _) _).trans (hb.mono (by rw [World.size_alloc (w.alloc _)]; omega))), h2⟩

set_option maxRecDepth 100000 in
set_option maxHeartbeats 8000000 in
theorem rasame_any (w : World) (v v' : Value) (a a' : Af) (h : AffAt w v a) (h' : AffAt w v' a') (hi : ∀ r ∈ a.rules, r.cond.length ≤ 100000 ∧ ∀ it ∈ r.cond, it.set.length ≤ 100000) (hi' : ∀ r ∈ a'.rules, r.cond.length ≤ 100000 ∧ ∀ it ∈ r.cond, it.set.length ≤ 100000) :
    Calls Tryz.prog 8 #[v, v'] w fun e w' => e = .returned (.bool (decide (a = a'))) ∧ Below w.heap.size w w' := by
  obtain ⟨A, cA, B, cB, rfl, hA, hB⟩ := h
  obtain ⟨A', cA', B', cB', rfl, hA', hB'⟩ := h'
  obtain ⟨rs, ps⟩ := a
  obtain ⟨rs', ps'⟩ := a'
  dsimp only at hA hB hA' hB' hi hi' ⊢
  have l1 := hA.bd.1
  have l2 := hB.bd.1
  have l1' := hA'.bd.1
  have l2' := hB'.bd.1
  unfold maxLen at l1 l2 l1' l2'
  obtain ⟨n, hn⟩ : ∃ n, n = rs.length := ⟨_, rfl⟩
  obtain ⟨m, hm⟩ : ∃ n, n = ps.length := ⟨_, rfl⟩
  obtain ⟨n', hn'⟩ : ∃ n, n = rs'.length := ⟨_, rfl⟩
  obtain ⟨m', hm'⟩ : ∃ n, n = ps'.length := ⟨_, rfl⟩
  rw [← hn] at hA l1
  rw [← hm] at hB l2
  rw [← hn'] at hA' l1'
  rw [← hm'] at hB' l2'
  rw [← hn, ← hm, ← hn', ← hm']
  have HA := Lib.hid (rules_open hA)
  have HA' := Lib.hid (rules_open hA')
  have HP := Lib.hid (pairs_open hB)
  have HP' := Lib.hid (pairs_open hB')
  have HI := Lib.hid (And.intro hi hi')
  have HN := Lib.hid (And.intro (And.intro hn hm) (And.intro hn' hm'))
  obtain ⟨W0, hW0⟩ : ∃ W0, W0 = ((w.alloc (.cells #[.slice A n cA, .slice B m cB] 25)).alloc (.cells #[.slice A' n' cA', .slice B' m' cB'] 25)) := ⟨_, rfl⟩
  have hb0 : Below w.heap.size w W0 := by
    rw [hW0]
    exact ((Below.refl _ _).alloc (Nat.le_refl _) _).alloc (by rw [World.size_alloc]; omega) _
  have HB := Lib.hid hb0
  have BX := Lib.hid (show ∀ wx, Below W0.heap.size W0 wx → _ from fun wx hb => box22 (hW0 ▸ hb))
  have HW0 := Lib.hid hW0
  clear hA hB hA' hB' hi hi' hn hm hn' hm' hb0
  by_cases hnn : n = n'
  case neg =>
    have hd : decide ((⟨rs, ps⟩ : Af) = ⟨rs', ps'⟩) = false := decide_eq_false fun e => hnn (by injection e with e1 e2; rw [HN.out.1.1, HN.out.2.1, e1])
    rw [hd]
    have hne : ((n : Int) == n') = false := by simp; omega
    clear hd hnn
    go_enter Tryz.func8, Tryz.ntmps8
    go_upto_region 1 with fail
    rw [← HW0.out]
    clear hW0
    obtain ⟨⟨x0, x1⟩, y0, y1⟩ := BX.out W0 (Below.refl _ _)
    go_wp2_with fail
    go_ret
    exact ⟨rfl, HB.out⟩
  subst hnn
  by_cases hmm : m = m'
  case neg =>
    have hd : decide ((⟨rs, ps⟩ : Af) = ⟨rs', ps'⟩) = false := decide_eq_false fun e => hmm (by injection e with e1 e2; rw [HN.out.1.2, HN.out.2.2, e2])
    rw [hd]
    have hne : ((m : Int) == m') = false := by simp; omega
    clear hd hmm
    go_enter Tryz.func8, Tryz.ntmps8
    go_upto_region 1 with fail
    rw [← HW0.out]
    clear hW0
    obtain ⟨⟨x0, x1⟩, y0, y1⟩ := BX.out W0 (Below.refl _ _)
    go_wp2_with fail
    go_ret
    exact ⟨rfl, HB.out⟩
  subst hmm
  go_enter Tryz.func8, Tryz.ntmps8
  go_upto_region 1 with fail
  rw [← HW0.out]
  clear hW0
  obtain ⟨⟨x0, x1⟩, y0, y1⟩ := BX.out W0 (Below.refl _ _)
  go_wp2_with fail
  clear x0 x1 y0 y1
  go_loopg [5] n (fun g i wr => ∃ k : Nat, k + g = n ∧ i = .int .i64 k ∧ Hid (Below W0.heap.size W0 wr ∧ ∀ j, j < k → rs[j]? = rs'[j]?))
  case atStart => exact ⟨0, by omega, rfl, Lib.hid ⟨Below.refl _ _, fun j hj => absurd hj (Nat.not_lt_zero _)⟩⟩
  case round =>
    obtain ⟨k, hk, rfl, HK⟩ := hrel
    obtain ⟨⟨x0, x1⟩, y0, y1⟩ := BX.out wr HK.out.1
    have hk0 : (0 : Int) ≤ k := by omega
    rcases Nat.eq_zero_or_pos gk with h0 | h0
    · have hkn : ¬ (k : Int) < n := by omega
      have HR := Lib.hid (show rs = rs' from List.ext_getElem? fun j => by
        rcases Nat.lt_or_ge j k with hj | hj
        · exact HK.out.2 j hj
        · rw [List.getElem?_eq_none (by have := HN.out.1.1; omega), List.getElem?_eq_none (by have := HN.out.2.1; omega)])
      have HK1 := Lib.hid HK.out.1
      go_wp2_with fail
      clear x0 x1 y0 y1
      go_loopg [6] m (fun g i wx => ∃ q : Nat, q + g = m ∧ i = .int .i64 q ∧ Hid (Below W0.heap.size W0 wx ∧ ∀ j, j < q → ps[j]? = ps'[j]?))
      case atStart => exact ⟨0, by omega, rfl, Lib.hid ⟨HK1.out, fun j hj => absurd hj (Nat.not_lt_zero _)⟩⟩
      case round =>
        obtain ⟨q, hq, rfl, HQ⟩ := hrel
        obtain ⟨⟨x0, x1⟩, y0, y1⟩ := BX.out wr HQ.out.1
        have hq0 : (0 : Int) ≤ q := by omega
        have HQB := Lib.hid (HB.out.trans (HQ.out.1.mono HB.out.size))
        rcases Nat.eq_zero_or_pos gk with h0 | h0
        · have hqm : ¬ (q : Int) < m := by omega
          have HS := Lib.hid (show ps = ps' from List.ext_getElem? fun j => by
            rcases Nat.lt_or_ge j q with hj | hj
            · exact HQ.out.2 j hj
            · rw [List.getElem?_eq_none (by have := HN.out.1.2; omega), List.getElem?_eq_none (by have := HN.out.2.2; omega)])
          go_wp2_with fail
          go_ret
          exact ⟨by rw [HR.out, HS.out]; simp, HQB.out⟩
        · have hqm : (q : Int) < m := by omega
          obtain ⟨p, hp⟩ : ∃ p, ps[q]? = some p := ⟨_, List.getElem?_eq_getElem (by have := HN.out.1.2; omega)⟩
          obtain ⟨p', hp'⟩ : ∃ p, ps'[q]? = some p := ⟨_, List.getElem?_eq_getElem (by have := HN.out.2.2; omega)⟩
          obtain ⟨b, off, rfl, hb, hc1, e0, e1⟩ := HP.out q p hp
          obtain ⟨b', off', rfl, hb', hc2, e0', e1'⟩ := HP'.out q p' hp'
          have f0 := (HQB.out.cell (p := ⟨b, off + q * 2, none⟩) hb).trans e0
          have f1 := (HQB.out.cell (p := ⟨b, off + q * 2 + 1, none⟩) hb).trans e1
          have f0' := (HQB.out.cell (p := ⟨b', off' + q * 2, none⟩) hb').trans e0'
          have f1' := (HQB.out.cell (p := ⟨b', off' + q * 2 + 1, none⟩) hb').trans e1'
          have hm1 : (m : Int) ≤ cB := by omega
          have hm2 : (m : Int) ≤ cB' := by omega
          clear e0 e1 e0' e1' hc1 hc2 hb hb'
          obtain ⟨g1, g2⟩ := p
          obtain ⟨g1', g2'⟩ := p'
          dsimp only at f0 f1 f0' f1'
          by_cases h1 : g1 = g1'
          · subst h1
            by_cases h2 : g2 = g2'
            · subst h2
              have HQ2 := Lib.hid (show Below W0.heap.size W0 wr.drew ∧ ∀ j, j < q + 1 → ps[j]? = ps'[j]? from ⟨below_drewN HQ.out.1 1, fun j hj => by
                rcases Nat.lt_or_ge j q with h | h
                · exact HQ.out.2 j h
                · obtain rfl : j = q := by omega
                  rw [hp, hp']⟩)
              have d1 : (g1 == g1) = true := by simp
              have d2 : (g2 == g2) = true := by simp
              clear hp hp'
              go_upto_region 11 with fail
              go_quiet (fail)
              have HQ3 := Lib.hid (show Below W0.heap.size W0 (wr.drewN nq) ∧ ∀ j, j < q + 1 → ps[j]? = ps'[j]? from ⟨below_drewN HQ.out.1 _, HQ2.out.2⟩)
              go_wp2_with fail
              go_roundg (gk - 1)
              case measure => omega
              case rel => exact ⟨q + 1, by omega, by go_num, HQ3⟩
            · have hd : decide ((⟨rs, ps⟩ : Af) = ⟨rs', ps'⟩) = false := decide_eq_false fun e => h2 (by
                injection e with _ e2
                rw [e2, hp'] at hp
                have := Option.some.inj hp
                injection this with _ e3
                exact e3.symm)
              have HD := Lib.hid hd
              have d1 : (g1 == g1) = true := by simp
              have d2 : (g2 == g2') = false := by simpa using h2
              clear hp hp' hd h2
              go_upto_region 11 with fail
              go_quiet (fail)
              go_wp2_with fail
              go_ret
              exact ⟨(congrArg (fun b => Ending.returned (Value.bool b)) HD.out).symm, below_drewN HQB.out _⟩
          · have hd : decide ((⟨rs, ps⟩ : Af) = ⟨rs', ps'⟩) = false := decide_eq_false fun e => h1 (by
              injection e with _ e2
              rw [e2, hp'] at hp
              have := Option.some.inj hp
              injection this with e3 _
              exact e3.symm)
            have HD := Lib.hid hd
            have d1 : (g1 == g1') = false := by simpa using h1
            have d3 : decide (g1 = g1') = false := decide_eq_false h1
            have d4 : (!(g1 == g1')) = true := by rw [d1]; rfl
            clear hp hp' hd
            go_upto_region 11 with fail
            go_quiet (fail)
            go_wp2_with fail
            go_ret
            exact ⟨(congrArg (fun b => Ending.returned (Value.bool b)) HD.out).symm, below_drewN HQB.out _⟩
    · have hkn : (k : Int) < n := by omega
      obtain ⟨r, hr⟩ : ∃ r, rs[k]? = some r := ⟨_, List.getElem?_eq_getElem (by have := HN.out.1.1; omega)⟩
      obtain ⟨r', hr'⟩ : ∃ r, rs'[k]? = some r := ⟨_, List.getElem?_eq_getElem (by have := HN.out.2.1; omega)⟩
      obtain ⟨b, off, rfl, hb, hc1, hRU⟩ := HA.out k r hr
      obtain ⟨b', off', rfl, hb', hc2, hRU'⟩ := HA'.out k r' hr'
      have hKB := HB.out.trans (HK.out.1.mono HB.out.size)
      obtain ⟨D, dc, e0, e1, e2, e3, e4, e5, hat⟩ := (hRU.keep hKB hb).at_
      obtain ⟨D', dc', e0', e1', e2', e3', e4', e5', hat'⟩ := (hRU'.keep hKB hb').at_
      have hm1 : (n : Int) ≤ cA := by omega
      have hm2 : (n : Int) ≤ cA' := by omega
      have hI := HI.out.1 r (List.mem_of_getElem? hr)
      have hI' := HI.out.2 r' (List.mem_of_getElem? hr')
      have SM := Lib.hid (rsame10_any wr.drew _ _ r r' (hat.keep (below_drewN (Below.refl _ _) 1)) (hat'.keep (below_drewN (Below.refl _ _) 1)) hI.1 hI'.1 hI.2 hI'.2)
      have HKB := Lib.hid hKB
      have HRR := Lib.hid (And.intro hr hr')
      obtain ⟨dl, hdl⟩ : ∃ d, d = r.cond.length := ⟨_, rfl⟩
      obtain ⟨dl', hdl'⟩ : ∃ d, d = r'.cond.length := ⟨_, rfl⟩
      rw [← hdl] at e5 SM
      rw [← hdl'] at e5' SM
      have z0 : wr.drew.cell? ⟨b, off + k * 6, none⟩ = _ := e0
      have z1 : wr.drew.cell? ⟨b, off + k * 6 + 1, none⟩ = _ := e1
      have z2 : wr.drew.cell? ⟨b, off + k * 6 + 2, none⟩ = _ := e2
      have z3 : wr.drew.cell? ⟨b, off + k * 6 + 3, none⟩ = _ := e3
      have z4 : wr.drew.cell? ⟨b, off + k * 6 + 4, none⟩ = _ := e4
      have z5 : wr.drew.cell? ⟨b, off + k * 6 + 5, none⟩ = _ := e5
      have u0 : wr.drew.cell? ⟨b', off' + k * 6, none⟩ = _ := e0'
      have u1 : wr.drew.cell? ⟨b', off' + k * 6 + 1, none⟩ = _ := e1'
      have u2 : wr.drew.cell? ⟨b', off' + k * 6 + 2, none⟩ = _ := e2'
      have u3 : wr.drew.cell? ⟨b', off' + k * 6 + 3, none⟩ = _ := e3'
      have u4 : wr.drew.cell? ⟨b', off' + k * 6 + 4, none⟩ = _ := e4'
      have u5 : wr.drew.cell? ⟨b', off' + k * 6 + 5, none⟩ = _ := e5'
      have v0 : wr.drew.cell? ⟨w.heap.size, 0, none⟩ = _ := x0
      have v1 : wr.drew.cell? ⟨w.heap.size, 1, none⟩ = _ := x1
      have v2 : wr.drew.cell? ⟨w.heap.size + 1, 0, none⟩ = _ := y0
      have v3 : wr.drew.cell? ⟨w.heap.size + 1, 1, none⟩ = _ := y1
      have HD := Lib.hid (show Below W0.heap.size W0 wr.drew from below_drewN HK.out.1 1)
      clear hr hr' hRU hRU' hKB hat hat' hI hI' hdl hdl' hb hb' hc1 hc2
      go_upto_region 6 with fail
      go_still_tail 10, (by kernel_rfl)
      repeat still_step
      try refine wpStill_nil ?_
      change wpList _ _ _ _ _ wr.drew
      clear e0 e1 e2 e3 e4 e5 e0' e1' e2' e3' e4' e5' x0 x1 y0 y1
      generalize wr.drew = wd at *
      go_wp2_with (go_at_call 17; refine SM.out.mono ?_)
      rintro e w2 ⟨rfl, hb2⟩
      have HD2 := Lib.hid (HD.out.trans (hb2.mono HD.out.size))
      clear hb2 z0 z1 z2 z3 z4 z5 u0 u1 u2 u3 u4 u5 v0 v1 v2 v3
      by_cases hrr : r = r'
      · rw [decide_eq_true hrr]
        have HK2 := Lib.hid (show Below W0.heap.size W0 w2 ∧ ∀ j, j < k + 1 → rs[j]? = rs'[j]? from ⟨HD2.out, fun j hj => by
          rcases Nat.lt_or_ge j k with h | h
          · exact HK.out.2 j h
          · obtain rfl : j = k := by omega
            rw [HRR.out.1, HRR.out.2, hrr]⟩)
        clear hrr
        go_wp2_with fail
        go_roundg (gk - 1)
        case measure => omega
        case rel => exact ⟨k + 1, by omega, by go_num, HK2⟩
      · rw [decide_eq_false hrr]
        have HZ := Lib.hid (show decide ((⟨rs, ps⟩ : Af) = ⟨rs', ps'⟩) = false from decide_eq_false fun e => hrr (by
          injection e with e1 _
          have h1 := HRR.out.1
          rw [e1, HRR.out.2] at h1
          exact (Option.some.inj h1).symm))
        clear hrr
        go_wp2_with fail
        go_ret
        exact ⟨(congrArg (fun b => Ending.returned (Value.bool b)) HZ.out).symm, HB.out.trans (HD2.out.mono HB.out.size)⟩
end Go.Proofs.YteenleedonmkmaaGreatDoor
