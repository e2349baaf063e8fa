/- cond's alike and slices.EqualFunc over it. -/
import Derived.Test.YteenleedonmkmaaGreatDoorMFirst
namespace Go.Proofs.YteenleedonmkmaaGreatDoor
open Go Go.RowKit

set_option maxRecDepth 100000 in
set_option maxHeartbeats 2000000 in
/-- alike: whether two items are the same. -/
theorem alike_any (w : World) (it it' : It) (sv sv' : Value) (h : IntsAt w sv it.set) (h' : IntsAt w sv' it'.set) :
    Calls Tryz.prog 71 #[.agg #[.bool it.any, .bool it.not, sv], .agg #[.bool it'.any, .bool it'.not, sv']] w fun e w' => e = .returned (.bool (decide (it = it'))) ∧ Below w.heap.size w w' := by
  have E := Lib.hid fun wx (hb : Below w.heap.size w wx) => equal_any wx sv sv' it.set it'.set (h.keep hb) (h'.keep hb)
  obtain ⟨A, cap, rfl, -⟩ := ints_open h
  obtain ⟨A', cap', rfl, -⟩ := ints_open h'
  clear h h'
  have hb0 := (Below.refl w.heap.size w).alloc (Nat.le_refl _) (.cells #[.bool it.any, .bool it.not, .slice A it.set.length cap] 39)
  have HB := Lib.hid (hb0.alloc hb0.size (.cells #[.bool it'.any, .bool it'.not, .slice A' it'.set.length cap'] 39))
  clear hb0
  obtain ⟨any, neg, set⟩ := it
  obtain ⟨any', neg', set'⟩ := it'
  dsimp only at E HB ⊢
  by_cases ha : any = any'
  · subst ha
    by_cases hn : neg = neg'
    · subst hn
      have hd : decide ((⟨any, neg, set⟩ : It) = ⟨any, neg, set'⟩) = decide (set = set') := by
        rw [Bool.eq_iff_iff]; simp
      rw [hd]
      clear hd
      have d1 : (any == any) = true := by simp
      have d2 : (neg == neg) = true := by simp
      go_enter Tryz.func71, Tryz.ntmps71
      go_wp2_with (go_at_call 86; refine (E.out _ HB.out).mono ?_)
      rintro e w2 ⟨rfl, hb2⟩
      have HB2 := Lib.hid (HB.out.trans (hb2.mono HB.out.size))
      clear hb2
      go_wp2_with fail
      go_ret
      exact ⟨rfl, HB2.out⟩
    · have hd : decide ((⟨any, neg, set⟩ : It) = ⟨any, neg', set'⟩) = false := decide_eq_false (fun e => hn (by injection e))
      rw [hd]
      have d1 : (any == any) = true := by simp
      have d2 : (neg == neg') = false := by simpa using hn
      clear hd hn E
      go_enter Tryz.func71, Tryz.ntmps71
      go_wp2_with fail
      go_ret
      exact ⟨rfl, HB.out⟩
  · have hd : decide ((⟨any, neg, set⟩ : It) = ⟨any', neg', set'⟩) = false := decide_eq_false (fun e => ha (by injection e))
    rw [hd]
    have d1 : (any == any') = false := by simpa using ha
    clear hd ha E
    go_enter Tryz.func71, Tryz.ntmps71
    go_wp2_with fail
    go_ret
    exact ⟨rfl, HB.out⟩

theorem items_bd {w : World} {v : Value} {l : List It} (h : ItemsAt w v l) : l.length ≤ 9223372036854775807 := by
  rcases h with ⟨rfl, _⟩ | ⟨b, off, cap, rfl, h1, h2, h3, h4⟩
  · exact Nat.zero_le _
  · unfold maxLen at h3; omega
theorem items_openO {w : World} {v : Value} {l : List It} (h : ItemsAt w v l) : ∃ A cap, v = .slice A l.length cap ∧ ∀ (i : Nat) it, l[i]? = some it → ∃ q o, A = some ⟨q, o, none⟩ ∧ q < w.heap.size ∧ l.length ≤ cap ∧ w.cell? ⟨q, o + i * 3, none⟩ = some (.bool it.any) ∧ w.cell? ⟨q, o + i * 3 + 1, none⟩ = some (.bool it.not) ∧ ∃ a m c, w.cell? ⟨q, o + i * 3 + 2, none⟩ = some (.slice a m c) ∧ IntsAt w (.slice a m c) it.set := by
  obtain ⟨rfl, a, cap, rfl⟩ | ⟨b, off, cap, rfl, hlt, hcap, hm, hc⟩ := h
  · exact ⟨a, cap, rfl, fun i c hi => by simp at hi⟩
  · refine ⟨_, cap, rfl, fun i it hi => ?_⟩
    obtain ⟨k1, k2, sv, k3, k4⟩ := hc i it hi
    obtain ⟨A, cp, rfl, -⟩ := ints_open k4
    exact ⟨b, off, rfl, hlt, hcap, k1, k2, _, _, _, k3, k4⟩

set_option maxRecDepth 100000 in
set_option maxHeartbeats 4000000 in
theorem equalFunc_any (w : World) (v v' : Value) (l l' : List It) (h : ItemsAt w v l) (h' : ItemsAt w v' l') :
    Calls Tryz.prog 70 #[v, v', .func (.func 71) #[] #[]] w fun e w' => e = .returned (.bool (decide (l = l'))) ∧ Below w.heap.size w w' := by
  have hbig := items_bd h
  obtain ⟨A, cap, rfl, hA⟩ := items_openO h
  obtain ⟨A', cap', rfl, hA'⟩ := items_openO h'
  have HA := Lib.hid hA
  have HA' := Lib.hid hA'
  clear hA hA' h h'
  by_cases hne : l.length = l'.length
  · obtain ⟨n, hn⟩ : ∃ n, n = l.length := ⟨_, rfl⟩
    rw [← hne, ← hn]
    rw [← hn] at hbig
    have HN := Lib.hid (And.intro hn hne)
    clear hn hne
    go_enter Tryz.func70, Tryz.ntmps70
    go_wp2
    go_loopg [7, 8, 9, 17] n (fun g _ _ _ i wr => ∃ k : Nat, k + g = n ∧ i = .int .i64 k ∧ Hid (Below w.heap.size w wr) ∧ Hid (∀ j, j < k → l[j]? = l'[j]?))
    case atStart => exact ⟨0, by omega, rfl, Lib.hid (Below.refl _ _), Lib.hid fun j hj => absurd hj (Nat.not_lt_zero _)⟩
    case round =>
      obtain ⟨k, hk, rfl, HB, HP⟩ := hrel
      rcases Nat.eq_zero_or_pos gk with h0 | h0
      · have hkn : k = n := by omega
        subst hkn
        go_wp2
        go_ret
        have he : l = l' := by
          apply List.ext_getElem?
          intro j
          rcases Nat.lt_or_ge j k with hjk | hjk
          · exact HP.out j hjk
          · have h1 := HN.out
            rw [List.getElem?_eq_none (by omega), List.getElem?_eq_none (by omega)]
        exact ⟨ret_bool (decide_eq_true he).symm, HB.out⟩
      · have hkn : (k : Int) < n := by omega
        obtain ⟨c, hc⟩ : ∃ c, l[k]? = some c := ⟨_, List.getElem?_eq_getElem (by have := HN.out; omega)⟩
        obtain ⟨d, hd⟩ : ∃ d, l'[k]? = some d := ⟨_, List.getElem?_eq_getElem (by have := HN.out; omega)⟩
        obtain ⟨q, o, rfl, hq, -, m0, m1, a, m, cp, m2, hs⟩ := HA.out k c hc
        obtain ⟨q', o', rfl, hq', -, n0, n1, a', m', cp', n2, hs'⟩ := HA'.out k d hd
        have p0 := (HB.out.cell (p := ⟨q, o + k * 3, none⟩) hq).trans m0
        have p1 := (HB.out.cell (p := ⟨q, o + k * 3 + 1, none⟩) hq).trans m1
        have p2 := (HB.out.cell (p := ⟨q, o + k * 3 + 2, none⟩) hq).trans m2
        have hq2 : q' < wr.heap.size := Nat.lt_of_lt_of_le hq' HB.out.size
        have r0 := (HB.out.cell (p := ⟨q', o' + k * 3, none⟩) hq').trans n0
        have r1 := (HB.out.cell (p := ⟨q', o' + k * 3 + 1, none⟩) hq').trans n1
        have r2 := (HB.out.cell (p := ⟨q', o' + k * 3 + 2, none⟩) hq').trans n2
        have tk1 : (0 : Int) ≤ k := by omega
        have HC := Lib.hid (And.intro hc hd)
        have C := Lib.hid fun wx (hb : Below wr.heap.size wr wx) => alike_any wx c d (.slice a m cp) (.slice a' m' cp') ((hs.keep HB.out).keep hb) ((hs'.keep HB.out).keep hb)
        clear m0 m1 m2 n0 n1 n2 hc hd hs hs'
        have hb0 := (Below.refl wr.heap.size wr).alloc (Nat.le_refl _) (.cells #[.bool c.any, .bool c.not, .slice a m cp] 39)
        have HB2 := Lib.hid (hb0.alloc hb0.size (.cells #[.bool d.any, .bool d.not, .slice a' m' cp'] 39))
        clear hb0
        go_wp2_with (go_at_call 71; refine (C.out _ HB2.out).mono ?_)
        rintro e w2 ⟨rfl, hb2⟩
        have HB3 := Lib.hid (HB.out.trans ((HB2.out.trans (hb2.mono HB2.out.size)).mono HB.out.size))
        clear hb2
        by_cases hx : c = d
        · have hd : decide (c = d) = true := decide_eq_true hx
          have HX := Lib.hid hx
          clear hx
          rw [hd]
          clear hd
          go_wp2_with fail
          go_roundg (gk - 1)
          case measure => omega
          case rel =>
            refine ⟨k + 1, by omega, by go_num, HB3, Lib.hid fun j hj => ?_⟩
            rcases Nat.lt_or_ge j k with hjk | hjk
            · exact HP.out j hjk
            · obtain rfl : j = k := by omega
              rw [HC.out.1, HC.out.2, HX.out]
        · have he : ¬ l = l' := fun e => by
            have h1 := HC.out
            rw [e] at h1
            exact hx (Option.some.inj (h1.1.symm.trans h1.2))
          have HE := Lib.hid he
          have hd : decide (c = d) = false := decide_eq_false hx
          rw [hd]
          clear hx he hd
          go_wp2_with fail
          go_ret
          exact ⟨ret_bool (decide_eq_false HE.out).symm, HB3.out⟩
  · have he : ¬ l = l' := fun e => hne (by rw [e])
    rw [decide_eq_false he]
    have hn1 : ¬ ((l.length : Int) = l'.length) := by omega
    clear he
    go_enter Tryz.func70, Tryz.ntmps70
    go_wp2
    go_ret
    exact ⟨rfl, Below.refl _ _⟩
end Go.Proofs.YteenleedonmkmaaGreatDoor
