/- The document's Same of chapter 9, by contract: whatever items. -/
import Derived.Test.YteenleedonmkmaaGreatDoorMMem
namespace Go.Proofs.YteenleedonmkmaaGreatDoor
open Go Go.RowKit

theorem it_ext {a b : It} (h1 : a.any = b.any) (h2 : a.not = b.not) (h3 : a.set = b.set) : a = b := by
  obtain ⟨_, _, _⟩ := a
  obtain ⟨_, _, _⟩ := b
  simp only at h1 h2 h3
  subst h1 h2 h3
  rfl
theorem list_ext9 {α : Type} {l l' : List α} {n : Nat} (h1 : l.length = n) (h2 : l'.length = n) (h : ∀ (i : Nat) (a b : α), l[i]? = some a → l'[i]? = some b → a = b) : l = l' := by
  apply List.ext_getElem?
  intro i
  by_cases hi : i < n
  · have e1 : l[i]? = some l[i] := List.getElem?_eq_getElem (by omega)
    have e2 : l'[i]? = some l'[i] := List.getElem?_eq_getElem (by omega)
    rw [e1, e2, h i _ _ e1 e2]
  · rw [List.getElem?_eq_none (by omega), List.getElem?_eq_none (by omega)]
theorem items_open {w : World} {v : Value} {l : List It} (h : ItemsAt w v l) : ∃ A cap, v = .slice A l.length cap ∧ ∀ (i : Nat) it, l[i]? = some it → ∃ b off, A = some ⟨b, off, none⟩ ∧ b < w.heap.size ∧ l.length ≤ cap ∧ w.cell? ⟨b, off + i * 3, none⟩ = some (.bool it.any) ∧ w.cell? ⟨b, off + i * 3 + 1, none⟩ = some (.bool it.not) ∧ ∃ sv, w.cell? ⟨b, off + i * 3 + 2, none⟩ = some sv ∧ IntsAt w sv it.set := by
  obtain ⟨rfl, a, cap, rfl⟩ | ⟨b, off, cap, rfl, hlt, hcap, hm, hc⟩ := h
  · exact ⟨a, cap, rfl, fun i it hi => by simp at hi⟩
  · exact ⟨_, cap, rfl, fun i it hi => ⟨b, off, rfl, hlt, hcap, hc i it hi⟩⟩

set_option maxRecDepth 100000 in
set_option maxHeartbeats 4000000 in
theorem rsame9_any (w : World) (v v' : Value) (l l' : List It) (h : ItemsAt w v l) (h' : ItemsAt w v' l') (hl : l.length ≤ 100000) (hl' : l'.length ≤ 100000) (hs : ∀ it ∈ l, it.set.length ≤ 100000) (hs' : ∀ it ∈ l', it.set.length ≤ 100000) :
    Calls Tryz.prog 37 #[v, v'] w fun e w' => e = .returned (.bool (decide (l = l'))) ∧ Below w.heap.size w w' := by
  obtain ⟨A, cap, rfl, hc⟩ := items_open h
  obtain ⟨A', cap', rfl, hc'⟩ := items_open h'
  obtain ⟨n, hn⟩ : ∃ n, n = l.length := ⟨_, rfl⟩
  obtain ⟨n', hn'⟩ : ∃ n, n = l'.length := ⟨_, rfl⟩
  rw [← hn] at hl ⊢
  rw [← hn'] at hl' ⊢
  obtain ⟨R, hR⟩ : ∃ R, R = decide (l = l') := ⟨_, rfl⟩
  rw [← hR]
  by_cases hne : n = n'
  · subst hne
    have HC := Lib.hid (And.intro hc hc')
    have HN := Lib.hid (And.intro hn hn')
    have HS := Lib.hid (And.intro hs hs')
    have HR := Lib.hid hR
    clear hc hc' hn hn' hs hs' h h' hR
    go_enter Tryz.func37, Tryz.ntmps37
    go_wp2
    go_loopg [5] n (fun g i wr => ∃ k : Nat, k + g = n ∧ i = .int .i64 k ∧ Hid (∀ (i : Nat) a b, i < k → l[i]? = some a → l'[i]? = some b → a = b) ∧ Hid (Below w.heap.size w wr))
    case atStart => exact ⟨0, by omega, rfl, Lib.hid (fun i a b hi => by omega), Lib.hid (Below.refl _ _)⟩
    case round =>
      obtain ⟨k, hk, rfl, HE, HB⟩ := hrel
      rcases Nat.eq_zero_or_pos gk with h0 | h0
      · have hkn : k = n := by omega
        subst hkn
        have hR1 : R = true := by
          rw [HR.out]
          exact decide_eq_true (list_ext9 HN.out.1.symm HN.out.2.symm fun i a b ha hb => HE.out i a b (by have := (List.getElem?_eq_some_iff.1 ha).1; have := HN.out.1; omega) ha hb)
        subst hR1
        go_wp2
        go_ret
        exact ⟨rfl, HB.out⟩
      · have hkn : (k : Int) < n := by omega
        obtain ⟨it, hit⟩ : ∃ it, l[k]? = some it := ⟨_, List.getElem?_eq_getElem (by have := HN.out.1; omega)⟩
        obtain ⟨it', hit'⟩ : ∃ it, l'[k]? = some it := ⟨_, List.getElem?_eq_getElem (by have := HN.out.2; omega)⟩
        obtain ⟨b, off, rfl, hlt, hcp, x0, x1, sv, x2, xs⟩ := HC.out.1 k it hit
        obtain ⟨b', off', rfl, hlt', hcp', y0, y1, sv', y2, ys⟩ := HC.out.2 k it' hit'
        obtain ⟨SA, cp, rfl, hA⟩ := ints_open xs
        obtain ⟨SA', cp', rfl, hA'⟩ := ints_open ys
        have hset := HS.out.1 it (List.mem_of_getElem? hit)
        have hset' := HS.out.2 it' (List.mem_of_getElem? hit')
        have hcap : n ≤ cap := by have := HN.out.1; omega
        have hcap' : n ≤ cap' := by have := HN.out.2; omega
        have m0 := (HB.out.cell (p := ⟨b, off + k * 3, none⟩) hlt).trans x0
        have m1 := (HB.out.cell (p := ⟨b, off + k * 3 + 1, none⟩) hlt).trans x1
        have m2 := (HB.out.cell (p := ⟨b, off + k * 3 + 2, none⟩) hlt).trans x2
        have n0 := (HB.out.cell (p := ⟨b', off' + k * 3, none⟩) hlt').trans y0
        have n1 := (HB.out.cell (p := ⟨b', off' + k * 3 + 1, none⟩) hlt').trans y1
        have n2 := (HB.out.cell (p := ⟨b', off' + k * 3 + 2, none⟩) hlt').trans y2
        have HA := Lib.hid (And.intro hA hA')
        have HX := Lib.hid (And.intro x2 y2)
        have tk1 : (0 : Int) ≤ k := by omega
        have NO := Lib.hid (show it ≠ it' → R = false from fun hne => by
          rw [HR.out]
          exact decide_eq_false (fun e => hne (by rw [e, hit'] at hit; exact (Option.some.inj hit).symm)))
        have HIT := Lib.hid (And.intro hit hit')
        clear x0 x1 x2 xs y0 y1 y2 ys hA hA' hit hit' hcp hcp'
        obtain ⟨any, neg, set⟩ := it
        obtain ⟨any', neg', set'⟩ := it'
        dsimp only at m0 m1 m2 n0 n1 n2 HA HX hset hset'
        by_cases ha : any = any'
        · subst ha
          by_cases hb : neg = neg'
          · subst hb
            by_cases hlen : set.length = set'.length
            · have db1 : (any != any) = false := by simp
              have db2 : (neg != neg) = false := by simp
              obtain ⟨sl, hsl⟩ : ∃ sl, sl = set.length := ⟨_, rfl⟩
              rw [← hlen, ← hsl] at n2 HX
              rw [← hsl] at m2 hset
              have HSL := Lib.hid (And.intro hsl (hsl.trans hlen))
              clear hlen hset' hsl
              go_wp2_with fail
              go_quiet (fail)
              go_wp2_with fail
              obtain ⟨g1, hg1⟩ : ∃ g1, g1 = gk := ⟨_, rfl⟩
              have HBn := Lib.hid (below_drewN HB.out nq)
              clear m0 m1 m2 n0 n1 n2 HB db1 db2
              go_loopg [6] sl (fun g i wr => ∃ j : Nat, j + g = sl ∧ i = .int .i64 j ∧ Hid (∀ (i : Nat) a b, i < j → set[i]? = some a → set'[i]? = some b → a = b) ∧ Hid (Below w.heap.size w wr))
              case atStart => exact ⟨0, by omega, rfl, Lib.hid (fun i a b hi => by omega), HBn⟩
              case round =>
                obtain ⟨j, hj, rfl, HE2, HB⟩ := hrel
                have m2 := (HB.out.cell (p := ⟨b, off + k * 3 + 2, none⟩) hlt).trans HX.out.1
                have n2 := (HB.out.cell (p := ⟨b', off' + k * 3 + 2, none⟩) hlt').trans HX.out.2
                have tj1 : (0 : Int) ≤ j := by omega
                rcases Nat.eq_zero_or_pos gk with h00 | h00
                · have hjm : j = sl := by omega
                  subst hjm
                  have HE3 := Lib.hid (show ∀ (i : Nat) a b, i < k + 1 → l[i]? = some a → l'[i]? = some b → a = b from fun i a b hi h1 h2 => by
                    rcases Nat.lt_or_ge i k with hik | hik
                    · exact HE.out i a b hik h1 h2
                    · obtain rfl : i = k := by omega
                      rw [HIT.out.1] at h1
                      rw [HIT.out.2] at h2
                      obtain rfl := Option.some.inj h1
                      obtain rfl := Option.some.inj h2
                      have : set = set' := list_ext9 HSL.out.1.symm HSL.out.2.symm fun i a b ha hb => HE2.out i a b (by have := (List.getElem?_eq_some_iff.1 ha).1; have := HSL.out.1; omega) ha hb
                      rw [this])
                  go_wp2_with fail
                  go_roundg (g1 - 1)
                  case measure => omega
                  case rel => exact ⟨k + 1, by omega, by go_num, HE3, HB⟩
                · have hjm : (j : Int) < sl := by omega
                  obtain ⟨c, hc⟩ : ∃ c, set[j]? = some c := ⟨_, List.getElem?_eq_getElem (by have := HSL.out.1; omega)⟩
                  obtain ⟨c', hc'⟩ : ∃ c, set'[j]? = some c := ⟨_, List.getElem?_eq_getElem (by have := HSL.out.2; omega)⟩
                  obtain ⟨q, o, rfl, hq, hqc, cq⟩ := HA.out.1 j c hc
                  obtain ⟨q', o', rfl, hq', hqc', cq'⟩ := HA.out.2 j c' hc'
                  have hqs : sl ≤ cp := by have := HSL.out.1; omega
                  have hqs' : sl ≤ cp' := by have := HSL.out.2; omega
                  have p2 := (HB.out.cell (p := ⟨q, o + j, none⟩) hq).trans cq
                  have r2 := (HB.out.cell (p := ⟨q', o' + j, none⟩) hq').trans cq'
                  have HC2 := Lib.hid (And.intro hc hc')
                  clear cq cq' hc hc' hqc hqc'
                  by_cases hcc : c = c'
                  · subst hcc
                    have dc : (c != c) = false := by simp
                    have HE4 := Lib.hid (show ∀ (i : Nat) a b, i < j + 1 → set[i]? = some a → set'[i]? = some b → a = b from fun i a b hi h1 h2 => by
                      rcases Nat.lt_or_ge i j with hij | hij
                      · exact HE2.out i a b hij h1 h2
                      · obtain rfl : i = j := by omega
                        rw [HC2.out.1] at h1
                        rw [HC2.out.2] at h2
                        exact (Option.some.inj h1).symm.trans (Option.some.inj h2))
                    go_wp2_with fail
                    go_quiet (fail)
                    go_wp2_with fail
                    go_roundg (gk - 1)
                    case measure => omega
                    case rel => exact ⟨j + 1, by omega, by go_num, HE4, Lib.hid (below_drewN HB.out _)⟩
                  · have dc : (c != c') = true := by simpa using hcc
                    have hR0 : R = false := NO.out (fun e => hcc (by
                      have e1 : set = set' := by injection e
                      have h1 := HC2.out.1
                      rw [e1, HC2.out.2] at h1
                      exact (Option.some.inj h1).symm))
                    subst hR0
                    clear hcc
                    go_wp2_with fail
                    go_quiet (fail)
                    go_wp2_with fail
                    go_ret
                    exact ⟨rfl, below_drewN HB.out _⟩
            · have hR0 : R = false := NO.out (fun e => hlen (by injection e with _ _ e3; rw [e3]))
              subst hR0
              have db1 : (any != any) = false := by simp
              have db2 : (neg != neg) = false := by simp
              have dl : (((set.length : Nat) : Int) != ((set'.length : Nat) : Int)) = true := by rw [bne_iff_ne]; omega
              clear hlen
              go_wp2_with fail
              go_quiet (fail)
              go_wp2_with fail
              go_ret
              exact ⟨rfl, below_drewN HB.out _⟩
          · have hR0 : R = false := NO.out (fun e => hb (by injection e))
            subst hR0
            have db1 : (any != any) = false := by simp
            have db2 : (neg == neg') = false := by rw [beq_eq_false_iff_ne]; exact hb
            clear hb
            go_wp2_with fail
            go_quiet (fail)
            go_wp2_with fail
            go_ret
            exact ⟨rfl, below_drewN HB.out _⟩
        · have hR0 : R = false := NO.out (fun e => ha (by injection e))
          subst hR0
          have db1 : (any == any') = false := by rw [beq_eq_false_iff_ne]; exact ha
          clear ha
          go_wp2_with fail
          go_quiet (fail)
          go_wp2_with fail
          go_ret
          exact ⟨rfl, below_drewN HB.out _⟩
  · have hR0 : R = false := by
      rw [hR]
      exact decide_eq_false (fun e => hne (by rw [hn, hn', e]))
    subst hR0
    have dl : ((n : Int) != (n' : Int)) = true := by rw [bne_iff_ne]; omega
    clear hc hc' hn hn' hs hs' h h' hR hne
    go_enter Tryz.func37, Tryz.ntmps37
    go_wp2_with fail
    go_ret
    exact ⟨rfl, Below.refl _ _⟩
end Go.Proofs.YteenleedonmkmaaGreatDoor
