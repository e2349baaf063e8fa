/- The document's Same of chapter 12, by contract: whatever entries. -/
import Derived.Test.YtmadlappalhmlaaDoorYLaws
import Derived.Test.YtmadlappalhmlaaDoorORows
import Derived.BigQuiet
namespace Go.Proofs.YtmadlappalhmlaaDoor
open Go Go.RowKit Go.Lib

theorem en_ext {a b : En} (h1 : a.word = b.word) (h3 : a.flags = b.flags) : a = b := by
  obtain ⟨_, _⟩ := a
  obtain ⟨_, _⟩ := b
  simp only at h1 h3
  subst h1 h3
  rfl
theorem list_ext12 {α : Type} {l l' : List α} {n : Nat} (h1 : l.length = n) (h2 : l'.length = n) (h : ∀ (i : Nat) (a b : α), l[i]? = some a → l'[i]? = some b → a = b) : l = l' := by
  apply List.ext_getElem?
  intro i
  by_cases hi : i < n
  · have e1 : l[i]? = some l[i] := List.getElem?_eq_getElem (by omega)
    have e2 : l'[i]? = some l'[i] := List.getElem?_eq_getElem (by omega)
    rw [e1, e2, h i _ _ e1 e2]
  · rw [List.getElem?_eq_none (by omega), List.getElem?_eq_none (by omega)]
theorem ba_beqY (a b : ByteArray) : (a.toList == b.toList) = decide (a = b) := by
  rw [Bool.eq_iff_iff, beq_iff_eq, decide_eq_true_eq, ByteArray.toList_eq, ByteArray.toList_eq]
  constructor
  · intro h
    cases a; cases b
    simp only [ByteArray.mk.injEq]
    exact Array.toList_inj.1 h
  · intro h; rw [h]

set_option maxRecDepth 100000 in
set_option maxHeartbeats 4000000 in
theorem esame_any (w : World) (v v' : Value) (l l' : List En) (h : EntsAt w v l) (h' : EntsAt w v' l') :
    Calls Tryd.prog 12 #[v, v'] w fun e w' => e = .returned (.bool (decide (l = l'))) ∧ Below w.heap.size w w' := by
  obtain ⟨A, cap, rfl⟩ := ents_form h
  obtain ⟨A', cap', rfl⟩ := ents_form h'
  have hl := h.bd.1
  have hl' := h'.bd.1
  have hc := ents_open h
  have hc' := ents_open h'
  unfold maxLen at hl hl'
  obtain ⟨n, hn⟩ : ∃ n, n = l.length := ⟨_, rfl⟩
  obtain ⟨n', hn'⟩ : ∃ n, n = l'.length := ⟨_, rfl⟩
  rw [← hn] at hl hc ⊢
  rw [← hn'] at hl' hc' ⊢
  obtain ⟨R, hR⟩ : ∃ R, R = decide (l = l') := ⟨_, rfl⟩
  rw [← hR]
  by_cases hne : n = n'
  · subst hne
    have HC := Lib.hid (And.intro hc hc')
    have HN := Lib.hid (And.intro hn hn')
    have HR := Lib.hid hR
    clear hc hc' hn hn' h h' hR
    go_enter Tryd.func12, Tryd.ntmps12
    go_wp2
    go_loopg [5] n (fun g i wr => ∃ k : Nat, k + g = n ∧ i = .int .i64 k ∧ Hid (∀ (i : Nat) a b, i < k → l[i]? = some a → l'[i]? = some b → a = b) ∧ Hid (Below w.heap.size w wr))
    case atStart => exact ⟨0, by omega, rfl, Lib.hid (fun i a b hi => by omega), Lib.hid (Below.refl _ _)⟩
    case round =>
      obtain ⟨k, hk, rfl, HE, HB⟩ := hrel
      rcases Nat.eq_zero_or_pos gk with h0 | h0
      · have hkn : k = n := by omega
        subst hkn
        have hR1 : R = true := by
          rw [HR.out]
          exact decide_eq_true (list_ext12 HN.out.1.symm HN.out.2.symm fun i a b ha hb => HE.out i a b (by have := (List.getElem?_eq_some_iff.1 ha).1; have := HN.out.1; omega) ha hb)
        subst hR1
        go_wp2
        go_ret
        exact ⟨rfl, HB.out⟩
      · have hkn : (k : Int) < n := by omega
        obtain ⟨it, hit⟩ : ∃ it, l[k]? = some it := ⟨_, List.getElem?_eq_getElem (by have := HN.out.1; omega)⟩
        obtain ⟨it', hit'⟩ : ∃ it, l'[k]? = some it := ⟨_, List.getElem?_eq_getElem (by have := HN.out.2; omega)⟩
        obtain ⟨b, off, rfl, hlt, hcp, x0, SA, cp, x2, xs⟩ := HC.out.1 k it hit
        obtain ⟨b', off', rfl, hlt', hcp', y0, SA', cp', y2, ys⟩ := HC.out.2 k it' hit'
        have hset := ints_bd xs
        have hset' := ints_bd ys
        obtain ⟨SX, cx, ex, hA⟩ := ints_open xs
        injection ex with e1 e2 e3
        subst e1 e3
        obtain ⟨SX', cx', ex', hA'⟩ := ints_open ys
        injection ex' with e1 e2 e3
        subst e1 e3
        have m0 := (HB.out.cell (p := ⟨b, off + k * 2, none⟩) hlt).trans x0
        have m2 := (HB.out.cell (p := ⟨b, off + k * 2 + 1, none⟩) hlt).trans x2
        have n0 := (HB.out.cell (p := ⟨b', off' + k * 2, none⟩) hlt').trans y0
        have n2 := (HB.out.cell (p := ⟨b', off' + k * 2 + 1, none⟩) hlt').trans y2
        have HA := Lib.hid (And.intro hA hA')
        have HX := Lib.hid (And.intro x2 y2)
        have tk1 : (0 : Int) ≤ k := by omega
        have NO := Lib.hid (show it ≠ it' → R = false from fun hne => by
          rw [HR.out]
          exact decide_eq_false (fun e => hne (by rw [e, hit'] at hit; exact (Option.some.inj hit).symm)))
        have HIT := Lib.hid (And.intro hit hit')
        clear x0 x2 xs y0 y2 ys hA hA' hit hit' e2
        obtain ⟨word, set⟩ := it
        obtain ⟨word', set'⟩ := it'
        dsimp only at m0 m2 n0 n2 HA HX hset hset'
        have hs := ba_beqY word word'
        by_cases ha : word = word'
        · subst ha
          have db1 : (word.toList == word.toList) = true := by simp
          clear hs
          by_cases hlen : set.length = set'.length
          · obtain ⟨sl, hsl⟩ : ∃ sl, sl = set.length := ⟨_, rfl⟩
            rw [← hlen, ← hsl] at n2 HX
            rw [← hsl] at m2 hset
            have HSL := Lib.hid (And.intro hsl (hsl.trans hlen))
            clear hlen hset' hsl
            go_wp2_with fail
            go_quiet (fail)
            go_wp2_with fail
            obtain ⟨g1, hg1⟩ : ∃ g1, g1 = gk := ⟨_, rfl⟩
            have HBn := Lib.hid (below_drewN HB.out nq)
            clear m0 m2 n0 n2 HB db1
            go_loopg [6] sl (fun g i wr => ∃ j : Nat, j + g = sl ∧ i = .int .i64 j ∧ Hid (∀ (i : Nat) a b, i < j → set[i]? = some a → set'[i]? = some b → a = b) ∧ Hid (Below w.heap.size w wr))
            case atStart => exact ⟨0, by omega, rfl, Lib.hid (fun i a b hi => by omega), HBn⟩
            case round =>
              obtain ⟨j, hj, rfl, HE2, HB⟩ := hrel
              have m2 := (HB.out.cell (p := ⟨b, off + k * 2 + 1, none⟩) hlt).trans HX.out.1
              have n2 := (HB.out.cell (p := ⟨b', off' + k * 2 + 1, none⟩) hlt').trans HX.out.2
              have tj1 : (0 : Int) ≤ j := by omega
              rcases Nat.eq_zero_or_pos gk with h00 | h00
              · have hjm : j = sl := by omega
                subst hjm
                have HE3 := Lib.hid (show ∀ (i : Nat) a b, i < k + 1 → l[i]? = some a → l'[i]? = some b → a = b from fun i a b hi h1 h2 => by
                  rcases Nat.lt_or_ge i k with hik | hik
                  · exact HE.out i a b hik h1 h2
                  · obtain rfl : i = k := by omega
                    rw [HIT.out.1] at h1
                    rw [HIT.out.2] at h2
                    obtain rfl := Option.some.inj h1
                    obtain rfl := Option.some.inj h2
                    have : set = set' := list_ext12 HSL.out.1.symm HSL.out.2.symm fun i a b ha hb => HE2.out i a b (by have := (List.getElem?_eq_some_iff.1 ha).1; have := HSL.out.1; omega) ha hb
                    rw [this])
                go_wp2_with fail
                go_roundg (g1 - 1)
                case measure => omega
                case rel => exact ⟨k + 1, by omega, by go_num, HE3, HB⟩
              · have hjm : (j : Int) < sl := by omega
                obtain ⟨c, hc⟩ : ∃ c, set[j]? = some c := ⟨_, List.getElem?_eq_getElem (by have := HSL.out.1; omega)⟩
                obtain ⟨c', hc'⟩ : ∃ c, set'[j]? = some c := ⟨_, List.getElem?_eq_getElem (by have := HSL.out.2; omega)⟩
                obtain ⟨q, o, rfl, hq, hqc, cq⟩ := HA.out.1 j c hc
                obtain ⟨q', o', rfl, hq', hqc', cq'⟩ := HA.out.2 j c' hc'
                have hqs : sl ≤ cp := by have := HSL.out.1; omega
                have hqs' : sl ≤ cp' := by have := HSL.out.2; omega
                have p2 := (HB.out.cell (p := ⟨q, o + j, none⟩) hq).trans cq
                have r2 := (HB.out.cell (p := ⟨q', o' + j, none⟩) hq').trans cq'
                have HC2 := Lib.hid (And.intro hc hc')
                clear cq cq' hc hc' hqc hqc'
                by_cases hcc : c = c'
                · subst hcc
                  have dc : (c != c) = false := by simp
                  have HE4 := Lib.hid (show ∀ (i : Nat) a b, i < j + 1 → set[i]? = some a → set'[i]? = some b → a = b from fun i a b hi h1 h2 => by
                    rcases Nat.lt_or_ge i j with hij | hij
                    · exact HE2.out i a b hij h1 h2
                    · obtain rfl : i = j := by omega
                      rw [HC2.out.1] at h1
                      rw [HC2.out.2] at h2
                      exact (Option.some.inj h1).symm.trans (Option.some.inj h2))
                  go_wp2_with fail
                  go_quiet (fail)
                  go_wp2_with fail
                  go_roundg (gk - 1)
                  case measure => omega
                  case rel => exact ⟨j + 1, by omega, by go_num, HE4, Lib.hid (below_drewN HB.out _)⟩
                · have dc : (c != c') = true := by simpa using hcc
                  have hR0 : R = false := NO.out (fun e => hcc (by
                    have e1 : set = set' := by injection e
                    have h1 := HC2.out.1
                    rw [e1, HC2.out.2] at h1
                    exact (Option.some.inj h1).symm))
                  subst hR0
                  clear hcc
                  go_wp2_with fail
                  go_quiet (fail)
                  go_wp2_with fail
                  go_ret
                  exact ⟨rfl, below_drewN HB.out _⟩
          · have hR0 : R = false := NO.out (fun e => hlen (by injection e with _ e3; rw [e3]))
            subst hR0
            have dl : (((set.length : Nat) : Int) != ((set'.length : Nat) : Int)) = true := by rw [bne_iff_ne]; omega
            clear hlen
            go_wp2_with fail
            go_quiet (fail)
            go_wp2_with fail
            go_ret
            exact ⟨rfl, below_drewN HB.out _⟩
        · have hR0 : R = false := NO.out (fun e => ha (by injection e))
          subst hR0
          have db1 : (word.toList == word'.toList) = false := by rw [hs]; exact decide_eq_false ha
          clear ha hs
          go_wp2_with fail
          go_quiet (fail)
          go_wp2_with fail
          go_ret
          exact ⟨rfl, below_drewN HB.out _⟩
  · have hR0 : R = false := by
      rw [hR]
      exact decide_eq_false (fun e => hne (by rw [hn, hn', e]))
    subst hR0
    have dl : ((n : Int) != (n' : Int)) = true := by rw [bne_iff_ne]; omega
    clear hc hc' hn hn' h h' hR hne
    go_enter Tryd.func12, Tryd.ntmps12
    go_wp2_with fail
    go_ret
    exact ⟨rfl, Below.refl _ _⟩
end Go.Proofs.YtmadlappalhmlaaDoor
