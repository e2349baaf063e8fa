/- The landed alike, slices.EqualFunc over it. -/
import Derived.Test.YtmadlappalhmlaaDoorYState
import Derived.Test.YtmadlappalhmlaaDoorORows
namespace Go.Proofs.YtmadlappalhmlaaDoor
open Go Go.RowKit Go.Lib

theorem gba_beq (a b : ByteArray) : (a.toList == b.toList) = decide (a = b) := by
  rw [Bool.eq_iff_iff, beq_iff_eq, decide_eq_true_eq, ByteArray.toList_eq, ByteArray.toList_eq]
  constructor
  · intro h
    cases a; cases b
    simp only [ByteArray.mk.injEq]
    exact Array.toList_inj.1 h
  · intro h; rw [h]
set_option maxRecDepth 100000 in
set_option maxHeartbeats 2000000 in
theorem galike_any (w : World) (x x' : En) (sv sv' : Value) (h : IntsAt w sv x.flags) (h' : IntsAt w sv' x'.flags) :
    Calls Tryd.prog 26 #[.agg #[.string x.word, sv], .agg #[.string x'.word, sv']] w fun e w' => e = .returned (.bool (decide (x = x'))) ∧ Below w.heap.size w w' := by
  have E := Lib.hid fun wx (hb : Below w.heap.size w wx) => equal_any wx sv sv' x.flags x'.flags (h.keep hb) (h'.keep hb)
  obtain ⟨A, cap, rfl, -⟩ := ints_open h
  obtain ⟨A', cap', rfl, -⟩ := ints_open h'
  clear h h'
  have hb0 := (Below.refl w.heap.size w).alloc (Nat.le_refl _) (.cells #[.string x.word, .slice A x.flags.length cap] 43)
  have HB := Lib.hid (hb0.alloc hb0.size (.cells #[.string x'.word, .slice A' x'.flags.length cap'] 43))
  clear hb0
  obtain ⟨word, set⟩ := x
  obtain ⟨word', set'⟩ := x'
  dsimp only at E HB ⊢
  have hs := gba_beq word word'
  by_cases ha : word = word'
  · subst ha
    have hd : decide ((⟨word, set⟩ : En) = ⟨word, set'⟩) = decide (set = set') := by
      rw [Bool.eq_iff_iff]; simp
    rw [hd]
    have d1 : (word.toList == word.toList) = true := by simp
    clear hd hs
    go_enter Tryd.func26, Tryd.ntmps26
    go_wp2_with (go_at_call 36; refine (E.out _ HB.out).mono ?_; rintro e w2 ⟨rfl, hb2⟩; have HB2 := Lib.hid (HB.out.trans (hb2.mono HB.out.size)); clear hb2)
    go_ret
    exact ⟨rfl, HB2.out⟩
  · have hd : decide ((⟨word, set⟩ : En) = ⟨word', set'⟩) = false := decide_eq_false (fun e => ha (by injection e))
    rw [hd]
    have d1 : (word.toList == word'.toList) = false := by rw [hs]; exact decide_eq_false ha
    clear hd ha hs E
    go_enter Tryd.func26, Tryd.ntmps26
    go_wp2_with fail
    go_ret
    exact ⟨rfl, HB.out⟩

theorem ents_bd {w : World} {v : Value} {l : List En} (h : EntsAt w v l) : l.length ≤ 9223372036854775807 := by
  rcases h with ⟨rfl, _⟩ | ⟨b, off, cap, rfl, h1, h2, h3, h4⟩
  · exact Nat.zero_le _
  · unfold maxLen at h3; omega
theorem ents_openO {w : World} {v : Value} {l : List En} (h : EntsAt w v l) : ∃ A cap, v = .slice A l.length cap ∧ ∀ (i : Nat) x, l[i]? = some x → ∃ q o, A = some ⟨q, o, none⟩ ∧ q < w.heap.size ∧ l.length ≤ cap ∧ w.cell? ⟨q, o + i * 2, none⟩ = some (.string x.word) ∧ ∃ B n cp, w.cell? ⟨q, o + i * 2 + 1, none⟩ = some (.slice B n cp) ∧ IntsAt w (.slice B n cp) x.flags := by
  obtain ⟨rfl, a, cap, rfl⟩ | ⟨b, off, cap, rfl, hlt, hcap, hm, hc⟩ := h
  · exact ⟨a, cap, rfl, fun i c hi => by simp at hi⟩
  · refine ⟨_, cap, rfl, fun i x hi => ?_⟩
    obtain ⟨k1, A, cp, k3, k4⟩ := hc i x hi
    exact ⟨b, off, rfl, hlt, hcap, k1, A, _, cp, k3, k4⟩

set_option maxRecDepth 100000 in
set_option maxHeartbeats 4000000 in
theorem gequal_any (w : World) (v v' : Value) (l l' : List En) (h : EntsAt w v l) (h' : EntsAt w v' l') :
    Calls Tryd.prog 25 #[v, v', .func (.func 26) #[] #[]] w fun e w' => e = .returned (.bool (decide (l = l'))) ∧ Below w.heap.size w w' := by
  have hbig := ents_bd h
  obtain ⟨A, cap, rfl, hA⟩ := ents_openO h
  obtain ⟨A', cap', rfl, hA'⟩ := ents_openO h'
  have HA := Lib.hid hA
  have HA' := Lib.hid hA'
  clear hA hA' h h'
  by_cases hne : l.length = l'.length
  · obtain ⟨n, hn⟩ : ∃ n, n = l.length := ⟨_, rfl⟩
    rw [← hne, ← hn]
    rw [← hn] at hbig
    have HN := Lib.hid (And.intro hn hne)
    clear hn hne
    go_enter Tryd.func25, Tryd.ntmps25
    go_wp2
    go_loopg [7, 8, 9, 17] n (fun g _ _ _ i wr => ∃ k : Nat, k + g = n ∧ i = .int .i64 k ∧ Hid (Below w.heap.size w wr) ∧ Hid (∀ j, j < k → l[j]? = l'[j]?))
    case atStart => exact ⟨0, by omega, rfl, Lib.hid (Below.refl _ _), Lib.hid fun j hj => absurd hj (Nat.not_lt_zero _)⟩
    case round =>
      obtain ⟨k, hk, rfl, HB, HP⟩ := hrel
      rcases Nat.eq_zero_or_pos gk with h0 | h0
      · have hkn : k = n := by omega
        subst hkn
        go_wp2
        go_ret
        have he : l = l' := by
          apply List.ext_getElem?
          intro j
          rcases Nat.lt_or_ge j k with hjk | hjk
          · exact HP.out j hjk
          · have h1 := HN.out
            rw [List.getElem?_eq_none (by omega), List.getElem?_eq_none (by omega)]
        exact ⟨ret_bool (decide_eq_true he).symm, HB.out⟩
      · have hkn : (k : Int) < n := by omega
        obtain ⟨c, hc⟩ : ∃ c, l[k]? = some c := ⟨_, List.getElem?_eq_getElem (by have := HN.out; omega)⟩
        obtain ⟨d, hd⟩ : ∃ d, l'[k]? = some d := ⟨_, List.getElem?_eq_getElem (by have := HN.out; omega)⟩
        obtain ⟨q, o, rfl, hq, -, m0, a, m, cp, m2, hs⟩ := HA.out k c hc
        obtain ⟨q', o', rfl, hq', -, n0, a', m', cp', n2, hs'⟩ := HA'.out k d hd
        have p0 := (HB.out.cell (p := ⟨q, o + k * 2, none⟩) hq).trans m0
        have p2 := (HB.out.cell (p := ⟨q, o + k * 2 + 1, none⟩) hq).trans m2
        have hq2 : q' < wr.heap.size := Nat.lt_of_lt_of_le hq' HB.out.size
        have r0 := (HB.out.cell (p := ⟨q', o' + k * 2, none⟩) hq').trans n0
        have r2 := (HB.out.cell (p := ⟨q', o' + k * 2 + 1, none⟩) hq').trans n2
        have tk1 : (0 : Int) ≤ k := by omega
        have HC := Lib.hid (And.intro hc hd)
        have C := Lib.hid fun wx (hb : Below wr.heap.size wr wx) => galike_any wx c d (.slice a m cp) (.slice a' m' cp') ((hs.keep HB.out).keep hb) ((hs'.keep HB.out).keep hb)
        clear m0 m2 n0 n2 hc hd hs hs'
        have hb0 := (Below.refl wr.heap.size wr).alloc (Nat.le_refl _) (.cells #[.string c.word, .slice a m cp] 43)
        have HB2 := Lib.hid (hb0.alloc hb0.size (.cells #[.string d.word, .slice a' m' cp'] 43))
        clear hb0
        go_wp2_with (go_at_call 26; refine (C.out _ HB2.out).mono ?_)
        rintro e w2 ⟨rfl, hb2⟩
        have HB3 := Lib.hid (HB.out.trans ((HB2.out.trans (hb2.mono HB2.out.size)).mono HB.out.size))
        clear hb2
        by_cases hx : c = d
        · have hd : decide (c = d) = true := decide_eq_true hx
          have HX := Lib.hid hx
          clear hx
          rw [hd]
          clear hd
          go_wp2_with fail
          go_roundg (gk - 1)
          case measure => omega
          case rel =>
            refine ⟨k + 1, by omega, by go_num, HB3, Lib.hid fun j hj => ?_⟩
            rcases Nat.lt_or_ge j k with hjk | hjk
            · exact HP.out j hjk
            · obtain rfl : j = k := by omega
              rw [HC.out.1, HC.out.2, HX.out]
        · have he : ¬ l = l' := fun e => by
            have h1 := HC.out
            rw [e] at h1
            exact hx (Option.some.inj (h1.1.symm.trans h1.2))
          have HE := Lib.hid he
          have hd : decide (c = d) = false := decide_eq_false hx
          rw [hd]
          clear hx he hd
          go_wp2_with fail
          go_ret
          exact ⟨ret_bool (decide_eq_false HE.out).symm, HB3.out⟩
  · have he : ¬ l = l' := fun e => hne (by rw [e])
    rw [decide_eq_false he]
    have hn1 : ¬ ((l.length : Int) = l'.length) := by omega
    clear he
    go_enter Tryd.func25, Tryd.ntmps25
    go_wp2
    go_ret
    exact ⟨rfl, Below.refl _ _⟩
end Go.Proofs.YtmadlappalhmlaaDoor
