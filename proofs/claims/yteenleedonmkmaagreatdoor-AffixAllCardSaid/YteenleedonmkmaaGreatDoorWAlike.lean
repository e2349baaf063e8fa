/- The landed alike by contract: rules by their texts, pairs. -/
import Derived.Test.YteenleedonmkmaaGreatDoorMPlain
import Derived.Test.YteenleedonmkmaaGreatDoorVSame
import Derived.Test.YteenleedonmkmaaGreatDoorMFirst
import Derived.Test.YteenleedonmkmaaGreatDoorRText
import Derived.Deep.RegionHeld3
namespace Go.Proofs.YteenleedonmkmaaGreatDoor
open Go Go.RowKit Go.Lib

theorem str_eqB (a b : ByteArray) : (a.toList == b.toList) = decide (a = b) := by
  rw [ByteArray.toList_eq, ByteArray.toList_eq]
  by_cases h : a = b
  · subst h; simp
  · rw [decide_eq_false h, beq_eq_false_iff_ne]
    intro e
    exact h (ByteArray.ext (Array.toList_inj.1 e))
theorem box6n {w : World} {a b c d e f : Value} {t : TypeId} : (w.alloc (.cells #[a, b, c, d, e, f] t)).heap[w.heap.size]? = some (.cells #[a, b, c, d, e, f] t (0, 0)) := World.alloc_heap_new w _
theorem six_at {w w' : World} {q : Nat} {a b c d e f : Value} {t : TypeId} (h : w.heap[q]? = some (.cells #[a, b, c, d, e, f] t (0, 0))) (hb : Below w.heap.size w w') :
    w'.cell? ⟨q, 0, none⟩ = some a ∧ w'.cell? ⟨q, 1, none⟩ = some b ∧ w'.cell? ⟨q, 2, none⟩ = some c ∧ w'.cell? ⟨q, 3, none⟩ = some d ∧ w'.cell? ⟨q, 4, none⟩ = some e ∧ w'.cell? ⟨q, 5, none⟩ = some f := by
  have h1 := (hb.block q (Array.getElem?_eq_some_iff.1 h).1).trans h
  refine ⟨?_, ?_, ?_, ?_, ?_, ?_⟩ <;> simp [World.cell?, h1]

set_option maxRecDepth 100000 in
set_option maxHeartbeats 1000000 in
theorem wlike1_any (w : World) (r r' : Ru) (A A' : Option Addr) (c c' : Nat) (h : ItemsAt w (.slice A r.cond.length c) r.cond) (h' : ItemsAt w (.slice A' r'.cond.length c') r'.cond) (hf : FitR r) (hf' : FitR r') (hT : Lib.Utf8Tabs 1 2 w) :
    Calls Tryz.prog 44 #[.agg #[.bool r.pre, .int .i64 r.flag, .bool r.cross, .string r.strip, .string r.add, .slice A r.cond.length c], .agg #[.bool r'.pre, .int .i64 r'.flag, .bool r'.cross, .string r'.strip, .string r'.add, .slice A' r'.cond.length c']] w fun e w' => e = .returned (.bool (decide (textR r = textR r'))) ∧ Below w.heap.size w w' := by
  obtain ⟨W1, hW1⟩ : ∃ W1, W1 = w.alloc (.cells #[.bool r.pre, .int .i64 r.flag, .bool r.cross, .string r.strip, .string r.add, .slice A r.cond.length c] 36) := ⟨_, rfl⟩
  have hx1 : W1.heap[w.heap.size]? = some (.cells #[.bool r.pre, .int .i64 r.flag, .bool r.cross, .string r.strip, .string r.add, .slice A r.cond.length c] 36 (0, 0)) := hW1 ▸ box6n
  have hb1 : Below w.heap.size w W1 := by rw [hW1]; exact (Below.refl _ _).alloc (Nat.le_refl _) _
  obtain ⟨W2, hW2⟩ : ∃ W2, W2 = W1.alloc (.cells #[.bool r'.pre, .int .i64 r'.flag, .bool r'.cross, .string r'.strip, .string r'.add, .slice A' r'.cond.length c'] 36) := ⟨_, rfl⟩
  have hb2 : Below W1.heap.size W1 W2 := by rw [hW2]; exact (Below.refl _ _).alloc (Nat.le_refl _) _
  have hx2 : W2.heap[W1.heap.size]? = some (.cells #[.bool r'.pre, .int .i64 r'.flag, .bool r'.cross, .string r'.strip, .string r'.add, .slice A' r'.cond.length c'] 36 (0, 0)) := hW2 ▸ box6n
  have hx1' := (hb2.block w.heap.size (Array.getElem?_eq_some_iff.1 hx1).1).trans hx1
  have hB := hb1.trans (hb2.mono hb1.size)
  have HB := Lib.hid hB
  have HX := Lib.hid (show ∀ wx, Below W2.heap.size W2 wx → _ from fun wx hb => And.intro (six_at hx1' hb) (six_at hx2 hb))
  have C1 := Lib.hid (fun wx (hb : Below W2.heap.size W2 wx) => rul_text_any wx _ r ⟨A, c, rfl, (h.keep hB).keep hb⟩ hf (tabs_below (tabs_below hT hB) hb))
  have C2 := Lib.hid (fun wx (hb : Below W2.heap.size W2 wx) => rul_text_any wx _ r' ⟨A', c', rfl, (h'.keep hB).keep hb⟩ hf' (tabs_below (tabs_below hT hB) hb))
  obtain ⟨T1, hT1⟩ : ∃ T, T = textR r := ⟨_, rfl⟩
  obtain ⟨T2, hT2⟩ : ∃ T, T = textR r' := ⟨_, rfl⟩
  rw [← hT1] at C1 ⊢
  rw [← hT2] at C2 ⊢
  obtain ⟨n, hn⟩ : ∃ n, n = r.cond.length := ⟨_, rfl⟩
  obtain ⟨n', hn'⟩ : ∃ n, n = r'.cond.length := ⟨_, rfl⟩
  have hq2 : W1.heap.size = w.heap.size + 1 := by rw [hW1]; exact World.size_alloc _ _
  rw [hq2] at HX
  have HW := Lib.hid (show W2 = (w.alloc (.cells #[.bool r.pre, .int .i64 r.flag, .bool r.cross, .string r.strip, .string r.add, .slice A n c] 36)).alloc (.cells #[.bool r'.pre, .int .i64 r'.flag, .bool r'.cross, .string r'.strip, .string r'.add, .slice A' n' c'] 36) by rw [hn, hn', hW2, hW1])
  rw [← hn] at C1 HX ⊢
  rw [← hn'] at C2 HX ⊢
  clear h h' hf hf' hT hx1 hb1 hW1 hb2 hx2 hx1' hB hW2 hT1 hT2 hn hn' hq2
  obtain ⟨p, f, x, s, a, l⟩ := r
  obtain ⟨p', f', x', s', a', l'⟩ := r'
  dsimp only at C1 C2 HX HW ⊢
  have HM := Lib.hid (show ∀ wx, Below W2.heap.size W2 wx → ((wx.cell? ⟨w.heap.size, 0, none⟩ = some (.bool p) ∧ wx.cell? ⟨w.heap.size, 1, none⟩ = some (.int .i64 f) ∧ wx.cell? ⟨w.heap.size, 2, none⟩ = some (.bool x) ∧ wx.cell? ⟨w.heap.size, 3, none⟩ = some (.string s) ∧ wx.cell? ⟨w.heap.size, 4, none⟩ = some (.string a) ∧ wx.cell? ⟨w.heap.size, 5, none⟩ = some (.slice A n c)) ∧ (wx.cell? ⟨w.heap.size + 1, 0, none⟩ = some (.bool p') ∧ wx.cell? ⟨w.heap.size + 1, 1, none⟩ = some (.int .i64 f') ∧ wx.cell? ⟨w.heap.size + 1, 2, none⟩ = some (.bool x') ∧ wx.cell? ⟨w.heap.size + 1, 3, none⟩ = some (.string s') ∧ wx.cell? ⟨w.heap.size + 1, 4, none⟩ = some (.string a') ∧ wx.cell? ⟨w.heap.size + 1, 5, none⟩ = some (.slice A' n' c')) ∧ Hid (Below W2.heap.size W2 wx)) from fun wx hb => ⟨(HX.out wx hb).1, (HX.out wx hb).2, Lib.hid hb⟩)
  have D1 := Lib.hid (show ∀ wx, ((wx.cell? ⟨w.heap.size, 0, none⟩ = some (.bool p) ∧ wx.cell? ⟨w.heap.size, 1, none⟩ = some (.int .i64 f) ∧ wx.cell? ⟨w.heap.size, 2, none⟩ = some (.bool x) ∧ wx.cell? ⟨w.heap.size, 3, none⟩ = some (.string s) ∧ wx.cell? ⟨w.heap.size, 4, none⟩ = some (.string a) ∧ wx.cell? ⟨w.heap.size, 5, none⟩ = some (.slice A n c)) ∧ (wx.cell? ⟨w.heap.size + 1, 0, none⟩ = some (.bool p') ∧ wx.cell? ⟨w.heap.size + 1, 1, none⟩ = some (.int .i64 f') ∧ wx.cell? ⟨w.heap.size + 1, 2, none⟩ = some (.bool x') ∧ wx.cell? ⟨w.heap.size + 1, 3, none⟩ = some (.string s') ∧ wx.cell? ⟨w.heap.size + 1, 4, none⟩ = some (.string a') ∧ wx.cell? ⟨w.heap.size + 1, 5, none⟩ = some (.slice A' n' c')) ∧ Hid (Below W2.heap.size W2 wx)) → Calls Tryz.prog 19 #[.agg #[.bool p, .int .i64 f, .bool x, .string s, .string a, .slice A n c]] wx fun e w' => e = .returned (.string T1) ∧ ((w'.cell? ⟨w.heap.size, 0, none⟩ = some (.bool p) ∧ w'.cell? ⟨w.heap.size, 1, none⟩ = some (.int .i64 f) ∧ w'.cell? ⟨w.heap.size, 2, none⟩ = some (.bool x) ∧ w'.cell? ⟨w.heap.size, 3, none⟩ = some (.string s) ∧ w'.cell? ⟨w.heap.size, 4, none⟩ = some (.string a) ∧ w'.cell? ⟨w.heap.size, 5, none⟩ = some (.slice A n c)) ∧ (w'.cell? ⟨w.heap.size + 1, 0, none⟩ = some (.bool p') ∧ w'.cell? ⟨w.heap.size + 1, 1, none⟩ = some (.int .i64 f') ∧ w'.cell? ⟨w.heap.size + 1, 2, none⟩ = some (.bool x') ∧ w'.cell? ⟨w.heap.size + 1, 3, none⟩ = some (.string s') ∧ w'.cell? ⟨w.heap.size + 1, 4, none⟩ = some (.string a') ∧ w'.cell? ⟨w.heap.size + 1, 5, none⟩ = some (.slice A' n' c')) ∧ Hid (Below W2.heap.size W2 w')) from fun wx hx => by
    refine (C1.out wx hx.2.2.out).mono ?_
    rintro e w' ⟨rfl, hb⟩
    exact ⟨rfl, HM.out w' (hx.2.2.out.trans (hb.mono hx.2.2.out.size))⟩)
  have D2 := Lib.hid (show ∀ wx, ((wx.cell? ⟨w.heap.size, 0, none⟩ = some (.bool p) ∧ wx.cell? ⟨w.heap.size, 1, none⟩ = some (.int .i64 f) ∧ wx.cell? ⟨w.heap.size, 2, none⟩ = some (.bool x) ∧ wx.cell? ⟨w.heap.size, 3, none⟩ = some (.string s) ∧ wx.cell? ⟨w.heap.size, 4, none⟩ = some (.string a) ∧ wx.cell? ⟨w.heap.size, 5, none⟩ = some (.slice A n c)) ∧ (wx.cell? ⟨w.heap.size + 1, 0, none⟩ = some (.bool p') ∧ wx.cell? ⟨w.heap.size + 1, 1, none⟩ = some (.int .i64 f') ∧ wx.cell? ⟨w.heap.size + 1, 2, none⟩ = some (.bool x') ∧ wx.cell? ⟨w.heap.size + 1, 3, none⟩ = some (.string s') ∧ wx.cell? ⟨w.heap.size + 1, 4, none⟩ = some (.string a') ∧ wx.cell? ⟨w.heap.size + 1, 5, none⟩ = some (.slice A' n' c')) ∧ Hid (Below W2.heap.size W2 wx)) → Calls Tryz.prog 19 #[.agg #[.bool p', .int .i64 f', .bool x', .string s', .string a', .slice A' n' c']] wx fun e w' => e = .returned (.string T2) ∧ ((w'.cell? ⟨w.heap.size, 0, none⟩ = some (.bool p) ∧ w'.cell? ⟨w.heap.size, 1, none⟩ = some (.int .i64 f) ∧ w'.cell? ⟨w.heap.size, 2, none⟩ = some (.bool x) ∧ w'.cell? ⟨w.heap.size, 3, none⟩ = some (.string s) ∧ w'.cell? ⟨w.heap.size, 4, none⟩ = some (.string a) ∧ w'.cell? ⟨w.heap.size, 5, none⟩ = some (.slice A n c)) ∧ (w'.cell? ⟨w.heap.size + 1, 0, none⟩ = some (.bool p') ∧ w'.cell? ⟨w.heap.size + 1, 1, none⟩ = some (.int .i64 f') ∧ w'.cell? ⟨w.heap.size + 1, 2, none⟩ = some (.bool x') ∧ w'.cell? ⟨w.heap.size + 1, 3, none⟩ = some (.string s') ∧ w'.cell? ⟨w.heap.size + 1, 4, none⟩ = some (.string a') ∧ w'.cell? ⟨w.heap.size + 1, 5, none⟩ = some (.slice A' n' c')) ∧ Hid (Below W2.heap.size W2 w')) from fun wx hx => by
    refine (C2.out wx hx.2.2.out).mono ?_
    rintro e w' ⟨rfl, hb⟩
    exact ⟨rfl, HM.out w' (hx.2.2.out.trans (hb.mono hx.2.2.out.size))⟩)
  have HS0 := Lib.hid (HM.out W2.drew (Below.refl _ _).drew)
  clear HX C1 C2
  go_enter Tryz.func44, Tryz.ntmps44
  go_upto_region 1 with fail
  rw [← HW.out]
  go_region_held3 (fun wx => ((wx.cell? ⟨w.heap.size, 0, none⟩ = some (.bool p) ∧ wx.cell? ⟨w.heap.size, 1, none⟩ = some (.int .i64 f) ∧ wx.cell? ⟨w.heap.size, 2, none⟩ = some (.bool x) ∧ wx.cell? ⟨w.heap.size, 3, none⟩ = some (.string s) ∧ wx.cell? ⟨w.heap.size, 4, none⟩ = some (.string a) ∧ wx.cell? ⟨w.heap.size, 5, none⟩ = some (.slice A n c)) ∧ (wx.cell? ⟨w.heap.size + 1, 0, none⟩ = some (.bool p') ∧ wx.cell? ⟨w.heap.size + 1, 1, none⟩ = some (.int .i64 f') ∧ wx.cell? ⟨w.heap.size + 1, 2, none⟩ = some (.bool x') ∧ wx.cell? ⟨w.heap.size + 1, 3, none⟩ = some (.string s') ∧ wx.cell? ⟨w.heap.size + 1, 4, none⟩ = some (.string a') ∧ wx.cell? ⟨w.heap.size + 1, 5, none⟩ = some (.slice A' n' c')) ∧ Hid (Below W2.heap.size W2 wx)))
    (first | exact HS0.out | assumption)
    (first
      | (go_at_call 19; have hz := hdone1; clear hz; refine (D2.out _ (by assumption)).mono ?_; rintro e w5 ⟨rfl, hs⟩)
      | (go_at_call 19; refine (D1.out _ (by assumption)).mono ?_; rintro e w5 ⟨rfl, hs⟩; have hdone1 : True := trivial))
  have HF := Lib.hid (show Below w.heap.size w w5 from HB.out.trans (hs.2.2.out.mono HB.out.size))
  clear hs
  go_wp2_with fail
  go_ret
  exact ⟨ret_bool (str_eqB T1 T2), HF.out⟩

theorem RuCells.items {w : World} {b o : Nat} {r : Ru} (h : RuCells w b o r) : ∃ A cap, w.cell? ⟨b, o, none⟩ = some (.bool r.pre) ∧ w.cell? ⟨b, o + 1, none⟩ = some (.int .i64 r.flag) ∧ w.cell? ⟨b, o + 2, none⟩ = some (.bool r.cross) ∧ w.cell? ⟨b, o + 3, none⟩ = some (.string r.strip) ∧ w.cell? ⟨b, o + 4, none⟩ = some (.string r.add) ∧ w.cell? ⟨b, o + 5, none⟩ = some (.slice A r.cond.length cap) ∧ ItemsAt w (.slice A r.cond.length cap) r.cond := by
  obtain ⟨h0, h1, h2, h3, h4, A, cap, h5, h6⟩ := h
  exact ⟨A, cap, h0, h1, h2, h3, h4, h5, h6⟩
theorem maps_ext {rs rs' : List Ru} (hn : rs.length = rs'.length) (h : ∀ j, j < rs.length → (rs[j]?).map textR = (rs'[j]?).map textR) : rs.map textR = rs'.map textR := by
  apply List.ext_getElem?
  intro j
  rw [List.getElem?_map, List.getElem?_map]
  rcases Nat.lt_or_ge j rs.length with hj | hj
  · exact h j hj
  · rw [List.getElem?_eq_none hj, List.getElem?_eq_none (by omega)]
theorem maps_not {rs rs' : List Ru} {k : Nat} {r r' : Ru} (h : rs[k]? = some r) (h' : rs'[k]? = some r') (hne : ¬ textR r = textR r') : ¬ rs.map textR = rs'.map textR := fun e => by
  have h1 := congrArg (fun l => l[k]?) e
  simp only [List.getElem?_map, h, h', Option.map_some] at h1
  exact hne (Option.some.inj h1)

set_option maxRecDepth 100000 in
set_option maxHeartbeats 1000000 in
theorem wer_any (w : World) (v v' : Value) (rs rs' : List Ru) (h : RulesAt w v rs) (h' : RulesAt w v' rs') (hf : ∀ r ∈ rs, FitR r) (hf' : ∀ r ∈ rs', FitR r) (hT : Lib.Utf8Tabs 1 2 w) :
    Calls Tryz.prog 45 #[v, v', .func (.func 44) #[] #[]] w fun e w' => e = .returned (.bool (decide (rs.map textR = rs'.map textR))) ∧ Below w.heap.size w w' := by
  obtain ⟨A, n, cA, rfl, hn⟩ : ∃ B m cB, v = .slice B m cB ∧ m = rs.length := by
    rcases h with ⟨rfl, a, c, rfl⟩ | ⟨b, off, c, rfl, _⟩
    · exact ⟨_, _, _, rfl, rfl⟩
    · exact ⟨_, _, _, rfl, rfl⟩
  obtain ⟨A', n', cA', rfl, hn'⟩ : ∃ B m cB, v' = .slice B m cB ∧ m = rs'.length := by
    rcases h' with ⟨rfl, a, c, rfl⟩ | ⟨b, off, c, rfl, _⟩
    · exact ⟨_, _, _, rfl, rfl⟩
    · exact ⟨_, _, _, rfl, rfl⟩
  have l1 := h.bd.1
  unfold maxLen at l1
  rw [← hn] at l1
  have HA := Lib.hid (rules_open h)
  have HA' := Lib.hid (rules_open h')
  have HI := Lib.hid (And.intro hf (And.intro hf' hT))
  have HN := Lib.hid (And.intro hn hn')
  clear h h' hf hf' hT hn hn'
  by_cases hnn : n = n'
  · subst hnn
    go_enter Tryz.func45, Tryz.ntmps45
    go_wp2_with fail
    go_loopg [7, 8, 9, 17] n (fun g _ _ _ i wr => ∃ k : Nat, k + g = n ∧ i = .int .i64 k ∧ Hid (Below w.heap.size w wr) ∧ Hid (∀ j, j < k → (rs[j]?).map textR = (rs'[j]?).map textR))
    case atStart => exact ⟨0, by omega, rfl, Lib.hid (Below.refl _ _), Lib.hid fun j hj => absurd hj (Nat.not_lt_zero _)⟩
    case round =>
      obtain ⟨k, hk, rfl, HB, HP⟩ := hrel
      have hk0 : (0 : Int) ≤ k := by omega
      rcases Nat.eq_zero_or_pos gk with h0 | h0
      · have hkm : ¬ (k : Int) < n := by omega
        have HE := Lib.hid (maps_ext (by have := HN.out.1; have := HN.out.2; omega) fun j hj => HP.out j (by have := HN.out.1; omega))
        go_wp2_with fail
        go_ret
        exact ⟨ret_bool (decide_eq_true HE.out).symm, HB.out⟩
      · have hkm : (k : Int) < n := by omega
        obtain ⟨r, hr⟩ : ∃ r, rs[k]? = some r := ⟨_, List.getElem?_eq_getElem (by have := HN.out.1; omega)⟩
        obtain ⟨r', hr'⟩ : ∃ r, rs'[k]? = some r := ⟨_, List.getElem?_eq_getElem (by have := HN.out.2; omega)⟩
        obtain ⟨b, off, rfl, hb, hc1, hRU⟩ := HA.out k r hr
        obtain ⟨b', off', rfl, hb', hc2, hRU'⟩ := HA'.out k r' hr'
        obtain ⟨D, dc, e0, e1, e2, e3, e4, e5, hat⟩ := (hRU.keep HB.out hb).items
        obtain ⟨D', dc', e0', e1', e2', e3', e4', e5', hat'⟩ := (hRU'.keep HB.out hb').items
        have hbr : b' < wr.heap.size := Nat.lt_of_lt_of_le hb' HB.out.size
        have hm1 : (n : Int) ≤ cA := by omega
        have hm2 : (n : Int) ≤ cA' := by omega
        have HRR := Lib.hid (And.intro hr hr')
        have C := Lib.hid fun wx (hx : Below wr.heap.size wr wx) => wlike1_any wx r r' D D' dc dc' (hat.keep hx) (hat'.keep hx) (HI.out.1 r (List.mem_of_getElem? hr)) (HI.out.2.1 r' (List.mem_of_getElem? hr')) (tabs_below (tabs_below HI.out.2.2 HB.out) hx)
        obtain ⟨dl, hdl⟩ : ∃ d, d = r.cond.length := ⟨_, rfl⟩
        obtain ⟨dl', hdl'⟩ : ∃ d, d = r'.cond.length := ⟨_, rfl⟩
        rw [← hdl] at e5 C
        rw [← hdl'] at e5' C
        have hb0 := (Below.refl wr.heap.size wr).alloc (Nat.le_refl _) (.cells #[.bool r.pre, .int .i64 r.flag, .bool r.cross, .string r.strip, .string r.add, .slice D dl dc] 36)
        have HB2 := Lib.hid (hb0.alloc hb0.size (.cells #[.bool r'.pre, .int .i64 r'.flag, .bool r'.cross, .string r'.strip, .string r'.add, .slice D' dl' dc'] 36))
        obtain ⟨T1, hT1⟩ : ∃ T, T = textR r := ⟨_, rfl⟩
        obtain ⟨T2, hT2⟩ : ∃ T, T = textR r' := ⟨_, rfl⟩
        rw [← hT1, ← hT2] at C
        have HT12 := Lib.hid (And.intro hT1 hT2)
        clear hRU hRU' hr hr' hat hat' hdl hdl' hb hb' hc1 hc2 hb0 hT1 hT2
        obtain ⟨p, f, x, s, a, l⟩ := r
        obtain ⟨p', f', x', s', a', l'⟩ := r'
        dsimp only at e0 e1 e2 e3 e4 e0' e1' e2' e3' e4' C HB2
        go_wp2_with (go_at_call 44; refine (C.out _ HB2.out).mono ?_)
        rintro e w2 ⟨rfl, hb2⟩
        have HB3 := Lib.hid (HB.out.trans ((HB2.out.trans (hb2.mono HB2.out.size)).mono HB.out.size))
        clear hb2 e0 e1 e2 e3 e4 e5 e0' e1' e2' e3' e4' e5' hbr C
        by_cases hx : T1 = T2
        · have hd : decide (T1 = T2) = true := decide_eq_true hx
          have HX := Lib.hid hx
          clear hx
          rw [hd]
          clear hd
          go_wp2_with fail
          go_roundg (gk - 1)
          case measure => omega
          case rel =>
            refine ⟨k + 1, by omega, by go_num, HB3, Lib.hid fun j hj => ?_⟩
            rcases Nat.lt_or_ge j k with hjk | hjk
            · exact HP.out j hjk
            · obtain rfl : j = k := by omega
              rw [HRR.out.1, HRR.out.2, Option.map_some, Option.map_some, ← HT12.out.1, ← HT12.out.2, HX.out]
        · have HE := Lib.hid (maps_not HRR.out.1 HRR.out.2 (by rw [← HT12.out.1, ← HT12.out.2]; exact hx))
          have hd : decide (T1 = T2) = false := decide_eq_false hx
          rw [hd]
          clear hx hd
          go_wp2_with fail
          go_ret
          exact ⟨ret_bool (decide_eq_false HE.out).symm, HB3.out⟩
  · have he : ¬ rs.map textR = rs'.map textR := fun e => by
      have := congrArg List.length e
      rw [List.length_map, List.length_map] at this
      exact hnn (by have := HN.out.1; have := HN.out.2; omega)
    rw [decide_eq_false he]
    have hn1 : ¬ ((n : Int) = n') := by omega
    clear he hnn
    go_enter Tryz.func45, Tryz.ntmps45
    go_wp2_with fail
    go_ret
    exact ⟨rfl, Below.refl _ _⟩

set_option maxRecDepth 100000 in
set_option maxHeartbeats 1000000 in
theorem wep_any (w : World) (v v' : Value) (ps ps' : List (Int × Int)) (h : PairsAt w v ps) (h' : PairsAt w v' ps') :
    Calls Tryz.prog 46 #[v, v'] w fun e w' => e = .returned (.bool (decide (ps = ps'))) ∧ Below w.heap.size w w' := by
  obtain ⟨B, m, cB, rfl, hm⟩ : ∃ B m cB, v = .slice B m cB ∧ m = ps.length := by
    rcases h with ⟨rfl, a, c, rfl⟩ | ⟨b, off, c, rfl, _⟩
    · exact ⟨_, _, _, rfl, rfl⟩
    · exact ⟨_, _, _, rfl, rfl⟩
  obtain ⟨B', m', cB', rfl, hm'⟩ : ∃ B m cB, v' = .slice B m cB ∧ m = ps'.length := by
    rcases h' with ⟨rfl, a, c, rfl⟩ | ⟨b, off, c, rfl, _⟩
    · exact ⟨_, _, _, rfl, rfl⟩
    · exact ⟨_, _, _, rfl, rfl⟩
  have l2 := h.bd.1
  unfold maxLen at l2
  rw [← hm] at l2
  have HP := Lib.hid (pairs_open h)
  have HP' := Lib.hid (pairs_open h')
  have HN := Lib.hid (And.intro hm hm')
  clear h h' hm hm'
  by_cases hnn : m = m'
  · subst hnn
    go_enter Tryz.func46, Tryz.ntmps46
    go_wp2_with fail
    go_loopg [5, 13] m (fun g _ i wr => ∃ q : Nat, q + g = m ∧ i = .int .i64 q ∧ Hid (Below w.heap.size w wr ∧ ∀ j, j < q → ps[j]? = ps'[j]?))
    case atStart => exact ⟨0, by omega, rfl, Lib.hid ⟨Below.refl _ _, fun j hj => absurd hj (Nat.not_lt_zero _)⟩⟩
    case round =>
      obtain ⟨q, hq, rfl, HQ⟩ := hrel
      have hq0 : (0 : Int) ≤ q := by omega
      rcases Nat.eq_zero_or_pos gk with h0 | h0
      · have hqm : ¬ (q : Int) < m := by omega
        have HS := Lib.hid (show ps = ps' from List.ext_getElem? fun j => by
          rcases Nat.lt_or_ge j q with hj | hj
          · exact HQ.out.2 j hj
          · rw [List.getElem?_eq_none (by have := HN.out.1; omega), List.getElem?_eq_none (by have := HN.out.2; omega)])
        go_wp2_with fail
        go_ret
        exact ⟨ret_bool (decide_eq_true HS.out).symm, HQ.out.1⟩
      · have hqm : (q : Int) < m := by omega
        obtain ⟨p, hp⟩ : ∃ p, ps[q]? = some p := ⟨_, List.getElem?_eq_getElem (by have := HN.out.1; omega)⟩
        obtain ⟨p', hp'⟩ : ∃ p, ps'[q]? = some p := ⟨_, List.getElem?_eq_getElem (by have := HN.out.2; omega)⟩
        obtain ⟨b, off, rfl, hb, hc1, e0, e1⟩ := HP.out q p hp
        obtain ⟨b', off', rfl, hb', hc2, e0', e1'⟩ := HP'.out q p' hp'
        have f0 := (HQ.out.1.cell (p := ⟨b, off + q * 2, none⟩) hb).trans e0
        have f1 := (HQ.out.1.cell (p := ⟨b, off + q * 2 + 1, none⟩) hb).trans e1
        have f0' := (HQ.out.1.cell (p := ⟨b', off' + q * 2, none⟩) hb').trans e0'
        have f1' := (HQ.out.1.cell (p := ⟨b', off' + q * 2 + 1, none⟩) hb').trans e1'
        have hm1 : (m : Int) ≤ cB := by omega
        have hm2 : (m : Int) ≤ cB' := by omega
        clear e0 e1 e0' e1' hc1 hc2 hb hb'
        obtain ⟨g1, g2⟩ := p
        obtain ⟨g1', g2'⟩ := p'
        dsimp only at f0 f1 f0' f1'
        by_cases h1 : g1 = g1' ∧ g2 = g2'
        · obtain ⟨rfl, rfl⟩ := h1
          have HQ2 := Lib.hid (show ∀ j, j < q + 1 → ps[j]? = ps'[j]? from fun j hj => by
            rcases Nat.lt_or_ge j q with h | h
            · exact HQ.out.2 j h
            · obtain rfl : j = q := by omega
              rw [hp, hp'])
          have d1 : (g1 == g1) = true := by simp
          have d2 : (g2 == g2) = true := by simp
          clear hp hp'
          go_upto_region 6 with fail
          go_quiet (fail)
          have HQ3 := Lib.hid (show Below w.heap.size w (wr.drewN nq) ∧ ∀ j, j < q + 1 → ps[j]? = ps'[j]? from ⟨below_drewN HQ.out.1 _, HQ2.out⟩)
          go_wp2_with fail
          go_roundg (gk - 1)
          case measure => omega
          case rel => exact ⟨q + 1, by omega, by go_num, HQ3⟩
        · have HD := Lib.hid (show ¬ ps = ps' from fun e => by
            rw [e, hp'] at hp
            have := Option.some.inj hp
            injection this with e2 e3
            exact h1 ⟨e2.symm, e3.symm⟩)
          clear hp hp'
          by_cases h2 : g1 = g1'
          · subst h2
            have d1 : (g1 == g1) = true := by simp
            have d2 : (g2 == g2') = false := by simpa using h1
            clear h1
            go_upto_region 6 with fail
            go_quiet (fail)
            go_wp2_with fail
            go_ret
            exact ⟨ret_bool (decide_eq_false HD.out).symm, below_drewN HQ.out.1 _⟩
          · have d1 : (g1 == g1') = false := by simpa using h2
            clear h1 h2
            cases d2 : (g2 == g2') with
            | true =>
              go_upto_region 6 with fail
              go_quiet (fail)
              go_wp2_with fail
              go_ret
              exact ⟨ret_bool (decide_eq_false HD.out).symm, below_drewN HQ.out.1 _⟩
            | false =>
              go_upto_region 6 with fail
              go_quiet (fail)
              go_wp2_with fail
              go_ret
              exact ⟨ret_bool (decide_eq_false HD.out).symm, below_drewN HQ.out.1 _⟩
  · have he : ¬ ps = ps' := fun e => hnn (by have := HN.out.1; have := HN.out.2; rw [e] at *; omega)
    rw [decide_eq_false he]
    have hn1 : ¬ ((m : Int) = m') := by omega
    clear he hnn
    go_enter Tryz.func46, Tryz.ntmps46
    go_wp2_with fail
    go_ret
    exact ⟨rfl, Below.refl _ _⟩

set_option maxRecDepth 100000 in
set_option maxHeartbeats 1000000 in
theorem walike_any (w : World) (v v' : Value) (a b : Af) (h : AffAt w v a) (h' : AffAt w v' b) (hf : ∀ r ∈ a.rules, FitR r) (hf' : ∀ r ∈ b.rules, FitR r) (hT : Lib.Utf8Tabs 1 2 w) :
    Calls Tryz.prog 22 #[v, v'] w fun e w' => e = .returned (.bool (decide (a.rules.map textR = b.rules.map textR ∧ a.pairs = b.pairs))) ∧ Below w.heap.size w w' := by
  obtain ⟨A, cA, B, cB, rfl, hA, hB⟩ := h
  obtain ⟨A', cA', B', cB', rfl, hA', hB'⟩ := h'
  obtain ⟨n, hn⟩ : ∃ n, n = a.rules.length := ⟨_, rfl⟩
  obtain ⟨m, hm⟩ : ∃ n, n = a.pairs.length := ⟨_, rfl⟩
  obtain ⟨n', hn'⟩ : ∃ n, n = b.rules.length := ⟨_, rfl⟩
  obtain ⟨m', hm'⟩ : ∃ n, n = b.pairs.length := ⟨_, rfl⟩
  rw [← hn] at hA ⊢
  rw [← hm] at hB ⊢
  rw [← hn'] at hA' ⊢
  rw [← hm'] at hB' ⊢
  obtain ⟨W0, hW0⟩ : ∃ W0, W0 = ((w.alloc (.cells #[.slice A n cA, .slice B m cB] 25)).alloc (.cells #[.slice A' n' cA', .slice B' m' cB'] 25)) := ⟨_, rfl⟩
  have hb0 : Below w.heap.size w W0 := by
    rw [hW0]
    exact ((Below.refl _ _).alloc (Nat.le_refl _) _).alloc (by rw [World.size_alloc]; omega) _
  have HB := Lib.hid hb0
  have BX := Lib.hid (show ∀ wx, Below W0.heap.size W0 wx → _ from fun wx hb => box22 (hW0 ▸ hb))
  have HW0 := Lib.hid hW0
  have C1 := Lib.hid (wer_any W0 _ _ a.rules b.rules (hA.keep hb0) (hA'.keep hb0) hf hf' (tabs_below hT hb0))
  have C2 := Lib.hid (fun wx (hb : Below W0.heap.size W0 wx) => wep_any wx _ _ a.pairs b.pairs ((hB.keep hb0).keep hb) ((hB'.keep hb0).keep hb))
  obtain ⟨X, hX⟩ : ∃ b1, b1 = decide (a.rules.map textR = b.rules.map textR) := ⟨_, rfl⟩
  obtain ⟨Y, hY⟩ : ∃ b1, b1 = decide (a.pairs = b.pairs) := ⟨_, rfl⟩
  rw [← hX] at C1
  rw [← hY] at C2
  have HZ := Lib.hid (show decide (a.rules.map textR = b.rules.map textR ∧ a.pairs = b.pairs) = (X && Y) by
    rw [hX, hY]
    by_cases h1 : a.rules.map textR = b.rules.map textR <;> by_cases h2 : a.pairs = b.pairs <;> simp [h1, h2])
  rw [HZ.out]
  clear hA hB hA' hB' hf hf' hT hn hm hn' hm' hb0 hX hY
  cases X with
  | true =>
    go_enter Tryz.func22, Tryz.ntmps22
    go_upto_region 1 with fail
    rw [← HW0.out]
    clear hW0
    obtain ⟨⟨x0, x1⟩, y0, y1⟩ := BX.out W0 (Below.refl _ _)
    go_wp2_with (go_at_call 45; refine C1.out.mono ?_)
    rintro e w1 ⟨rfl, hb1⟩
    clear x0 x1 y0 y1
    obtain ⟨⟨x0, x1⟩, y0, y1⟩ := BX.out w1 hb1
    have C3 := Lib.hid (C2.out w1 hb1)
    have HB1 := Lib.hid (HB.out.trans (hb1.mono HB.out.size))
    clear hb1 C2
    go_wp2_with (go_at_call 46; refine C3.out.mono ?_; rintro e w2 ⟨rfl, hb2⟩; have HB2 := Lib.hid (HB1.out.trans (hb2.mono HB1.out.size)); clear hb2)
    go_ret
    exact ⟨rfl, HB2.out⟩
  | false =>
    go_enter Tryz.func22, Tryz.ntmps22
    go_upto_region 1 with fail
    rw [← HW0.out]
    clear hW0
    obtain ⟨⟨x0, x1⟩, y0, y1⟩ := BX.out W0 (Below.refl _ _)
    go_wp2_with (go_at_call 45; refine C1.out.mono ?_; rintro e w1 ⟨rfl, hb1⟩; have HB1 := Lib.hid (HB.out.trans (hb1.mono HB.out.size)); clear hb1)
    go_ret
    exact ⟨rfl, HB1.out⟩
end Go.Proofs.YteenleedonmkmaaGreatDoor
