/- cond's Text by contract. -/
import Derived.Test.YteenleedonmkmaaGreatDoorMFirst
import Derived.Test.YteenleedonmkmaaGreatDoorOAlike
import Derived.Test.YteenleedonmkmaaGreatDoorOBuild
import Derived.Test.YteenleedonmkmaaGreatDoorMPlain
namespace Go.Proofs.YteenleedonmkmaaGreatDoor
open Go Go.RowKit Go.Lib

theorem ptB_bytes (c : Int) : ptB c = (bytesOf c).data.toList := by
  unfold ptB bytesOf
  split <;> rfl
theorem ptB_lenO (c : Int) : (ptB c).length ≤ 4 := by
  unfold ptB
  split
  · exact enc_len c
  · simp
theorem ptL_append (a b : List Int) : ptL (a ++ b) = ptL a ++ ptL b := by simp [ptL]
theorem ptL_len : ∀ cs : List Int, (ptL cs).length ≤ 4 * cs.length
  | [] => by simp [ptL]
  | c :: cs => by
    have h1 := ptB_lenO c
    have h2 := ptL_len cs
    show (ptB c ++ ptL cs).length ≤ _
    rw [List.length_append, List.length_cons]
    omega
theorem ptL_one (c : Int) : ptL [c] = ptB c := by simp [ptL]
theorem itemC_lenO (it : It) : (itemC it).length ≤ it.set.length + 3 := by
  unfold itemC
  split
  · simp
  split
  · omega
  · simp only [List.length_cons, List.length_append, List.length_nil]
    split <;> simp <;> omega
/-- An item's bytes. -/
def itB (it : It) : List UInt8 := ptL (itemC it)
theorem itB_any {it : It} (h : it.any = true) : itB it = [46] := by
  unfold itB itemC; rw [if_pos h]; rfl
theorem itB_not {it : It} (h : it.any = false) (hn : it.not = true) : itB it = [91, 94] ++ ptL it.set ++ [93] := by
  unfold itB itemC
  rw [if_neg (by simp [h]), if_neg (by simp [hn]), if_pos hn, show (91 : Int) :: ([94] ++ (it.set ++ [93])) = [91, 94] ++ (it.set ++ [93]) from rfl, ptL_append, ptL_append, List.append_assoc]
  rfl
def special (c : Int) : Bool := c == 46 || c == 91 || c == 93
theorem itB_one {it : It} {c : Int} (h : it.any = false) (hn : it.not = false) (hs : it.set = [c]) (hc : special c = false) : itB it = ptL it.set := by
  unfold special at hc
  simp only [Bool.or_eq_false_iff, beq_eq_false_iff_ne, ne_eq] at hc
  unfold itB itemC
  rw [if_neg (by simp [h]), if_pos ⟨by rw [hs]; rfl, hn, by rw [hs]; simp [hc.1.1], by rw [hs]; simp [hc.1.2], by rw [hs]; simp [hc.2]⟩]
theorem itB_set {it : It} (h : it.any = false) (hn : it.not = false) (hs : it.set.length ≠ 1 ∨ ∃ c, it.set[0]? = some c ∧ special c = true) : itB it = [91] ++ ptL it.set ++ [93] := by
  unfold itB itemC
  rw [if_neg (by simp [h]), if_neg, if_neg (by simp [hn]), List.nil_append, show (91 : Int) :: (it.set ++ [93]) = [91] ++ (it.set ++ [93]) from rfl, ptL_append, ptL_append, List.append_assoc]
  · rfl
  · rintro ⟨h1, _, h2, h3, h4⟩
    rcases hs with hs | ⟨c, hc, hsp⟩
    · exact hs h1
    · have hh : it.set.head? = some c := by rw [List.head?_eq_getElem?]; exact hc
      rw [hh] at h2 h3 h4
      unfold special at hsp
      simp only [Bool.or_eq_true, beq_iff_eq] at hsp
      rcases hsp with (h | h) | h <;> subst h <;> simp_all
theorem textC_take (l : List It) (k : Nat) {it : It} (h : l[k]? = some it) : ptL (textC (l.take (k + 1))) = ptL (textC (l.take k)) ++ itB it := by
  obtain ⟨hlt, he⟩ := List.getElem?_eq_some_iff.1 h
  rw [List.take_succ_eq_append_getElem hlt, he]
  unfold textC itB
  rw [List.flatMap_append, ptL_append]
  simp
theorem ptL_take (cs : List Int) (k : Nat) {c : Int} (h : cs[k]? = some c) : ptL (cs.take (k + 1)) = ptL (cs.take k) ++ ptB c := by
  obtain ⟨hlt, he⟩ := List.getElem?_eq_some_iff.1 h
  rw [List.take_succ_eq_append_getElem hlt, he, ptL_append, ptL_one]

theorem special_any (c : Int) (w : World) : Calls Tryz.prog 85 #[.int .i64 c] w fun e w' => e = .returned (.bool (special c)) ∧ w' = w := by
  by_cases h1 : c = 46
  · subst h1
    go_enter Tryz.func85, Tryz.ntmps85
    go_wp2
    go_ret
    exact ⟨rfl, rfl⟩
  have d1 : (c == 46) = false := by simpa using h1
  clear h1
  by_cases h2 : c = 91
  · subst h2
    go_enter Tryz.func85, Tryz.ntmps85
    go_wp2
    go_ret
    exact ⟨rfl, rfl⟩
  have d2 : (c == 91) = false := by simpa using h2
  clear h2
  have hs : special c = (c == 93) := by unfold special; rw [d1, d2]; rfl
  rw [hs]
  clear hs
  go_enter Tryz.func85, Tryz.ntmps85
  go_wp2
  go_ret
  exact ⟨rfl, rfl⟩
theorem str_size (l : List UInt8) : (⟨l.toArray⟩ : ByteArray).size = l.length := by show l.toArray.size = _; rw [List.size_toArray]

set_option maxRecDepth 100000 in
set_option maxHeartbeats 4000000 in
/-- written: an item's bytes. -/
theorem written_any (w : World) (it : It) (sv : Value) (h : IntsAt w sv it.set) (hn : it.set.length ≤ 1000000000) :
    Calls Tryz.prog 69 #[.agg #[.bool it.any, .bool it.not, sv]] w fun e w' => e = .returned (.string ⟨(itB it).toArray⟩) ∧ Below w.heap.size w w' := by
  obtain ⟨A, cap, rfl, hA⟩ := ints_open h
  have HA := Lib.hid hA
  clear hA h
  obtain ⟨any, neg, set⟩ := it
  dsimp only at hn HA ⊢
  have HB := Lib.hid ((Below.refl w.heap.size w).alloc (Nat.le_refl _) (.cells #[.bool any, .bool neg, .slice A set.length cap] 39))
  cases any with
  | true =>
    rw [itB_any rfl]
    go_enter Tryz.func69, Tryz.ntmps69
    go_wp2_with fail
    go_ret
    exact ⟨rfl, HB.out⟩
  | false =>
    obtain ⟨n, hnn⟩ : ∃ n, n = set.length := ⟨_, rfl⟩
    have hl := ptL_len set
    rw [← hnn] at hn HB hl ⊢
    have HN := Lib.hid hnn
    clear hnn
    have HNEW := Lib.hid (builder_new (w.heap.size + 1) (w.alloc (.cells #[.bool false, .bool neg, .slice A n cap] 39)) (by simp))
    rw [World.size_alloc] at HNEW
    have HB1 := Lib.hid ((Below.refl (w.heap.size + 1) (w.alloc (.cells #[.bool false, .bool neg, .slice A n cap] 39))).alloc (by simp) (.cells #[.pointer none, .slice none 0 0] 57))
    go_enter Tryz.func69, Tryz.ntmps69
    go_wp2_with fail
    go_loopg [5, 12] n (fun g _ i wr => ∃ k : Nat, k + g = n ∧ i = .int .i64 k ∧ Hid (Lib.IsBuilder 57 5 (w.heap.size + 1) (w.heap.size + 1) (Lib.byteCells (ptL (set.take k))) wr ∧ Below (w.heap.size + 1) (w.alloc (.cells #[.bool false, .bool neg, .slice A n cap] 39)) wr))
    case atStart => exact ⟨0, by omega, rfl, Lib.hid ⟨HNEW.out, HB1.out⟩⟩
    case round =>
      obtain ⟨k, hk, rfl, HM⟩ := hrel
      rcases Nat.eq_zero_or_pos gk with h0 | h0
      · have hkn : k = n := by omega
        subst hkn
        have hfull : set.take k = set := List.take_of_length_le (by have := HN.out; omega)
        rw [hfull] at HM
        have hbw : Below w.heap.size w wr := HB.out.trans (HM.out.2.mono (by omega))
        have hs1 := HM.out.2.size
        rw [World.size_alloc] at hs1
        have C := Lib.hid (string_any (w.heap.size + 1) (w.heap.size + 1) _ wr HM.out.1 hs1)
        have HX := Lib.hid hbw
        have z0 : ∀ wx, Below (w.heap.size + 1) wr wx → wx.cell? ⟨w.heap.size, 0, none⟩ = some (.bool false) ∧ wx.cell? ⟨w.heap.size, 1, none⟩ = some (.bool neg) ∧ wx.cell? ⟨w.heap.size, 2, none⟩ = some (.slice A k cap) := fun wx hb => by
          have hbb := HM.out.2.trans hb
          have hl : w.heap.size < w.heap.size + 1 := by omega
          exact ⟨(hbb.cell (p := ⟨w.heap.size, 0, none⟩) hl).trans (by simp), (hbb.cell (p := ⟨w.heap.size, 1, none⟩) hl).trans (by simp), (hbb.cell (p := ⟨w.heap.size, 2, none⟩) hl).trans (by simp)⟩
        have Z := Lib.hid z0
        have HL := Lib.hid hl
        clear hbw hs1 z0 hl hfull
        go_wp2_with (go_at_call 21; refine C.out.mono ?_)
        rintro e w2 ⟨rfl, hb2⟩
        obtain ⟨z0, z1, z2⟩ := Z.out w2 hb2
        have HB2 := Lib.hid (HX.out.trans (hb2.mono (by omega)))
        obtain ⟨t, ht⟩ : ∃ t, t = ptL set := ⟨_, rfl⟩
        rw [← ht]
        have hsz : (⟨t.toArray⟩ : ByteArray).size ≤ 4000000000 := by rw [str_size, ht]; have := HL.out; omega
        have HT := Lib.hid ht
        have ht4 : t.length ≤ 4000000000 := by rw [str_size] at hsz; exact hsz
        have q1 : ¬ 9223372036854775807 < 2 + t.length := by omega
        have q2 : ¬ 9223372036854775807 < 2 + t.length + 1 := by omega
        have q3 : ¬ 9223372036854775807 < 1 + t.length := by omega
        have q4 : ¬ 9223372036854775807 < 1 + t.length + 1 := by omega
        clear hb2 ht ht4 hsz
        cases neg with
        | true =>
          have HI := Lib.hid (itB_not (it := ⟨false, true, set⟩) rfl rfl)
          go_wp2_with fail
          go_ret
          refine ⟨?_, HB2.out⟩
          rw [HI.out, ← HT.out]
          rfl
        | false =>
          by_cases hk1 : k = 1
          · subst hk1
            obtain ⟨c, hc⟩ : ∃ c, set[0]? = some c := ⟨_, List.getElem?_eq_getElem (by have := HN.out; omega)⟩
            obtain ⟨q, o, rfl, hq, -, cq⟩ := HA.out 0 c hc
            rw [Nat.add_zero] at cq
            have p2 := (HB2.out.cell (p := ⟨q, o, none⟩) hq).trans cq
            have S := Lib.hid (special_any c w2)
            have hset : set = [c] := by
              match set, HN.out, hc with
              | [x], _, hc => simp at hc; rw [hc]
            cases hsp : special c with
            | true =>
              have HI := Lib.hid (itB_set (it := ⟨false, false, set⟩) rfl rfl (.inr ⟨c, hc, hsp⟩))
              rw [hsp] at S
              clear hsp hc cq hset
              go_wp2_with (go_at_call 85; refine S.out.mono ?_; rintro e w3 ⟨rfl, rfl⟩)
              go_ret
              refine ⟨?_, HB2.out⟩
              rw [HI.out, ← HT.out]
              rfl
            | false =>
              have HI := Lib.hid (itB_one (it := ⟨false, false, set⟩) rfl rfl hset hsp)
              rw [hsp] at S
              clear hsp hc cq hset
              go_wp2_with (go_at_call 85; refine S.out.mono ?_; rintro e w3 ⟨rfl, rfl⟩)
              go_ret
              refine ⟨?_, HB2.out⟩
              rw [HI.out, ← HT.out]
              rfl
          · have HI := Lib.hid (itB_set (it := ⟨false, false, set⟩) rfl rfl (.inl (by show set.length ≠ 1; have := HN.out; omega)))
            have hk2 : ((k : Int) == 1) = false := by simp; omega
            clear hk1
            go_wp2_with fail
            go_ret
            refine ⟨?_, HB2.out⟩
            rw [HI.out, ← HT.out]
            rfl
      · have hkn : (k : Int) < n := by omega
        obtain ⟨c, hc⟩ : ∃ c, set[k]? = some c := ⟨_, List.getElem?_eq_getElem (by have := HN.out; omega)⟩
        obtain ⟨q, o, rfl, hq, -, cq⟩ := HA.out k c hc
        have hbw : Below w.heap.size w wr := HB.out.trans (HM.out.2.mono (by omega))
        have p2 := (hbw.cell (p := ⟨q, o + k, none⟩) hq).trans cq
        have tk1 : (0 : Int) ≤ k := by omega
        have hs := hbw.size
        have hs1 := HM.out.2.size
        rw [World.size_alloc] at hs1
        have hlk : (ptL (set.take k)).length ≤ 4 * n := Nat.le_trans (ptL_len _) (by rw [List.length_take]; have := HN.out; omega)
        have hl4 := ptB_lenO c
        have W := Lib.hid (writes_any (w.heap.size + 1) (w.heap.size + 1) _ (bytesOf c) wr HM.out.1 (by rw [Lib.byteCells_length, Lib.size_eq, ← ptB_bytes]; omega) hs1)
        have C := Lib.hid (bytes_any c wr)
        have HT := Lib.hid (ptL_take set k hc)
        clear cq hc hs hlk hl4 hbw hl
        go_wp2_with (first
          | (go_at_call 20; refine C.out.mono ?_; rintro e w1 ⟨rfl, rfl⟩)
          | (go_at_call 18; refine W.out.mono ?_))
        rintro e w2 ⟨⟨v2, rfl⟩, hB2, hb2⟩
        have HM2 := Lib.hid (And.intro (show Lib.IsBuilder 57 5 (w.heap.size + 1) (w.heap.size + 1) (Lib.byteCells (ptL (set.take (k + 1)))) w2 by
          rw [HT.out, ptB_bytes]
          have := hB2
          rwa [show bytesOf c = ⟨(bytesOf c).data.toList.toArray⟩ from by rw [Array.toArray_toList], cells_str, cells_app] at this) (HM.out.2.trans hb2))
        clear hB2 hb2
        go_wp2_with fail
        go_roundg (gk - 1)
        case measure => omega
        case rel => exact ⟨k + 1, by omega, by go_num, HM2⟩

theorem textC_len : ∀ (l : List It) {N : Nat}, (∀ it ∈ l, it.set.length ≤ N) → (textC l).length ≤ l.length * (N + 3)
  | [], _, _ => by simp [textC]
  | it :: l, N, h => by
    have ih := textC_len l (N := N) fun x hx => h x (List.mem_cons_of_mem _ hx)
    have h1 := itemC_lenO it
    have h2 := h it (List.mem_cons_self ..)
    rw [show textC (it :: l) = itemC it ++ textC l by simp [textC], List.length_append, List.length_cons, Nat.add_one_mul]
    omega
theorem textG_yes {l : List It} (h : parseS ⟨(ptL (textC l)).toArray⟩ = some l) : textG l = ⟨(ptL (textC l)).toArray⟩ := if_pos h
theorem textG_no {l : List It} (h : parseS ⟨(ptL (textC l)).toArray⟩ ≠ some l) : textG l = ⟨#[]⟩ := if_neg h
theorem parseS_few {s : ByteArray} {l : List It} (h : parseS s = some l) : l.length ≤ 8 := by
  unfold parseS at h
  split at h
  · cases h
  · exact (parseC_says h).2.2.2

set_option maxRecDepth 100000 in
set_option maxHeartbeats 4000000 in
/-- cond.Text, of any items. -/
theorem text_any (w : World) (v : Value) (l : List It) (h : ItemsAt w v l) (hN : ∀ it ∈ l, it.set.length ≤ 1000000000) (hT : Lib.Utf8Tabs 1 2 w) :
    Calls Tryz.prog 42 #[v] w fun e w' => e = .returned (.string (textG l)) ∧ Below w.heap.size w w' := by
  have hbig := items_bd h
  have HI := Lib.hid h
  obtain ⟨A, cap, rfl, hA⟩ := items_openO h
  have HA := Lib.hid hA
  clear hA h
  by_cases h8 : 8 < l.length
  · have HG := Lib.hid (textG_no (l := l) fun e => by have := parseS_few e; omega)
    have h8' : ((8 : Int) < l.length) := by omega
    clear h8
    go_enter Tryz.func42, Tryz.ntmps42
    go_wp2_with fail
    go_ret
    exact ⟨by rw [HG.out]; rfl, Below.refl _ _⟩
  · obtain ⟨n, hn⟩ : ∃ n, n = l.length := ⟨_, rfl⟩
    have htl := textC_len l hN
    rw [← hn] at h8 hbig HI htl ⊢
    have h8' : ¬ ((8 : Int) < n) := by omega
    have HN := Lib.hid (And.intro hn hN)
    have HL := Lib.hid (show (textC l).length ≤ 8000000024 by
      refine Nat.le_trans htl ?_
      have : n * (1000000000 + 3) ≤ 8 * (1000000000 + 3) := Nat.mul_le_mul_right _ (by omega)
      omega)
    have HT := Lib.hid hT
    have H8 := Lib.hid h8
    clear hn hN h8 htl hT
    have HNEW := Lib.hid (builder_new w.heap.size w (Nat.le_refl _))
    have HB1 := Lib.hid ((Below.refl w.heap.size w).alloc (Nat.le_refl _) (.cells #[.pointer none, .slice none 0 0] 57))
    go_enter Tryz.func42, Tryz.ntmps42
    go_wp2_with fail
    go_loopg [5, 14] n (fun g _ i wr => ∃ k : Nat, k + g = n ∧ i = .int .i64 k ∧ Hid (Lib.IsBuilder 57 5 w.heap.size w.heap.size (Lib.byteCells (ptL (textC (l.take k)))) wr ∧ Below w.heap.size w wr))
    case atStart => exact ⟨0, by omega, rfl, Lib.hid ⟨HNEW.out, HB1.out⟩⟩
    case round =>
      obtain ⟨k, hk, rfl, HM⟩ := hrel
      rcases Nat.eq_zero_or_pos gk with h0 | h0
      · have hkn : k = n := by omega
        subst hkn
        have hfull : l.take k = l := List.take_of_length_le (by have := HN.out.1; omega)
        rw [hfull] at HM
        have hs1 := HM.out.2.size
        have hsz := ptL_len (textC l)
        obtain ⟨t, ht⟩ : ∃ t, t = ptL (textC l) := ⟨_, rfl⟩
        rw [← ht] at HM hsz
        have C := Lib.hid (string_any w.heap.size w.heap.size t wr HM.out.1 hs1)
        have HTT := Lib.hid ht
        have HSZ := Lib.hid (show (⟨t.toArray⟩ : ByteArray).size ≤ 1000000000000 by rw [str_size]; have := HL.out; omega)
        have P := Lib.hid fun wx (hb : Below w.heap.size w wx) => parse_any wx ⟨t.toArray⟩ HSZ.out (tabs_below HT.out hb)
        clear hs1 hfull hsz ht
        go_wp2_with (first
          | (go_at_call 21; refine C.out.mono ?_; rintro e w2 ⟨rfl, hb2⟩; have HB2 := Lib.hid (HM.out.2.trans hb2); clear hb2)
          | (go_at_call 54; refine (P.out _ HB2.out).mono ?_))
        rintro e w3 ⟨v3, rfl, hi3, hb3⟩
        have HB3 := Lib.hid (HB2.out.trans (hb3.mono HB2.out.size))
        clear hb3
        cases hp : parseS ⟨t.toArray⟩ with
        | none =>
          have HG := Lib.hid (textG_no (l := l) (by rw [← HTT.out, hp]; simp))
          clear hp hi3
          go_wp2_with fail
          go_ret
          exact ⟨by rw [HG.out]; rfl, HB3.out⟩
        | some l' =>
          rw [hp] at hi3
          simp only [Option.getD_some] at hi3
          have E := Lib.hid (equalFunc_any w3 _ _ l' l hi3.at (HI.out.keep HB3.out))
          have HPP := Lib.hid hp
          clear hp hi3
          by_cases hx : l' = l
          · have HG := Lib.hid (textG_yes (l := l) (by rw [← HTT.out, HPP.out, hx]))
            rw [decide_eq_true hx] at E
            clear hx
            go_wp2_with (go_at_call 70; refine E.out.mono ?_; rintro e w4 ⟨rfl, hb4⟩; have HB4 := Lib.hid (HB3.out.trans (hb4.mono HB3.out.size)); clear hb4)
            go_ret
            exact ⟨by rw [HG.out, ← HTT.out]; rfl, HB4.out⟩
          · have HG := Lib.hid (textG_no (l := l) (by rw [← HTT.out, HPP.out]; intro e; exact hx (Option.some.inj e)))
            rw [decide_eq_false hx] at E
            clear hx
            go_wp2_with (go_at_call 70; refine E.out.mono ?_; rintro e w4 ⟨rfl, hb4⟩; have HB4 := Lib.hid (HB3.out.trans (hb4.mono HB3.out.size)); clear hb4)
            go_ret
            exact ⟨by rw [HG.out]; rfl, HB4.out⟩
      · have hkn : (k : Int) < n := by omega
        obtain ⟨it, hit⟩ : ∃ it, l[k]? = some it := ⟨_, List.getElem?_eq_getElem (by have := HN.out.1; omega)⟩
        obtain ⟨q, o, rfl, hq, -, m0, m1, a, m, cp, m2, hs⟩ := HA.out k it hit
        have p0 := (HM.out.2.cell (p := ⟨q, o + k * 3, none⟩) hq).trans m0
        have p1 := (HM.out.2.cell (p := ⟨q, o + k * 3 + 1, none⟩) hq).trans m1
        have p2 := (HM.out.2.cell (p := ⟨q, o + k * 3 + 2, none⟩) hq).trans m2
        have tk1 : (0 : Int) ≤ k := by omega
        have hsz := HM.out.2.size
        have hlt := textC_len (l.take k) (N := 1000000000) fun x hx => HN.out.2 x (List.mem_of_mem_take hx)
        have hlk : (ptL (textC (l.take k))).length ≤ 40000000000 := by
          have h1 := ptL_len (textC (l.take k))
          have h2 : (l.take k).length * (1000000000 + 3) ≤ 8 * (1000000000 + 3) := Nat.mul_le_mul_right _ (by rw [List.length_take]; have := HN.out.1; have := H8.out; omega)
          omega
        have hil : (itB it).length ≤ 4000000012 := by
          have h1 := ptL_len (itemC it)
          have h2 := itemC_lenO it
          have h3 := HN.out.2 it (List.mem_of_getElem? hit)
          unfold itB
          omega
        have hb0 := Lib.hid ((Below.refl wr.heap.size wr).alloc (Nat.le_refl _) (.cells #[.bool it.any, .bool it.not, .slice a m cp] 39))
        have hBn := builder_below HM.out.1 hb0.out
        have WR := Lib.hid (written_any _ it (.slice a m cp) ((hs.keep HM.out.2).keep hb0.out) (HN.out.2 it (List.mem_of_getElem? hit)))
        have W := Lib.hid fun wx (hb : Below wr.heap.size wr wx) => writes_any w.heap.size w.heap.size _ ⟨(itB it).toArray⟩ wx (builder_below HM.out.1 hb) (by rw [Lib.byteCells_length, str_size]; omega) (Nat.le_trans hsz hb.size)
        have HTK := Lib.hid (textC_take l k hit)
        clear m0 m1 m2 hs hit hlt hlk hil hBn hsz
        go_wp2_with (first
          | (go_at_call 69; refine WR.out.mono ?_; rintro e w1 ⟨rfl, hb1⟩; have HB2 := Lib.hid (hb0.out.trans (hb1.mono hb0.out.size)); clear hb1)
          | (go_at_call 18; refine (W.out _ HB2.out).mono ?_))
        rintro e w2 ⟨⟨v2, rfl⟩, hB2, hb2⟩
        have HM2 := Lib.hid (And.intro (show Lib.IsBuilder 57 5 w.heap.size w.heap.size (Lib.byteCells (ptL (textC (l.take (k + 1))))) w2 by
          rw [HTK.out]
          rwa [cells_str, cells_app] at hB2) ((HM.out.2.trans (HB2.out.mono HM.out.2.size)).trans hb2))
        clear hB2 hb2
        go_wp2_with fail
        go_roundg (gk - 1)
        case measure => omega
        case rel => exact ⟨k + 1, by omega, by go_num, HM2⟩
end Go.Proofs.YteenleedonmkmaaGreatDoor
