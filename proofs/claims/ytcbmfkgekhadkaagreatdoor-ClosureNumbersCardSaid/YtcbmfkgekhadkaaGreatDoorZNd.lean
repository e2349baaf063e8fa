/- Chapter 13's own All by contract. -/
import Derived.Test.YtcbmfkgekhadkaaGreatDoorZRefForms
import Derived.Test.YtcbmfkgekhadkaaGreatDoorZNb
import Derived.Test.YtcbmfkgekhadkaaGreatDoorZGb
namespace Go.Proofs.YtcbmfkgekhadkaaGreatDoor
section
open Go Go.RowKit Go.Lib

theorem two_len (e : En) (p : Ru) : ∀ (rs : List Ru) (l : List ByteArray), (rs.foldl (twoL e p) l).length ≤ l.length + rs.length
  | [], _ => Nat.le_refl _
  | s :: rs, l => by
    have h := two_len e p rs (twoL e p l s)
    have h1 : (twoL e p l s).length ≤ l.length + 1 := by
      unfold twoL
      split
      · exact putOk_len _ _
      · omega
    rw [List.foldl_cons, List.length_cons]
    omega
theorem one_len (rs : List Ru) (e : En) : ∀ (ts : List Ru) (l : List ByteArray), (ts.foldl (oneL rs e) l).length ≤ l.length + ts.length * (rs.length + 1)
  | [], l => by simp
  | t :: ts, l => by
    have h := one_len rs e ts (oneL rs e l t)
    have h1 : (oneL rs e l t).length ≤ l.length + (rs.length + 1) := by
      unfold oneL
      split
      · have h2 := two_len e t rs (putOk l (applyR t e.word))
        have h3 := putOk_len l (applyR t e.word)
        omega
      · omega
    rw [List.foldl_cons, List.length_cons, Nat.add_mul]
    omega
theorem forms_len (rs : List Ru) (e : En) : (formsL rs e).length ≤ 1 + rs.length * (rs.length + 1) := one_len rs e rs [e.word]
theorem puts_len : ∀ (f m : List ByteArray), (f.foldl putL m).length ≤ m.length + f.length
  | [], _ => Nat.le_refl _
  | x :: f, m => by
    have h := puts_len f (putL m x)
    have h1 := putL_length x m
    rw [List.foldl_cons, List.length_cons]
    omega

set_option maxRecDepth 100000 in
set_option maxHeartbeats 8000000 in
theorem all13_any (w : World) (v vE : Value) (rs : List Ru) (es : List En) (hr : RulesAt w v rs) (hE : EntsAt w vE es) (hm : ∀ r ∈ rs, MidR r) (hn : rs.length ≤ 100) (hes : es.length ≤ 1000) (hw : ∀ e ∈ es, e.word.size ≤ 100000) :
    Calls Tryz.prog 18 #[v, vE] w fun e w' => ∃ v' c, e = .returned (.tuple #[v', .int .i64 c]) ∧ StrsAt w' v' (allL rs es).1 ∧ c = (allL rs es).2 ∧ Below w.heap.size w w' := by
  obtain ⟨VA, vc, rfl⟩ := ents_form hE
  obtain ⟨SA, sc, rfl⟩ := rules_form hr
  obtain ⟨sn, hsn⟩ : ∃ sn, sn = rs.length := ⟨_, rfl⟩
  obtain ⟨n, hnn⟩ : ∃ n, n = es.length := ⟨_, rfl⟩
  rw [← hsn] at hr ⊢
  rw [← hnn] at hE hes ⊢
  have hlen : ∀ e, (formsL rs e).length ≤ 10101 := fun e => by
    have h := forms_len rs e
    have : rs.length * (rs.length + 1) ≤ 100 * 101 := Nat.mul_le_mul hn (by omega)
    omega
  have HN := Lib.hid (And.intro hnn (And.intro hm (And.intro hw (And.intro hr hn))))
  have HO := Lib.hid (ents_open hE)
  have HLN := Lib.hid hlen
  clear hr hE hm hn hw hsn hnn hlen
  go_enter Tryz.func18, Tryz.ntmps18
  go_wp2_with fail
  go_loopg [6, 7] n (fun gh s6 s7 wr => ∃ k : Nat, k + gh = n ∧ s7 = .int .i64 k ∧ Hid (StrsP wr s6 ((es.take k).foldl (fun m e => (formsL rs e).foldl putL m) []) ∧ Below w.heap.size w wr ∧ ((es.take k).foldl (fun m e => (formsL rs e).foldl putL m) []).length ≤ k * 10101))
  case atStart => exact ⟨0, by omega, rfl, Lib.hid ⟨.inl ⟨rfl, rfl⟩, Below.refl _ _, by simp⟩⟩
  case round =>
    obtain ⟨k, hk, rfl, HQ⟩ := hrel
    by_cases hlt : k < n
    · obtain ⟨e, he⟩ : ∃ e, es[k]? = some e := ⟨es[k]'(by have := HN.out.1; omega), List.getElem?_eq_getElem _⟩
      obtain ⟨b, off, rfl, hb, hnc, c0, A, cap, c1, hints⟩ := HO.out k e he
      have HE := Lib.hid he
      obtain ⟨wd, fl⟩ := e
      dsimp only at c0 c1 hints
      obtain ⟨fn, hfn⟩ : ∃ fn, fn = fl.length := ⟨_, rfl⟩
      rw [← hfn] at c1 hints
      have x0 := (HQ.out.2.1.cell (p := ⟨b, off + k * 2, none⟩) hb).trans c0
      have x1 := (HQ.out.2.1.cell (p := ⟨b, off + k * 2 + 1, none⟩) hb).trans c1
      have CF := Lib.hid (forms13_any wr _ rs A fn cap wd fl (HN.out.2.2.2.1.keep HQ.out.2.1) (hints.keep HQ.out.2.1) HN.out.2.1 (HN.out.2.2.1 _ (List.mem_of_getElem? he)) (by have := HN.out.2.2.2.2; omega))
      obtain ⟨g1, hg1⟩ : ∃ g1, g1 = gk := ⟨_, rfl⟩
      clear c0 c1 hints hfn he
      go_wp2_with (go_at_call 12; refine (CF.out).mono ?_; rintro e w1 ⟨vf, rfl, hsf, hb1⟩; obtain ⟨A8, c8, rfl⟩ := strs_form hsf.at_)
      obtain ⟨m, hm⟩ : ∃ m, m = (formsL rs ⟨wd, fl⟩).length := ⟨_, rfl⟩
      have hm9 : m ≤ 10101 := by rw [hm]; exact HLN.out _
      rw [← hm] at hsf ⊢
      have HSF := Lib.hid (And.intro hsf (And.intro hm hb1))
      have HP1 := Lib.hid (show StrsP w1 u6 ((es.take k).foldl (fun m e => (formsL rs e).foldl putL m) []) ∧ Below w.heap.size w w1 from ⟨HQ.out.1.keep hb1, HQ.out.2.1.trans (hb1.mono HQ.out.2.1.size)⟩)
      clear hsf hm hb1 CF x0 x1
      have hk9 : k * 10101 ≤ 1000 * 10101 := Nat.mul_le_mul_right _ (by omega)
      have HM0 := Lib.hid (And.intro HQ.out.2.2 hk9)
      clear hk9
      obtain ⟨M, hM⟩ : ∃ M, M = (es.take k).foldl (fun m e => (formsL rs e).foldl putL m) [] := ⟨_, rfl⟩
      rw [← hM] at HP1 HM0
      have HMQ := Lib.hid hM
      clear hM
      go_loopg [6, 9] m (fun gh s6 s9 wq => ∃ j : Nat, j + gh = m ∧ s9 = .int .i64 j ∧ Hid (StrsP wq s6 (((formsL rs ⟨wd, fl⟩).take j).foldl putL M) ∧ Below w1.heap.size w1 wq ∧ (((formsL rs ⟨wd, fl⟩).take j).foldl putL M).length ≤ M.length + j))
      case atStart => exact ⟨0, by omega, rfl, Lib.hid ⟨HP1.out.1, Below.refl _ _, by simp⟩⟩
      case round =>
        obtain ⟨j, hj, rfl, HJ⟩ := hrel
        by_cases hltj : j < m
        · obtain ⟨x, hx⟩ : ∃ x, (formsL rs ⟨wd, fl⟩)[j]? = some x := ⟨_, List.getElem?_eq_getElem (by have := HSF.out.2.1; omega)⟩
          obtain ⟨b8, o8, rfl, hb8, hn8, c8x⟩ := strs_open HSF.out.1.at_ j x hx
          have y0 := (HJ.out.2.1.cell (p := ⟨b8, o8 + j, none⟩) hb8).trans c8x
          have CP := Lib.hid (put13_any wr u6 _ x HJ.out.1 (by have := HJ.out.2.2; have := HM0.out; omega))
          have HXX := Lib.hid hx
          clear hx c8x
          go_wp2_with (go_at_call 27; refine (CP.out).mono ?_; rintro e w3 ⟨v3, rfl, hs3, hb3⟩; have HS3 := Lib.hid (And.intro hs3 (HJ.out.2.1.trans (hb3.mono HJ.out.2.1.size))); clear hs3 hb3)
          go_roundg (gk - 1)
          case measure => omega
          case rel => exact ⟨j + 1, by omega, by go_num, Lib.hid (by rw [take_fold _ _ HXX.out]; exact ⟨HS3.out.1, HS3.out.2, by have := HJ.out.2.2; have := putL_length x (((formsL rs ⟨wd, fl⟩).take j).foldl putL M); omega⟩)⟩
        · obtain rfl : j = m := by omega
          go_wp2_with fail
          go_roundg (g1 - 1)
          case measure => omega
          case rel =>
            refine ⟨k + 1, by omega, by go_num, Lib.hid ?_⟩
            rw [take_fold _ _ HE.out]
            have h1 := HJ.out
            rw [List.take_of_length_le (by have := HSF.out.2.1; omega)] at h1
            refine ⟨?_, HP1.out.2.trans (h1.2.1.mono HP1.out.2.size), ?_⟩
            · show StrsP _ _ ((formsL rs ⟨wd, fl⟩).foldl putL ((es.take k).foldl (fun m e => (formsL rs e).foldl putL m) []))
              rw [← HMQ.out]
              exact h1.1
            · show ((formsL rs ⟨wd, fl⟩).foldl putL ((es.take k).foldl (fun m e => (formsL rs e).foldl putL m) [])).length ≤ _
              rw [← HMQ.out, Nat.add_mul]
              have := h1.2.2
              have := HM0.out.1
              omega
    · obtain rfl : k = n := by omega
      have hq := HQ.out
      rw [List.take_of_length_le (by have := HN.out.1; omega)] at hq
      have hq1 : StrsP wr u6 (allF rs es) := hq.1
      obtain ⟨A6, c6, rfl⟩ := strs_form hq1.at_
      obtain ⟨m, hm⟩ : ∃ m, m = (allF rs es).length := ⟨_, rfl⟩
      rw [← hm] at hq1 ⊢
      have HX := Lib.hid (And.intro hq1 (And.intro hq.2.1 hm))
      by_cases hbig : (20000 : Int) < m
      · have HA := Lib.hid (show allL rs es = ([], 3) by unfold allL; rw [if_neg (by omega)])
        clear hq hq1 hm
        go_wp2_with fail
        go_ret2
        rw [HA.out]
        exact ⟨_, _, rfl, .inl ⟨rfl, _, _, rfl⟩, rfl, HX.out.2.1⟩
      · have HA := Lib.hid (show allL rs es = (allF rs es, 0) by unfold allL; rw [if_pos (by omega)])
        clear hq hq1 hm
        go_wp2_with fail
        go_ret2
        rw [HA.out]
        exact ⟨_, _, rfl, HX.out.1.at_, rfl, HX.out.2.1⟩
end
section
open Go Go.Lib

theorem isform_same {rs rs' : List Ru} (h : ∀ r, r ∈ rs ↔ r ∈ rs') (e : En) (x : ByteArray) : IsForm rs e x ↔ IsForm rs' e x := by
  unfold IsForm
  simp only [h]
theorem allF_same {rs rs' : List Ru} {es es' : List En} (h : ∀ r, r ∈ rs ↔ r ∈ rs') (he : ∀ e, e ∈ es ↔ e ∈ es') : allF rs es = allF rs' es' := by
  refine rising_eq (allF_rising rs es) (allF_rising rs' es') fun x => ?_
  rw [allF_mem, allF_mem]
  constructor
  · rintro ⟨e, h1, h2⟩; exact ⟨e, (he e).1 h1, (isform_same h e x).1 h2⟩
  · rintro ⟨e, h1, h2⟩; exact ⟨e, (he e).2 h1, (isform_same h e x).2 h2⟩
theorem allL_same {rs rs' : List Ru} {es es' : List En} (h : ∀ r, r ∈ rs ↔ r ∈ rs') (he : ∀ e, e ∈ es ↔ e ∈ es') : allL rs es = allL rs' es' := by
  unfold allL
  rw [allF_same h he]
theorem turn_mem {α : Type} (l : List α) (k : Nat) (x : α) : x ∈ l.drop k ++ l.take k ↔ x ∈ l := by
  rw [List.mem_append, or_comm, ← List.mem_append, List.take_append_drop]
theorem all_len_from (rs : List Ru) : ∀ (es : List En) (m : List ByteArray), (es.foldl (fun m e => (formsL rs e).foldl putL m) m).length ≤ m.length + es.length * (1 + rs.length * (rs.length + 1))
  | [], m => by simp
  | e :: es, m => by
    have h := all_len_from rs es ((formsL rs e).foldl putL m)
    have h1 := puts_len (formsL rs e) m
    have h2 := forms_len rs e
    rw [List.foldl_cons, List.length_cons, Nat.add_mul]
    omega
theorem allF_len (rs : List Ru) (es : List En) : (allF rs es).length ≤ es.length * (1 + rs.length * (rs.length + 1)) := by
  have := all_len_from rs es []
  simpa [allF] using this
/-- At most thirty entries, at most ten rules: never too many. -/
theorem allL_ok {rs : List Ru} {es : List En} (h1 : rs.length ≤ 10) (h2 : es.length ≤ 30) : allL rs es = (allF rs es, 0) := by
  unfold allL
  rw [if_pos]
  have h := allF_len rs es
  have h3 : rs.length * (rs.length + 1) ≤ 10 * 11 := Nat.mul_le_mul h1 (by omega)
  have h4 : es.length * (1 + rs.length * (rs.length + 1)) ≤ 30 * 111 := Nat.mul_le_mul h2 (by omega)
  omega
end
section
open Go Go.RowKit Go.Lib

def ruOk (r : Ru) : Bool := decide (r.cond.length ≤ 12) && (r.cond.all fun it => decide (it.set.length ≤ 40)) && decide (r.strip.size ≤ 20) && decide (r.add.size ≤ 20) && decide (0 ≤ r.flag) && decide (r.flag ≤ 1000)
def affOk (S : ByteArray) : Bool := decide (1 ≤ (parseA S).1.rules.length) && decide ((parseA S).1.rules.length ≤ 10) && (parseA S).1.rules.all ruOk
theorem ruOk_says {r : Ru} (h : ruOk r = true) : r.cond.length ≤ 12 ∧ (∀ it ∈ r.cond, it.set.length ≤ 40) ∧ r.strip.size ≤ 20 ∧ r.add.size ≤ 20 ∧ 0 ≤ r.flag ∧ r.flag ≤ 1000 := by
  unfold ruOk at h
  simp only [Bool.and_eq_true, decide_eq_true_eq, List.all_eq_true] at h
  obtain ⟨⟨⟨⟨⟨h1, h2⟩, h3⟩, h4⟩, h5⟩, h6⟩ := h
  exact ⟨h1, h2, h3, h4, h5, h6⟩
theorem affOk_says {S : ByteArray} (h : affOk S = true) : 1 ≤ (parseA S).1.rules.length ∧ (parseA S).1.rules.length ≤ 10 ∧ ∀ r ∈ (parseA S).1.rules, ruOk r = true := by
  unfold affOk at h
  simp only [Bool.and_eq_true, decide_eq_true_eq, List.all_eq_true] at h
  exact ⟨h.1.1, h.1.2, h.2⟩
def enOk (e : En) : Bool := decide (e.word.size ≤ 10) && decide (e.flags.length ≤ 10) && e.flags.all fun f => decide (0 ≤ f) && decide (f ≤ 1000)
theorem enOk_says {e : En} (h : enOk e = true) : e.word.size ≤ 10 ∧ e.flags.length ≤ 10 ∧ ∀ f ∈ e.flags, 0 ≤ f ∧ f ≤ 1000 := by
  unfold enOk at h
  simp only [Bool.and_eq_true, decide_eq_true_eq, List.all_eq_true] at h
  exact ⟨h.1.1, h.1.2, h.2⟩
theorem item3_few : ∀ (a : Fin 24) (b : Fin 3) (c : Fin 6), (entryL (item3 a.1 b.1 c.1)).all enOk = true := by decide +kernel
theorem items_few (ks : List Nat) : ∀ e ∈ esOf (ks.map itemL), enOk e = true := fun e he => by
  unfold esOf at he
  obtain ⟨l, hl, hle⟩ := List.mem_filterMap.1 he
  obtain ⟨k, _, rfl⟩ := List.mem_map.1 hl
  have h := item3_few ⟨k % 24, Nat.mod_lt _ (by decide)⟩ ⟨k / 24 % 3, Nat.mod_lt _ (by decide)⟩ ⟨k / 72 % 6, Nat.mod_lt _ (by decide)⟩
  dsimp only at h
  have h2 : entryL (item3 (k % 24) (k / 24 % 3) (k / 72 % 6)) = some e := hle
  rw [h2] at h
  exact h

set_option maxRecDepth 100000 in
set_option maxHeartbeats 1000000 in
theorem affix13_any (x : Int) (w : World) :
    Calls Tryz.prog 14 #[.int .i64 x] w fun e w' => (∃ S : ByteArray, e = .returned (.string S) ∧ S.size ≤ 250 ∧ affOk S = true) ∧ w' = w := by
  have C := Lib.hid (place9 x 1048576 w (by omega) (by omega))
  obtain ⟨k, hk⟩ : ∃ k, k = x % 1048576 := ⟨_, rfl⟩
  rw [← hk] at C
  clear hk
  go_enter Tryz.func14, Tryz.ntmps14
  go_wp2_with (go_at_call 19; refine C.out.mono ?_; rintro e w1 ⟨rfl, rfl⟩)
  all_goals
    go_ret
    exact ⟨⟨_, rfl, by decide, by decide +kernel⟩, rfl⟩
end
end Go.Proofs.YtcbmfkgekhadkaaGreatDoor
