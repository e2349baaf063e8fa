/- Stage 12's law ListBack, out of what is asked of list's calls. -/
import Derived.Test.YtmadlappalhmlaaDoorYList
import Derived.Test.YtmadlappalhmlaaDoorYSame
namespace Go.Proofs.YtmadlappalhmlaaDoor
open Go Go.RowKit Go.Lib

theorem lines_front : ∀ (ls : List (List UInt8)) (x : List UInt8), (∀ l ∈ ls, (10 : UInt8) ∉ l) → linesL ((ls.map fun l => l ++ [10]).flatten ++ x) = ls ++ linesL x
  | [], x, _ => rfl
  | l :: ls, x, h => by
    have ih := lines_front ls x fun y hy => h y (List.mem_cons_of_mem _ hy)
    rw [List.map_cons, List.flatten_cons, List.append_assoc, List.append_assoc]
    show linesL (l ++ 10 :: ((ls.map fun l => l ++ [10]).flatten ++ x)) = _
    rw [linesL_app _ _ (h l (List.mem_cons_self ..)), ih]
    rfl
theorem lines_few : ∀ (s : List UInt8), (linesL s).length ≤ s.length
  | [] => Nat.le_refl _
  | b :: r => by
    have ih := lines_few r
    rw [linesL_cons]
    by_cases hb : b = 10
    · rw [if_pos hb, List.length_cons, List.length_cons]; omega
    · rw [if_neg hb]
      cases he : linesL r with
      | nil => simp
      | cons x t => rw [he, List.length_cons] at ih; rw [List.length_cons, List.length_cons]; omega
/-- A line behind a list by numbers. -/
theorem back_third {ks : List Nat} (hk : ks.length ≤ 30) (line : ByteArray) (hl : line.size ≤ 100) :
    (∃ es, parseE (⟨(listL ks).toArray⟩ ++ line) = (es, 0, 0)) ∨ ∃ n, parseE (⟨(listL ks).toArray⟩ ++ line) = ([], n, 5) ∧ ks.length < n := by
  have h1 := listL_len ks
  have hlines : linesL ((⟨(listL ks).toArray⟩ : ByteArray) ++ line).data.toList = ks.map itemL ++ linesL line.data.toList := by
    rw [l_app, ba_toL]
    exact lines_front _ _ fun l hl => by
      obtain ⟨k, _, rfl⟩ := List.mem_map.1 hl
      exact (itemL_ok k).2.1
  have hll : line.data.toList.length = line.size := (Lib.size_eq _).symm
  have h2 := lines_few line.data.toList
  have h3 := esOf_le (ks.map itemL ++ linesL line.data.toList)
  rw [List.length_append, List.length_map] at h3
  have hbad : badE 1 (ks.map itemL ++ linesL line.data.toList) = badE (1 + ks.length) (linesL line.data.toList) := by
    rw [badE_app _ _ 1 (by decide), (badE_zero _ 1 (by decide)).2 (items_good ks), List.length_map]
    rfl
  have hble := badE_le (linesL line.data.toList) (1 + ks.length)
  unfold parseE endE
  rw [ByteArray.size_append, ba_len, if_neg (by omega), hlines, if_neg (by omega), hbad]
  by_cases h0 : 0 < badE (1 + ks.length) (linesL line.data.toList)
  · rw [if_pos h0]
    right
    exact ⟨_, rfl, by omega⟩
  · rw [if_neg h0]
    left
    exact ⟨_, rfl⟩

variable {T : World → Prop}
set_option maxRecDepth 100000 in
set_option maxHeartbeats 2000000 in
theorem eback_law (S : SaysL T) (w : World) (hT : T w) (v : Value) (l : List Int) (line : ByteArray) (h : IntsAt w v l) :
    Calls Tryd.prog 4 #[v, .string line] w fun e w' => e = .returned (.bool true) ∧ Below w.heap.size w w' := by
  have HT := Lib.hid (fun wx (hb : Below w.heap.size w wx) => S.kept w wx hT hb)
  have AW := Lib.hid (fun wx (hb : Below w.heap.size w wx) => eawake_any S wx (S.kept w wx hT hb))
  have HS := Lib.hid S
  obtain ⟨ks, hks⟩ : ∃ ks, ks = keys l := ⟨_, rfl⟩
  have hk30 : ks.length ≤ 30 := by rw [hks, keys_len]; omega
  have CL := Lib.hid (fun wx (hb : Below w.heap.size w wx) => hks ▸ list_any wx v l (h.keep hb))
  obtain ⟨A, cap, rfl, -⟩ := ints_open h
  obtain ⟨n, hn⟩ : ∃ n, n = l.length := ⟨_, rfl⟩
  rw [← hn] at CL ⊢
  obtain ⟨es, hes⟩ : ∃ es, es = esOf (ks.map itemL) := ⟨_, rfl⟩
  have hp := list_parse hk30
  rw [← hes] at hp
  have hel : es.length = ks.length := by rw [hes, items_es]
  obtain ⟨m, hm⟩ : ∃ m, m = ks.length := ⟨_, rfl⟩
  have hmn : (n ≤ 30 ∧ m = n) ∨ (30 < n ∧ m = 30) := by rw [hm, hks, keys_len, hn]; omega
  have hll := listL_len ks
  have h3 := fun hl => back_third hk30 line hl
  obtain ⟨X, hX⟩ : ∃ X : ByteArray, X = ⟨(listL ks).toArray⟩ := ⟨_, rfl⟩
  have hXs : X.size ≤ 270 := by rw [hX, ba_len]; omega
  rw [← hX] at CL hp h3
  rw [← hm] at hel h3
  have hfew : FewE es := by
    have := parseE_few (s := X) (by omega)
    rw [hp] at this
    exact this
  obtain ⟨t1, t2⟩ := textE_back hp (by omega)
  have ht := textE_size es
  obtain ⟨Y, hY⟩ : ∃ Y, Y = textE es := ⟨_, rfl⟩
  rw [← hY] at t2 ht
  have HEL := Lib.hid hel
  have HF := Lib.hid hfew
  have HY := Lib.hid hY
  have CP1 := Lib.hid (fun wx (hb : Below w.heap.size w wx) => HS.out.parse wx X (HT.out _ hb) (by omega))
  rw [hp] at CP1
  have CP2 := Lib.hid (fun wx (hb : Below w.heap.size w wx) => HS.out.parse wx Y (HT.out _ hb) (by omega))
  rw [t2] at CP2
  by_cases h100 : 100 < line.size
  · have d1 : (100 : Int) < line.size := by omega
    clear S hT h hks hn hes hp hm hmn hll h3 hX hXs hel hfew t1 t2 ht hY h100 CL CP1 CP2
    go_enter Tryd.func4, Tryd.ntmps4
    go_wp2_with (go_at_call 9; refine (AW.out _ (Below.refl _ _)).mono ?_; rintro e w1 ⟨rfl, hb⟩; have HB1 := Lib.hid hb; clear hb)
    go_ret
    exact ⟨rfl, HB1.out⟩
  have d1 : ¬ (100 : Int) < line.size := by omega
  have hZs : (X ++ line).size = X.size + line.size := ByteArray.size_append
  have CP3 := Lib.hid (fun wx (hb : Below w.heap.size w wx) => HS.out.parse wx (X ++ line) (HT.out _ hb) (by omega))
  have H3 := Lib.hid (h3 (by omega))
  have n1 : ¬ (9223372036854775807 < X.size + line.size) := by omega
  obtain ⟨Z, hZ⟩ : ∃ Z, Z = parseE (X ++ line) := ⟨_, rfl⟩
  rw [← hZ] at CP3 H3
  clear S hT h hks hn hes hp hm hll h3 hX hel hfew t1 t2 ht hY h100 hZ hZs hXs
  rcases hmn with ⟨h30, rfl⟩ | ⟨h30, rfl⟩
  · have d30 : ¬ (30 : Int) < m := by omega
    clear h30
    go_enter Tryd.func4, Tryd.ntmps4
    go_wp2_with (first
      | (go_at_call 15; refine (CL.out _ (Below.refl _ _)).mono ?_; rintro e w1 ⟨rfl, hb⟩; have HB1 := Lib.hid hb; clear hb)
      | (go_at_call 10; refine (CP1.out _ HB1.out).mono ?_; rintro e w2 ⟨va, rfl, hva, hb⟩; have HA := Lib.hid (fun wx (hb : Below w2.heap.size w2 wx) => hva.keep hb); have HB2 := Lib.hid (HB1.out.trans (hb.mono HB1.out.size)); obtain ⟨A1, c1, rfl⟩ := ents_form hva; rw [HEL.out] at HA; rw [HEL.out]; clear hva hb; have CT := Lib.hid (HS.out.text w2 _ es (HT.out _ HB2.out) (HA.out _ (Below.refl _ _)) HF.out); rw [← HY.out] at CT))
    refine CT.out.mono ?_
    rintro e w3 ⟨rfl, hb⟩
    have HB3 := Lib.hid (HB2.out.trans (hb.mono HB2.out.size))
    have HA3 := Lib.hid (fun wx (hbx : Below w3.heap.size w3 wx) => HA.out wx (hb.trans (hbx.mono hb.size)))
    clear hb HA CT
    go_wp2_with (go_at_call 10; refine (CP2.out _ HB3.out).mono ?_; rintro e w4 ⟨vb, rfl, hvb, hb⟩; have HA4 := Lib.hid (HA3.out w4 hb); have HB4 := Lib.hid (HB3.out.trans (hb.mono HB3.out.size)); have SM := Lib.hid (esame_any w4 _ vb es es HA4.out hvb); rw [decide_eq_true (rfl : es = es)] at SM; clear hvb hb)
    refine SM.out.mono ?_
    rintro e w5 ⟨rfl, hb⟩
    have HB5 := Lib.hid (HB4.out.trans (hb.mono HB4.out.size))
    clear hb SM
    go_wp2_with (go_at_call 15; refine (CL.out _ HB5.out).mono ?_; rintro e w6 ⟨rfl, hb⟩; have HB6 := Lib.hid (HB5.out.trans (hb.mono HB5.out.size)); clear hb)
    refine (CP3.out _ HB6.out).mono ?_
    rintro e w7 ⟨vc, rfl, hvc, hb⟩
    have HB7 := Lib.hid (HB6.out.trans (hb.mono HB6.out.size))
    clear hb
    rcases H3.out with ⟨es3, rfl⟩ | ⟨nb, rfl, hnb⟩
    · obtain ⟨A3, c3, rfl⟩ := ents_form hvc
      clear hvc
      go_wp2_with (go_at_call 9; refine (AW.out _ HB7.out).mono ?_; rintro e w8 ⟨rfl, hb⟩; have HB8 := Lib.hid (HB7.out.trans (hb.mono HB7.out.size)); clear hb)
      go_ret
      exact ⟨rfl, HB8.out⟩
    · obtain ⟨A3, c3, rfl⟩ := ents_nil hvc
      have e1 : (m : Int) < nb := by omega
      clear hvc hnb
      go_wp2_with (go_at_call 9; refine (AW.out _ HB7.out).mono ?_; rintro e w8 ⟨rfl, hb⟩; have HB8 := Lib.hid (HB7.out.trans (hb.mono HB7.out.size)); clear hb)
      go_ret
      exact ⟨rfl, HB8.out⟩
  · have d30 : (30 : Int) < n := by omega
    clear h30
    go_enter Tryd.func4, Tryd.ntmps4
    go_wp2_with (first
      | (go_at_call 15; refine (CL.out _ (Below.refl _ _)).mono ?_; rintro e w1 ⟨rfl, hb⟩; have HB1 := Lib.hid hb; clear hb)
      | (go_at_call 10; refine (CP1.out _ HB1.out).mono ?_; rintro e w2 ⟨va, rfl, hva, hb⟩; have HA := Lib.hid (fun wx (hb : Below w2.heap.size w2 wx) => hva.keep hb); have HB2 := Lib.hid (HB1.out.trans (hb.mono HB1.out.size)); obtain ⟨A1, c1, rfl⟩ := ents_form hva; rw [HEL.out] at HA; rw [HEL.out]; clear hva hb; have CT := Lib.hid (HS.out.text w2 _ es (HT.out _ HB2.out) (HA.out _ (Below.refl _ _)) HF.out); rw [← HY.out] at CT))
    refine CT.out.mono ?_
    rintro e w3 ⟨rfl, hb⟩
    have HB3 := Lib.hid (HB2.out.trans (hb.mono HB2.out.size))
    have HA3 := Lib.hid (fun wx (hbx : Below w3.heap.size w3 wx) => HA.out wx (hb.trans (hbx.mono hb.size)))
    clear hb HA CT
    go_wp2_with (go_at_call 10; refine (CP2.out _ HB3.out).mono ?_; rintro e w4 ⟨vb, rfl, hvb, hb⟩; have HA4 := Lib.hid (HA3.out w4 hb); have HB4 := Lib.hid (HB3.out.trans (hb.mono HB3.out.size)); have SM := Lib.hid (esame_any w4 _ vb es es HA4.out hvb); rw [decide_eq_true (rfl : es = es)] at SM; clear hvb hb)
    refine SM.out.mono ?_
    rintro e w5 ⟨rfl, hb⟩
    have HB5 := Lib.hid (HB4.out.trans (hb.mono HB4.out.size))
    clear hb SM
    go_wp2_with (go_at_call 15; refine (CL.out _ HB5.out).mono ?_; rintro e w6 ⟨rfl, hb⟩; have HB6 := Lib.hid (HB5.out.trans (hb.mono HB5.out.size)); clear hb)
    refine (CP3.out _ HB6.out).mono ?_
    rintro e w7 ⟨vc, rfl, hvc, hb⟩
    have HB7 := Lib.hid (HB6.out.trans (hb.mono HB6.out.size))
    clear hb
    rcases H3.out with ⟨es3, rfl⟩ | ⟨nb, rfl, hnb⟩
    · obtain ⟨A3, c3, rfl⟩ := ents_form hvc
      clear hvc
      go_wp2_with (go_at_call 9; refine (AW.out _ HB7.out).mono ?_; rintro e w8 ⟨rfl, hb⟩; have HB8 := Lib.hid (HB7.out.trans (hb.mono HB7.out.size)); clear hb)
      go_ret
      exact ⟨rfl, HB8.out⟩
    · obtain ⟨A3, c3, rfl⟩ := ents_nil hvc
      have e1 : (30 : Int) < nb := by omega
      clear hvc hnb
      go_wp2_with (go_at_call 9; refine (AW.out _ HB7.out).mono ?_; rintro e w8 ⟨rfl, hb⟩; have HB8 := Lib.hid (HB7.out.trans (hb.mono HB7.out.size)); clear hb)
      go_ret
      exact ⟨rfl, HB8.out⟩
end Go.Proofs.YtmadlappalhmlaaDoor
