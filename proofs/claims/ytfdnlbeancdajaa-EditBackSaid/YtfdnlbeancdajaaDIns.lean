/- A buffer's Insert, by contract. -/
import Derived.Test.YtfdnlbeancdajaaDSplit
namespace Go.Proofs.Ytfdnlbeancdajaa
open Go Go.RowKit
variable {w : World} {b m : Nat} {ta oa da : Addr} {F : Nat → Prop} {h : Nat} {O D : ByteArray} {L : List Pc} {al : List (Bool × Nat)} {fr : List Nat}

theorem Bf.most_cell (hB : Bf w b m ta oa da F O D L h al fr) : w.cell? ⟨b, 0, none⟩ = some (.int .i64 (m : Int)) := hB.st.cells.1
theorem Bf.tree_cell (hB : Bf w b m ta oa da F O D L h al fr) : w.cell? ⟨b, 1, none⟩ = some (.pointer (some ta)) := hB.st.cells.2.1
theorem empty_of {t : ByteArray} : t.toList.isEmpty = decide (t.size = 0) := by
  rw [ByteArray.toList_eq]
  have hl : t.data.toList.length = t.size := by simp
  cases hd : t.data.toList with
  | nil => rw [hd] at hl; simp at hl; simp [← hl]
  | cons x s => rw [hd] at hl; simp at hl; simp [← hl]

set_option maxRecDepth 100000 in
theorem insert_place (hB : Bf w b m ta oa da F O D L h al fr) (k : Int) (t : ByteArray) (b1 : -9223372036854775808 ≤ k) (b2 : k ≤ 9223372036854775807) (hk : ¬ isIn (textOf O D L) k 0) :
    Calls Try.prog 39 #[.pointer (some ⟨b, 0, none⟩), .int .i64 k, .string t] w fun e w' => e = .returned (.int .i64 2) ∧ Below w.heap.size w w' := by
  have CH := Lib.hid (has_b hB k 0 b1 b2)
  rw [decide_eq_false hk] at CH
  clear hB hk b1 b2
  go_enter Try.func39, Try.ntmps39
  go_wp2_with fail
  refine CH.out.mono ?_
  rintro e w1 ⟨rfl, hb1⟩
  have HB1 := Lib.hid hb1
  clear hb1
  go_wp2_with fail
  go_ret
  exact ⟨rfl, HB1.out⟩

set_option maxRecDepth 100000 in
set_option maxHeartbeats 1000000 in
theorem insert_big (hB : Bf w b m ta oa da F O D L h al fr) (k : Int) (t : ByteArray) (b1 : -9223372036854775808 ≤ k) (b2 : k ≤ 9223372036854775807) (hk : isIn (textOf O D L) k 0) (ht : m < (textOf O D L).size + t.size) (hts : t.size ≤ 1000000) :
    Calls Try.prog 39 #[.pointer (some ⟨b, 0, none⟩), .int .i64 k, .string t] w fun e w' => e = .returned (.int .i64 3) ∧ Below w.heap.size w w' := by
  have CH := Lib.hid (has_b hB k 0 b1 b2)
  rw [decide_eq_true hk] at CH
  have HB := Lib.hid hB
  have z1 : (m : Int) ≤ 65536 := by have := hB.most; omega
  have z2 : (m : Int) < ((textOf O D L).size : Int) + t.size := by omega
  have z3 : ((textOf O D L).size : Int) ≤ m := by have := hB.fits; omega
  have z4 : (t.size : Int) ≤ 1000000 := by omega
  have z0 : (0 : Int) ≤ ((textOf O D L).size : Int) := by omega
  have CL := Lib.hid (fun wx (hx : Below w.heap.size w wx) => len_b (hB.below hx))
  obtain ⟨N, hN⟩ : ∃ N : Int, N = ((textOf O D L).size : Int) := ⟨_, rfl⟩
  rw [← hN] at z2 z3 z0 CL
  have hw : IntKind.i64.wrap ((m : Int) - N) = (m : Int) - N := IntWalk.i64_in _ (by omega)
  clear hB hk b1 b2 ht hts hN
  go_enter Try.func39, Try.ntmps39
  go_wp2_with fail
  refine CH.out.mono ?_
  rintro e w1 ⟨rfl, hb1⟩
  have c1 := (HB.out.below hb1).most_cell
  have CL1 := Lib.hid (CL.out w1.drew (below_drewN hb1 1))
  have HB1 := Lib.hid (below_drewN hb1 1)
  clear hb1
  go_wp2_with fail
  go_region_held3 (fun wx => wx.cell? ⟨b, 0, none⟩ = some (.int .i64 (m : Int)))
    (first | exact c1 | assumption)
    (first
      | (go_at_call 30; refine CL1.out.mono ?_; rintro e w2 ⟨rfl, hb2⟩; have HB2 := Lib.hid (HB1.out.trans (hb2.mono HB1.out.size)); have c2 := (HB.out.below HB2.out).most_cell; clear hb2))
  go_wp2_with fail
  go_ret
  exact ⟨rfl, HB2.out⟩

set_option maxRecDepth 100000 in
set_option maxHeartbeats 1000000 in
theorem insert_none (hB : Bf w b m ta oa da F O D L h al fr) (k : Nat) (t : ByteArray) (hk : isIn (textOf O D L) k 0) (ht : (textOf O D L).size + t.size ≤ m) (ht0 : t.size = 0) :
    Calls Try.prog 39 #[.pointer (some ⟨b, 0, none⟩), .int .i64 k, .string t] w fun e w' => e = .returned (.int .i64 0) ∧ Below w.heap.size w w' := by
  have hkk : k ≤ (textOf O D L).size := by have := hk.2.2.1; omega
  have hsz : (textOf O D L).size ≤ 65536 := Nat.le_trans hB.fits hB.most
  have CH := Lib.hid (has_b hB k 0 (by omega) (by omega))
  rw [decide_eq_true hk] at CH
  have HB := Lib.hid hB
  have z1 : (m : Int) ≤ 65536 := by have := hB.most; omega
  have z2 : ((textOf O D L).size : Int) + t.size ≤ m := by omega
  have z3 : ((textOf O D L).size : Int) ≤ m := by have := hB.fits; omega
  have z4 : (0 : Int) ≤ t.size := by omega
  have z0 : (0 : Int) ≤ ((textOf O D L).size : Int) := by omega
  have CL := Lib.hid (fun wx (hx : Below w.heap.size w wx) => len_b (hB.below hx))
  obtain ⟨N, hN⟩ : ∃ N : Int, N = ((textOf O D L).size : Int) := ⟨_, rfl⟩
  rw [← hN] at z2 z3 z0 CL
  have hw : IntKind.i64.wrap ((m : Int) - N) = (m : Int) - N := IntWalk.i64_in _ (by omega)
  have he : t.toList.isEmpty = true := by rw [empty_of, ht0]; rfl
  clear hB hk ht ht0 hN hkk hsz
  go_enter Try.func39, Try.ntmps39
  go_wp2_with fail
  refine CH.out.mono ?_
  rintro e w1 ⟨rfl, hb1⟩
  have c1 := (HB.out.below hb1).most_cell
  have CL1 := Lib.hid (CL.out w1.drew (below_drewN hb1 1))
  have HB1 := Lib.hid (below_drewN hb1 1)
  clear hb1
  go_wp2_with fail
  go_region_held3 (fun wx => wx.cell? ⟨b, 0, none⟩ = some (.int .i64 (m : Int)))
    (first | exact c1 | assumption)
    (first
      | (go_at_call 30; refine CL1.out.mono ?_; rintro e w2 ⟨rfl, hb2⟩; have HB2 := Lib.hid (HB1.out.trans (hb2.mono HB1.out.size)); have c2 := (HB.out.below HB2.out).most_cell; clear hb2))
  go_wp2_with fail
  go_ret
  exact ⟨rfl, HB2.out⟩

/-- What an Insert makes of the text. -/
theorem insert_text {L L' : List Pc} {k i : Nat} (hS : Splits O D L L' k i) (hf : ∀ x ∈ L', x.fits O D) (t : ByteArray) (key : Nat) :
    textOf O (D ++ t) (L'.take i ++ Pc.mk key true D.size t.size :: L'.drop i) = insT (textOf O D L) k t := by
  have h1 : textOf O (D ++ t) (L'.take i) = textOf O D (L'.take i) := textOf_add _ _ (fun x hx => hf x (List.mem_of_mem_take hx))
  have h2 : textOf O (D ++ t) (L'.drop i) = textOf O D (L'.drop i) := textOf_add _ _ (fun x hx => hf x (List.mem_of_mem_drop hx))
  have h3 : (Pc.mk key true D.size t.size).seg O (D ++ t) = t := ByteArray.extract_append_eq_right rfl rfl
  obtain ⟨p1, p2⟩ := text_parts (O := O) (D := D) (L'.take i) (L'.drop i) k hS.here
  rw [List.take_append_drop, hS.text] at p1 p2
  rw [textOf_append, textOf, h1, h2, h3, p1, p2, insT, ByteArray.append_assoc]

set_option maxRecDepth 100000 in
set_option maxHeartbeats 4000000 in
theorem insert_yes (hB : Bf w b m ta oa da F O D L h al fr) (k : Nat) (t : ByteArray) (hk : isIn (textOf O D L) k 0) (ht : (textOf O D L).size + t.size ≤ m) (ht0 : t.size ≠ 0) (hD : D.size + t.size ≤ 1000000) :
    Calls Try.prog 39 #[.pointer (some ⟨b, 0, none⟩), .int .i64 k, .string t] w fun e w' => e = .returned (.int .i64 0) ∧ ∃ L' h' al' fr' F', Bf w' b m ta oa da F' O (D ++ t) L' h' al' fr' ∧ Moved F w w' F' ∧ textOf O (D ++ t) L' = insT (textOf O D L) k t ∧ L'.length ≤ L.length + 2 := by
  have hkk : k ≤ (textOf O D L).size := by have := hk.2.2.1; omega
  have hsz : (textOf O D L).size ≤ 65536 := Nat.le_trans hB.fits hB.most
  have CH := Lib.hid (has_b hB k 0 (by omega) (by omega))
  rw [decide_eq_true hk] at CH
  have HB := Lib.hid hB
  have z1 : (m : Int) ≤ 65536 := by have := hB.most; omega
  have z2 : ((textOf O D L).size : Int) + t.size ≤ m := by omega
  have z3 : ((textOf O D L).size : Int) ≤ m := by have := hB.fits; omega
  have z4 : (0 : Int) ≤ t.size := by omega
  have z0 : (0 : Int) ≤ ((textOf O D L).size : Int) := by omega
  have CL := Lib.hid (fun wx (hx : Below w.heap.size w wx) => len_b (hB.below hx))
  obtain ⟨N, hN⟩ : ∃ N : Int, N = ((textOf O D L).size : Int) := ⟨_, rfl⟩
  rw [← hN] at z2 z3 z0 CL
  have hw : IntKind.i64.wrap ((m : Int) - N) = (m : Int) - N := IntWalk.i64_in _ (by omega)
  have he : t.toList.isEmpty = false := by rw [empty_of]; exact decide_eq_false ht0
  have HX := Lib.hid (And.intro hkk (And.intro ht (And.intro ht0 hD)))
  clear hB hk ht ht0 hN hkk hsz hD
  go_enter Try.func39, Try.ntmps39
  go_wp2_with fail
  refine CH.out.mono ?_
  rintro e w1 ⟨rfl, hb1⟩
  have c1 := (HB.out.below hb1).most_cell
  have CL1 := Lib.hid (CL.out w1.drew (below_drewN hb1 1))
  have HB1 := Lib.hid (below_drewN hb1 1)
  clear hb1
  go_wp2_with fail
  go_region_held3 (fun wx => wx.cell? ⟨b, 0, none⟩ = some (.int .i64 (m : Int)))
    (first | exact c1 | assumption)
    (first
      | (go_at_call 30; refine CL1.out.mono ?_; rintro e w2 ⟨rfl, hb2⟩; have HB2 := Lib.hid (HB1.out.trans (hb2.mono HB1.out.size)); have c2 := (HB.out.below HB2.out).most_cell; clear hb2))
  have hB3 := (HB.out.below HB2.out).drew
  have CS := Lib.hid (split_b hB3 HX.out.1)
  have HM3 := Lib.hid ((Moved.below (F := F) HB2.out).trans (Moved.drew _ _))
  have c3 := (HB.out.below HB2.out).tree_cell
  clear hB3 c1 c2
  go_wp2_with fail
  go_region_held3 (fun wx => wx.cell? ⟨b, 1, none⟩ = some (.pointer (some ta)))
    (first | exact c3 | assumption)
    (first
      | (go_at_call 56; refine CS.out.mono ?_; rintro e w4 ⟨i, L4, h4, al4, fr4, F4, rfl, hB4, hM4, hs4⟩; have c4 := hB4.tree_cell; have H4 := Lib.hid (And.intro hB4 (And.intro (HM3.out.trans hM4) hs4)); clear hB4 hM4 hs4)
      | (go_at_call 57; refine (add_any H4.out.1.st H4.out.1.fine.free (by have := H4.out.1.room; omega) (by have := H4.out.1.free; omega) t HX.out.2.2.2).mono ?_; rintro e w5 ⟨key, al5, fr5, F5, rfl, hp5, hS5, hM5⟩; have c5 := hS5.cells.2.1; have H5 := Lib.hid (And.intro hp5 (And.intro hS5 (H4.out.2.1.trans hM5))); clear hp5 hS5 hM5)
      | (go_at_call 25; obtain ⟨FT5, hT5, turn5⟩ := H5.out.2.1.tree; refine (Avl.insert_a hT5 i (key : Int) t.size (by rw [its_length]; exact H4.out.2.2.le) (by have := HX.out.2.2.2; omega) (by rw [its_length]; have h1 := H4.out.1.len; have h2 := H4.out.2.2.text; rw [h2] at h1; have := HX.out; have := HB.out.most; omega)).mono ?_; rintro e w6 ⟨rfl, FT6, h6, hr6, ho6, hf6⟩; obtain ⟨F6, hS6, hM6⟩ := turn5 w6 FT6 _ h6 hr6 ho6 hf6; have c6 := hS6.cells.2.1; have H6 := Lib.hid (And.intro hS6 (H5.out.2.2.trans hM6)); clear hT5 turn5 hr6 ho6 hf6 hS6 hM6))
  go_wp2_with fail
  go_ret
  obtain ⟨hB4, -, hs4⟩ := H4.out
  obtain ⟨hkk, ht, ht0, hD⟩ := HX.out
  have hadd : ∀ x ∈ L4, x.fits O (D ++ t) := fun x hx => Pc.fits_add (hB4.fine.fits x hx) t
  have hnew : (Pc.mk key true D.size t.size).fits O (D ++ t) := ⟨by show 0 < t.size; omega, by show D.size + t.size ≤ (D ++ t).size; rw [ByteArray.size_append]; omega⟩
  have hF : Fine O (D ++ t) al5 fr5 (L4.take i ++ Pc.mk key true D.size t.size :: L4.drop i) := hB4.fine.put H5.out.1 i t.size hs4.le (D ++ t) hadd hnew
  have hS6 := H6.out.1
  rw [show ((key : Int), t.size) = (Pc.mk key true D.size t.size).it from rfl, ← its_put] at hS6
  have htext := insert_text hs4 hB4.fine.fits t key
  have hcount := hF.count
  have hle := length_le_total _ hF.fits
  rw [← hF.size, htext, insT_size _ _ _ hkk] at hle
  have hll := hs4.len
  have hlen : (L4.take i ++ Pc.mk key true D.size t.size :: L4.drop i).length = L4.length + 1 := by
    have := hs4.le
    simp; omega
  refine ⟨rfl, _, h6, al5, fr5, F6, ⟨hS6, hF, by rw [htext, insT_size _ _ _ hkk]; exact ht, HB.out.most, HB.out.orig, by rw [ByteArray.size_append]; exact hD, ?_⟩, H6.out.2, htext, by rw [hlen]; omega⟩
  have hroom := hB4.room
  have hmost := HB.out.most
  rcases H5.out.1 with ⟨-, e⟩ | ⟨-, e1, -⟩
  · rw [e, List.length_set]; exact hroom
  · rw [e1] at hcount
    simp only [List.length_nil] at hcount
    omega
end Go.Proofs.Ytfdnlbeancdajaa
