/- A buffer's remove and split, by contract. -/
import Derived.Test.YtfdnlbeancdajaaDBuf
namespace Go.Proofs.Ytfdnlbeancdajaa
open Go Go.RowKit
variable {w : World} {b m : Nat} {ta oa da : Addr} {F : Nat → Prop} {h : Nat} {O D : ByteArray} {L : List Pc} {al : List (Bool × Nat)} {fr : List Nat}

theorem cut_size (A B : List Pc) : (textOf O D (A ++ B)).size = (textOf O D A).size + (textOf O D B).size := by rw [textOf_append, ByteArray.size_append]
theorem drop_size {x : Pc} {i : Nat} (hx : L[i]? = some x) : (textOf O D (L.take i ++ L.drop (i + 1))).size ≤ (textOf O D L).size := by
  obtain ⟨hi, he⟩ := List.getElem?_eq_some_iff.1 hx
  have hL : L = L.take i ++ x :: L.drop (i + 1) := by rw [← he, ← List.drop_eq_getElem_cons hi, List.take_append_drop]
  have h1 : (textOf O D L).size = (textOf O D (L.take i)).size + (textOf O D (x :: L.drop (i + 1))).size := by rw [← cut_size, ← hL]
  rw [cut_size, h1, textOf, ByteArray.size_append]; omega

set_option maxRecDepth 100000 in
set_option maxHeartbeats 1000000 in
theorem remove_b (hB : Bf w b m ta oa da F O D L h al fr) {i : Nat} (hi : i < L.length) :
    Calls Try.prog 58 #[.pointer (some ⟨b, 0, none⟩), .int .i64 i] w fun e w' => e = .returned (.tuple #[]) ∧ ∃ F' h' fr', Bf w' b m ta oa da F' O D (L.take i ++ L.drop (i + 1)) h' al fr' ∧ Moved F w w' F' := by
  obtain ⟨-, c1, -, -⟩ := hB.st.cells
  obtain ⟨x, hx⟩ : ∃ x, L[i]? = some x := ⟨_, List.getElem?_eq_getElem hi⟩
  obtain ⟨FT, hT, -⟩ := hB.st.tree
  have CG := Lib.hid (Avl.get_a hT i x.it (by rw [its_get, hx]; rfl))
  have HX := Lib.hid hx
  have HB := Lib.hid hB
  have HI := Lib.hid hi
  show Calls _ _ _ _ _
  clear hB hT hx
  simp only [Pc.it] at CG
  clear hi
  go_enter Try.func58, Try.ntmps58
  go_wp2_with fail
  refine CG.out.mono ?_
  rintro e w1 ⟨rfl, hb1⟩
  have hB1 := HB.out.below hb1
  have CD := Lib.hid (drop_any hB1.st (by have := hB1.free; omega) x.key)
  have HM1 := Lib.hid (Moved.below (F := F) hb1)
  clear hb1 hB1 c1
  go_wp2_with fail
  refine CD.out.mono ?_
  rintro e w2 ⟨F2, rfl, hS2, hM2⟩
  obtain ⟨-, c2, -, -⟩ := hS2.cells
  obtain ⟨FT2, hT2, turn⟩ := hS2.tree
  have CR := Lib.hid (Avl.remove_a hT2 i (by rw [its_length]; exact HI.out))
  have H2 := Lib.hid (HM1.out.trans hM2)
  have HT := Lib.hid turn
  clear hS2 hM2 hT2 turn
  go_wp2_with fail
  refine CR.out.mono ?_
  rintro e w3 ⟨rfl, FT3, h3, hr3, ho3, hf3⟩
  obtain ⟨F3, hS3, hM3⟩ := HT.out w3 FT3 _ h3 hr3 ho3 hf3
  have H3 := Lib.hid (And.intro hS3 (H2.out.trans hM3))
  clear hr3 ho3 hf3 hS3 hM3
  go_wp2_with fail
  go_end0
  refine ⟨rfl, F3, h3, fr ++ [x.key], ⟨?_, HB.out.fine.drop HX.out, ?_, HB.out.most, HB.out.orig, HB.out.adds, HB.out.room⟩, H3.out.2⟩
  · rw [its_drop]; exact H3.out.1
  · exact Nat.le_trans (drop_size HX.out) HB.out.fits

theorem set_parts (A B : List Pc) (y y1 : Pc) : (A ++ y :: B).set A.length y1 = A ++ y1 :: B := by simp
theorem take_parts (A B : List Pc) (y : Pc) : (A ++ y :: B).take (A.length + 1) = A ++ [y] := by
  rw [List.take_append, List.take_of_length_le (by omega), Nat.add_sub_cancel_left]; rfl
theorem drop_parts (A B : List Pc) (y : Pc) : (A ++ y :: B).drop (A.length + 1) = B := by
  rw [List.drop_append, List.drop_of_length_le (by omega), Nat.add_sub_cancel_left]; rfl
theorem before_take (T : List It) (i : Nat) : before T (i : Int) = total (T.take i) := by simp [before, total]
theorem take_mono (L : List Pc) {i j : Nat} (h : i ≤ j) : (textOf O D (L.take i)).size ≤ (textOf O D (L.take j)).size := by
  have e : L.take j = L.take i ++ (L.drop i).take (j - i) := by
    conv => lhs; rw [← List.take_append_drop i (L.take j)]
    rw [List.take_take, Nat.min_eq_left h, List.drop_take]
  rw [e, cut_size]; omega

/-- What split makes of the pieces. -/
structure Splits (O D : ByteArray) (L L' : List Pc) (k i : Nat) : Prop where
  text : textOf O D L' = textOf O D L
  le : i ≤ L'.length
  here : (textOf O D (L'.take i)).size = k
  len : L'.length ≤ L.length + 1
  ahead : ∀ j, j ≤ L.length → (textOf O D (L.take j)).size ≤ k → L'.take j = L.take j

set_option maxRecDepth 100000 in
set_option maxHeartbeats 4000000 in
theorem split_b (hB : Bf w b m ta oa da F O D L h al fr) {k : Nat} (hk : k ≤ (textOf O D L).size) :
    Calls Try.prog 56 #[.pointer (some ⟨b, 0, none⟩), .int .i64 k] w fun e w' => ∃ (i : Nat) (L' : List Pc) (h' : Nat) (al' : List (Bool × Nat)) (fr' : List Nat) (F' : Nat → Prop), e = .returned (.int .i64 i) ∧ Bf w' b m ta oa da F' O D L' h' al' fr' ∧ Moved F w w' F' ∧ Splits O D L L' k i := by
  obtain ⟨-, c1, -, -⟩ := hB.st.cells
  obtain ⟨FT, hT, -⟩ := hB.st.tree
  have hz : (textOf O D L).size ≤ 65536 := Nat.le_trans hB.fits hB.most
  have htot := hB.fine.size
  have CF := Lib.hid (Avl.find_a hT k (by omega))
  have hfa := find_above (its L) k
  have hfw := find_within (its L) k
  obtain ⟨i, off, hio⟩ : ∃ i off, findL (its L) k = (i, off) := ⟨_, _, rfl⟩
  rw [hio] at CF hfa hfw
  dsimp only at CF hfa hfw
  rw [before_take, ← hB.fine.take] at hfw
  by_cases h0 : off = 0
  · subst h0
    have hS : Splits O D L L k i := by
      by_cases hlt : k < total (its L)
      · obtain ⟨x, hx1, -, hx3⟩ := hfw hlt
        have := (List.getElem?_eq_some_iff.1 hx1).1
        rw [its_length] at this
        exact ⟨rfl, by omega, by have := hx3.1; omega, by omega, fun _ _ _ => rfl⟩
      · have he := hfa (by omega)
        rw [its_length] at he
        cases he
        exact ⟨rfl, Nat.le_refl _, by rw [List.take_length]; omega, by omega, fun _ _ _ => rfl⟩
    have HB := Lib.hid hB
    have HS := Lib.hid hS
    clear hB hT hz htot hfa hfw hS hio hk
    go_enter Try.func56, Try.ntmps56
    go_wp2_with fail
    refine CF.out.mono ?_
    rintro e w1 ⟨rfl, hb1⟩
    have HB1 := Lib.hid hb1
    clear hb1
    go_wp2_with fail
    go_ret
    exact ⟨i, L, h, al, fr, F, rfl, HB.out.below HB1.out, Moved.below HB1.out, HS.out⟩
  · have hlt : k < total (its L) := by
      by_cases hlt : k < total (its L)
      · exact hlt
      · have he := hfa (by omega)
        cases he
        exact absurd rfl h0
    obtain ⟨x, hx1, hx2, hx3⟩ := hfw hlt
    rw [its_get] at hx1
    obtain ⟨y, hy1, rfl⟩ := Option.map_eq_some_iff.1 hx1
    have hx2' : off < y.size := hx2
    have hym : y ∈ L := List.mem_of_getElem? hy1
    obtain ⟨f1, f2⟩ := hB.fine.fits y hym
    obtain ⟨hil, hie⟩ := List.getElem?_eq_some_iff.1 hy1
    -- the list in parts
    obtain ⟨A, B, hL, hA⟩ : ∃ A B, L = A ++ y :: B ∧ A.length = i := ⟨L.take i, L.drop (i + 1), by rw [← hie, ← List.drop_eq_getElem_cons hil, List.take_append_drop], by rw [List.length_take]; omega⟩
    have hk0 : (textOf O D A).size + off = k := by
      have : L.take i = A := by rw [hL, ← hA, List.take_left' rfl]
      rw [this] at hx3; exact hx3.1
    have hys : (y.seg O D).size = y.size := seg_size ⟨f1, f2⟩
    have hfc := hB.fine.cut hy1 off (by omega) (by omega)
    have hset : L.set i ⟨y.key, y.added, y.frm, off⟩ = A ++ ⟨y.key, y.added, y.frm, off⟩ :: B := by rw [hL, ← hA, set_parts]
    have hy1s : ((Pc.mk y.key y.added y.frm off).seg O D).size = off := seg_size (x := Pc.mk y.key y.added y.frm off) ⟨by show 0 < off; omega, by show y.frm + off ≤ (y.src O D).size; omega⟩
    have htL : (textOf O D L).size = (textOf O D A).size + (y.size + (textOf O D B).size) := by rw [hL, cut_size, textOf, ByteArray.size_append, hys]
    have ht1 : (textOf O D (L.set i ⟨y.key, y.added, y.frm, off⟩)).size = (textOf O D A).size + (off + (textOf O D B).size) := by rw [hset, cut_size, textOf, ByteArray.size_append, hy1s]
    have hl1 : (L.set i ⟨y.key, y.added, y.frm, off⟩).length < 65536 := by
      have := length_le_total _ hfc.fits
      rw [← hfc.size, ht1] at this
      omega
    have hsrc : (y.src O D).size ≤ 1000000 := by
      have := hB.orig; have := hB.adds
      unfold Pc.src; split <;> omega
    have HB := Lib.hid hB
    have HX := Lib.hid (And.intro hfc (And.intro hl1 (And.intro hset (And.intro ht1 (And.intro htL hA)))))
    have HY := Lib.hid (And.intro hL (And.intro hk0 (And.intro hys (And.intro f2 (And.intro hx2' (And.intro hz hsrc))))))
    have HH := Lib.hid (hB.fine.here y hym)
    have HO := Lib.hid (And.intro hy1 hil)
    have o0 : (0 : Int) < off := by omega
    have o1 : (off : Int) < y.size := by omega
    have o2 : (y.size : Int) ≤ 1000000 := by omega
    have i0 : (0 : Int) ≤ i := by omega
    have i1 : (i : Int) ≤ 65536 := by have := hB.len; omega
    clear hB hT hz htot hfa hfw hio hk hfc hset hys htL ht1 hl1 hsrc hL hA hk0 f1 f2 hx2' hx1 hx2 hx3 hlt hy1 hil hie hym hy1s
    go_enter Try.func56, Try.ntmps56
    go_wp2_with fail
    refine CF.out.mono ?_
    rintro e w1 ⟨rfl, hb1⟩
    have hB1 := HB.out.below hb1
    obtain ⟨-, c2, -, -⟩ := hB1.st.cells
    obtain ⟨FT1, hT1, -⟩ := hB1.st.tree
    have CG := Lib.hid (Avl.get_a hT1 i y.it (by rw [its_get, HO.out.1]; rfl))
    simp only [Pc.it] at CG
    have HM1 := Lib.hid (Moved.below (F := F) hb1)
    have HB1 := Lib.hid hB1
    clear hb1 hB1 hT1 c1
    go_wp2_with fail
    refine CG.out.mono ?_
    rintro e w2 ⟨rfl, hb2⟩
    have hB2 := HB1.out.below hb2
    obtain ⟨-, c3, -, -⟩ := hB2.st.cells
    obtain ⟨FT2, hT2, turn⟩ := hB2.st.tree
    have CS := Lib.hid (Avl.set_a hT2 i y.key off (by rw [its_length]; exact HO.out.2) (by have := HY.out.2.2.2.2; omega))
    have HM2 := Lib.hid (HM1.out.trans (Moved.below hb2))
    have HT2 := Lib.hid turn
    clear hb2 hB2 hT2 turn c2
    go_wp2_with fail
    refine CS.out.mono ?_
    rintro e w3 ⟨rfl, FT3, h3, hr3, ho3, hf3⟩
    obtain ⟨F3, hS3, hM3⟩ := HT2.out w3 FT3 _ h3 hr3 ho3 hf3
    obtain ⟨-, c4, -, -⟩ := hS3.cells
    have hs3 : St w3 b m ta oa da F3 (its (L.set i ⟨y.key, y.added, y.frm, off⟩)) h3 O D al fr := by rw [its_set]; exact hS3
    have CR := Lib.hid (rest_any hs3.drew HH.out HB.out.fine.free (by have := HB.out.room; omega) (by have := HB.out.free; omega) off (by have := HY.out.2.2.2; omega))
    have HM3 := Lib.hid (HM2.out.trans (hM3.trans (Moved.drew _ _)))
    have hw1 : IntKind.i64.wrap ((i : Int) + 1) = (i : Int) + 1 := IntWalk.i64_in _ (by omega)
    have hw2 : IntKind.i64.wrap ((y.size : Int) - off) = (y.size : Int) - off := IntWalk.i64_in _ (by omega)
    have CI := Lib.hid (show ∀ (wx : World) (FT : Nat → Prop) (key' : Nat), Avl.RepA FT wx ta (its (L.set i ⟨y.key, y.added, y.frm, off⟩)) h3 → Calls Try.prog 25 #[.pointer (some ta), .int .i64 ((i : Int) + 1), .int .i64 key', .int .i64 ((y.size : Int) - off)] wx fun e w' => e = .returned (.bool true) ∧ ∃ F' h', Avl.RepA F' w' ta (putL (its (L.set i ⟨y.key, y.added, y.frm, off⟩)) (i + 1) ((key' : Int), y.size - off)) h' ∧ OnlyAt FT wx w' ∧ ∀ k, F' k → FT k ∨ wx.heap.size ≤ k from fun wx FT key' hr => by
      have hoff := HY.out.2.2.2.2.1
      have := Avl.insert_a hr (i + 1) (key' : Int) (y.size - off) (by rw [its_length, List.length_set]; exact HO.out.2) (by have := HY.out.2.2.2; omega) (by rw [its_length]; exact HX.out.2.1)
      rw [Int.natCast_sub (by omega), Int.natCast_add] at this
      exact this)
    clear hr3 ho3 hf3 hS3 hM3 hs3 c3
    go_wp2_with fail
    go_region_held3 (fun wx => wx.cell? ⟨b, 1, none⟩ = some (.pointer (some ta)))
      (first | exact c4 | assumption)
      (first
        | (go_at_call 70; refine CR.out.mono ?_; rintro e w5 ⟨key', al', fr', F5, rfl, hp5, hS5, hM5⟩; have c5 := hS5.cells.2.1; have H5 := Lib.hid (And.intro hp5 (And.intro hS5 (HM3.out.trans hM5))); clear hp5 hS5 hM5)
        | (go_at_call 25; obtain ⟨FT5, hT5, turn5⟩ := H5.out.2.1.tree; refine (CI.out _ FT5 key' hT5).mono ?_; rintro e w6 ⟨rfl, FT6, h6, hr6, ho6, hf6⟩; obtain ⟨F6, hS6, hM6⟩ := turn5 w6 FT6 _ h6 hr6 ho6 hf6; have c6 := hS6.cells.2.1; have H6 := Lib.hid (And.intro hS6 (H5.out.2.2.trans hM6)); clear hT5 turn5 hr6 ho6 hf6 hS6 hM6))
    go_wp2_with fail
    go_ret
    obtain ⟨hL, hk0, hys, f2, hx2', hz, hsrc⟩ := HY.out
    obtain ⟨hfc, hl1, hset, ht1, htL, hA⟩ := HX.out
    have hfit2 : (Pc.mk key' y.added (y.frm + off) (y.size - off)).fits O D := ⟨by show 0 < y.size - off; omega, by show y.frm + off + (y.size - off) ≤ (y.src O D).size; omega⟩
    have hF := hfc.put H5.out.1 (i + 1) (y.size - off) (by rw [List.length_set]; exact HO.out.2) D hfc.fits hfit2
    have hits := its_put (L.set i ⟨y.key, y.added, y.frm, off⟩) (i + 1) ⟨key', y.added, y.frm + off, y.size - off⟩
    have hS6' := H6.out.1
    rw [show ((key' : Int), y.size - off) = (Pc.mk key' y.added (y.frm + off) (y.size - off)).it from rfl, ← hits] at hS6'
    have hyl : y ∈ L := List.mem_of_getElem? HO.out.1
    have htwo := two_seg (HB.out.fine.fits y hyl) off key' (by omega)
    have hlist : (L.set i ⟨y.key, y.added, y.frm, off⟩).take (i + 1) ++ Pc.mk key' y.added (y.frm + off) (y.size - off) :: (L.set i ⟨y.key, y.added, y.frm, off⟩).drop (i + 1) = A ++ Pc.mk y.key y.added y.frm off :: Pc.mk key' y.added (y.frm + off) (y.size - off) :: B := by
      rw [hset, ← hA, take_parts, drop_parts, List.append_assoc]; rfl
    rw [hlist] at hF hS6'
    have htext : textOf O D (A ++ Pc.mk y.key y.added y.frm off :: Pc.mk key' y.added (y.frm + off) (y.size - off) :: B) = textOf O D L := by
      rw [hL, textOf_append, textOf_append, textOf, textOf, textOf, ← htwo, ByteArray.append_assoc]
    have hcount := hF.count
    refine ⟨i + 1, _, h6, al', fr', F6, rfl, ⟨hS6', hF, by rw [htext]; exact HB.out.fits, HB.out.most, HB.out.orig, HB.out.adds, ?_⟩, H6.out.2, ⟨htext, by simp only [List.length_append, List.length_cons]; omega, ?_, by rw [hL]; simp only [List.length_append, List.length_cons]; omega, ?_⟩⟩
    · have hroom := HB.out.room
      rcases H5.out.1 with ⟨-, e⟩ | ⟨-, e1, -⟩
      · rw [e, List.length_set]; exact hroom
      · have hle := length_le_total _ hF.fits
        rw [← hF.size, htext] at hle
        rw [e1] at hcount
        simp only [List.length_nil] at hcount
        omega
    · rw [← hA, take_parts, cut_size, textOf, textOf, ByteArray.size_append]
      have : ((Pc.mk y.key y.added y.frm off).seg O D).size = off := seg_size (x := Pc.mk y.key y.added y.frm off) ⟨by show 0 < off; omega, by show y.frm + off ≤ (y.src O D).size; omega⟩
      rw [this]
      show (textOf O D A).size + (off + 0) = k
      omega
    · intro j hj hjk
      have hji : j ≤ A.length := by
        refine Nat.le_of_not_lt fun hlt => ?_
        have h1 := take_mono (O := O) (D := D) L (show A.length + 1 ≤ j by omega)
        have h2 : (textOf O D (L.take (A.length + 1))).size = (textOf O D A).size + y.size := by
          rw [hL, take_parts, cut_size, textOf, textOf, ByteArray.size_append, hys]; rfl
        omega
      rw [hL, List.take_append_of_le_length hji, List.take_append_of_le_length hji]
end Go.Proofs.Ytfdnlbeancdajaa
