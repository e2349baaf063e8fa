/- A buffer's Slice, Byte, Text, by contract. -/
import Derived.Test.YtfdnlbeancdajaaDDel
namespace Go.Proofs.Ytfdnlbeancdajaa
open Go Go.RowKit
variable {w : World} {b m : Nat} {ta oa da : Addr} {F : Nat → Prop} {h : Nat} {O D : ByteArray} {L : List Pc} {al : List (Bool × Nat)} {fr : List Nat}

set_option maxRecDepth 100000 in
theorem slice_place (hB : Bf w b m ta oa da F O D L h al fr) (k n : Int) (b1 : -9223372036854775808 ≤ k) (b2 : k ≤ 9223372036854775807) (hk : ¬ isIn (textOf O D L) k n) :
    Calls Try.prog 29 #[.pointer (some ⟨b, 0, none⟩), .int .i64 k, .int .i64 n] w fun e w' => e = .returned (.tuple #[.string ⟨#[]⟩, .int .i64 2]) ∧ Below w.heap.size w w' := by
  have CH := Lib.hid (has_b hB k n b1 b2)
  rw [decide_eq_false hk] at CH
  clear hB hk b1 b2
  go_enter Try.func29, Try.ntmps29
  go_wp2_with fail
  refine CH.out.mono ?_
  rintro e w1 ⟨rfl, hb1⟩
  have HB1 := Lib.hid hb1
  clear hb1
  go_wp2_with fail
  go_ret2
  exact ⟨rfl, HB1.out⟩

theorem builder_keep {T e : TypeId} {B c : Nat} {p : Value} {bs : List Value} {w w' : World} (h : Lib.BuilderAt T e B c p bs w) (hb : Below w.heap.size w w') : Lib.BuilderAt T e B c p bs w' := by
  obtain ⟨h0, v, h1, h2, h3⟩ := h
  have hl := (Array.getElem?_eq_some_iff.1 h1).1
  exact ⟨h0, v, (hb.block c hl).trans h1, Sto.row_frame h2 fun g hg => hb.block g (h2.lt g hg).2, h3⟩
theorem is_keep {T e : TypeId} {B c : Nat} {bs : List Value} {w w' : World} (h : Lib.IsBuilder T e B c bs w) (hb : Below w.heap.size w w') : Lib.IsBuilder T e B c bs w' :=
  h.imp (fun h => builder_keep h hb) (fun h => builder_keep h hb)
theorem sliceR_keep {w0 wr w' : World} {s : ByteArray} {k p : Nat} (h : Sto.SliceR w0 s k p wr) (hb : Below wr.heap.size wr w') : Sto.SliceR w0 s k p w' :=
  ⟨is_keep h.1 hb, h.2.trans (hb.mono h.2.size)⟩

/-- Bytes of a piece are bytes of the text. -/
theorem seg_cut (A B : List Pc) (y : Pc) (hy : y.fits O D) (off q : Nat) (hq : off + q ≤ y.size) :
    (textOf O D (A ++ y :: B)).extract ((textOf O D A).size + off) ((textOf O D A).size + off + q) = (if y.added then D else O).extract (y.frm + off) (y.frm + off + q) := by
  rw [textOf_append, textOf, Nat.add_assoc, ByteArray.extract_append_size_add, extract_add _ _ _ _ (by rw [seg_size hy]; exact hq)]
  show ((y.src O D).extract y.frm (y.frm + y.size)).extract off (off + q) = (y.src O D).extract (y.frm + off) (y.frm + off + q)
  rw [ByteArray.extract_extract, Nat.min_eq_left (by omega), Nat.add_assoc]

/-- Where Slice stands between two rounds. -/
def CutAt (O D : ByteArray) (L : List Pc) (k n i off j : Nat) : Prop := j < n → ∃ y, L[i]? = some y ∧ off < y.size ∧ (textOf O D (L.take i)).size + off = k + j

set_option maxRecDepth 100000 in
set_option maxHeartbeats 4000000 in
theorem slice_yes (hB : Bf w b m ta oa da F O D L h al fr) (k n : Nat) (hk : isIn (textOf O D L) k n) :
    Calls Try.prog 29 #[.pointer (some ⟨b, 0, none⟩), .int .i64 k, .int .i64 n] w fun e w' => e = .returned (.tuple #[.string ((textOf O D L).extract k (k + n)), .int .i64 0]) ∧ Below w.heap.size w w' := by
  have hsz : (textOf O D L).size ≤ 65536 := Nat.le_trans hB.fits hB.most
  have hkn : k + n ≤ (textOf O D L).size := by have := hk.2.2.2; have := hk.2.2.1; omega
  have CH := Lib.hid (has_b hB k n (by omega) (by omega))
  rw [decide_eq_true hk] at CH
  have HB := Lib.hid hB
  have htot := hB.fine.size
  have hfw := find_within (its L) k
  obtain ⟨i0, off0, hio⟩ : ∃ i off, findL (its L) k = (i, off) := ⟨_, _, rfl⟩
  rw [hio] at hfw
  dsimp only at hfw
  rw [before_take, ← hB.fine.take] at hfw
  have hat : CutAt O D L k n i0 off0 0 := fun h0 => by
    obtain ⟨x, hx1, hx2, hx3⟩ := hfw (by omega)
    rw [its_get] at hx1
    obtain ⟨y, hy1, rfl⟩ := Option.map_eq_some_iff.1 hx1
    exact ⟨y, hy1, hx2, hx3.1⟩
  have HX := Lib.hid (And.intro hkn (And.intro hsz (And.intro hat hio)))
  have k0 : (0 : Int) ≤ k := by omega
  have n0 : (0 : Int) ≤ n := by omega
  have n1 : (n : Int) ≤ 65536 := by omega
  clear hB hk hsz hkn htot hfw hio hat
  go_enter Try.func29, Try.ntmps29
  go_wp2_with fail
  refine CH.out.mono ?_
  rintro e w1 ⟨rfl, hb1⟩
  have hbk : (w1.alloc (.cells #[.pointer none, .slice none 0 0] /-t-/94)).heap[w1.heap.size]? = some (.cells #[.pointer none, .slice none 0 0] /-t-/94 (0, 0)) := World.alloc_heap_new _ _
  have CG := Lib.hid (Try.Builder_Grow_fresh w1.heap.size w1.heap.size n (w1.alloc (.cells #[.pointer none, .slice none 0 0] /-t-/94)) (Nat.le_refl _) hbk (by simp) (by omega))
  have HB1 := Lib.hid hb1
  clear hb1 hbk
  go_wp2_with fail
  refine CG.out.mono ?_
  rintro e w2 ⟨rfl, hat, hb⟩
  have H2 := Lib.hid (show Sto.SliceR w1 (textOf O D L) k (k + 0) w2 from ⟨.inr (by simpa [Sto.bytesOf, Lib.byteCells] using hat), ((Below.refl _ _).alloc (Nat.le_refl _) _).trans hb⟩)
  have hB2 := HB.out.below (HB1.out.trans (H2.out.2.mono HB1.out.size))
  have c2 := hB2.tree_cell
  obtain ⟨FT2, hT2, -⟩ := hB2.st.tree
  have CF := Lib.hid (Avl.find_a hT2 k (by have := HX.out.2.1; have := HX.out.1; omega))
  rw [HX.out.2.2.2] at CF
  clear hat hb hB2 hT2
  go_wp2_with fail
  refine CF.out.mono ?_
  rintro e w3 ⟨rfl, hb3⟩
  have H3 := Lib.hid (sliceR_keep H2.out hb3)
  clear hb3 c2 H2
  go_wp2_with fail
  go_loopw [9, 10] (fun x y wr => ∃ i off j : Nat, x = .int .i64 i ∧ y = .int .i64 off ∧ j ≤ n ∧ Hid (CutAt O D L k n i off j) ∧ Hid (Sto.SliceR w1 (textOf O D L) k (k + j) wr)) (fun x _ _ => L.length - (RowKit.intOf x).toNat)
  case atStart => exact ⟨i0, off0, 0, rfl, rfl, Nat.zero_le _, HX.out.2.2.1, H3⟩
  case round =>
    obtain ⟨i, off, j, rfl, rfl, hj, HC, HR⟩ := hrel
    have hlen := Sto.bytesOf_length (textOf O D L) k (k + j) (by omega) (by have := HX.out.1; omega)
    have CL := Lib.hid (fun wx (h : Lib.IsBuilder /-t-/94 /-t-/5 w1.heap.size w1.heap.size (Lib.byteCells (Sto.bytesOf (textOf O D L) k (k + j))) wx) => Try.Builder_Len w1.heap.size w1.heap.size _ wx h)
    rw [Lib.byteCells_length, hlen, Nat.add_sub_cancel_left] at CL
    clear hlen
    by_cases hjn : j < n
    · obtain ⟨y, hy1, hy2, hy3⟩ := HC.out hjn
      obtain ⟨hil, hie⟩ := List.getElem?_eq_some_iff.1 hy1
      have hym : y ∈ L := List.mem_of_getElem? hy1
      have hyf := HB.out.fine.fits y hym
      have hyh := HB.out.fine.here y hym
      obtain ⟨q, hq⟩ : ∃ q : Nat, q = min (y.size - off) (n - j) := ⟨_, rfl⟩
      have hsrc : (y.src O D).size ≤ 1000000 := by
        have := HB.out.orig; have := HB.out.adds
        unfold Pc.src; split <;> omega
      have hf2 := hyf.2
      have hw1 : IntKind.i64.wrap ((y.size : Int) - off) = (y.size : Int) - off := IntWalk.i64_in _ (by omega)
      have hw2 : IntKind.i64.wrap ((n : Int) - j) = (n : Int) - j := IntWalk.i64_in _ (by omega)
      have nm : min ((y.size : Int) - off) ((n : Int) - j) = (q : Int) := by omega
      have hw3 : IntKind.i64.wrap ((i : Int) + 1) = (i : Int) + 1 := IntWalk.i64_in _ (by have := HB.out.len; have := HX.out.2.1; omega)
      have j0 : (j : Int) < n := by omega
      have hseg : (if y.added then D else O).extract (y.frm + off) (y.frm + off + q) = (textOf O D L).extract (k + j) (k + j + q) := by
        have hL : L = L.take i ++ y :: L.drop (i + 1) := by rw [← hie, ← List.drop_eq_getElem_cons hil, List.take_append_drop]
        have := seg_cut (L.take i) (L.drop (i + 1)) y hyf off q (by omega)
        rw [← hL, hy3] at this
        exact this.symm
      have CP := Lib.hid (fun wx (hx : Below w.heap.size w wx) => part_any (HB.out.below hx).st hyh (by have := HB.out.room; omega) off q (by show _ ≤ (y.src O D).size; omega) (by have := HB.out.orig; omega) HB.out.adds)
      rw [hseg] at CP
      have hnext : CutAt O D L k n (i + 1) 0 (j + q) := fun hjq => by
        have hq2 : q = y.size - off := by omega
        have hL : L = L.take i ++ y :: L.drop (i + 1) := by rw [← hie, ← List.drop_eq_getElem_cons hil, List.take_append_drop]
        have hAl : (L.take i).length = i := by rw [List.length_take]; omega
        have hsz1 : (textOf O D (L.take (i + 1))).size = (textOf O D (L.take i)).size + y.size := by
          have e1 : L.take (i + 1) = L.take i ++ [y] := by
            have := take_parts (L.take i) (L.drop (i + 1)) y
            rw [← hL, hAl] at this
            exact this
          rw [e1, cut_size, textOf, textOf, ByteArray.size_append, seg_size hyf]; rfl
        have hil2 : i + 1 < L.length := by
          refine Nat.lt_of_not_le fun hle => ?_
          rw [List.take_of_length_le hle] at hsz1
          have := HX.out.1
          omega
        refine ⟨L[i + 1], List.getElem?_eq_getElem hil2, (HB.out.fine.fits _ (List.getElem_mem hil2)).1, ?_⟩
        rw [hsz1]; omega
      have HN := Lib.hid (And.intro hnext (And.intro hil (show j + q ≤ n by omega)))
      have HS := Lib.hid (show ((textOf O D L).extract (k + j) (k + j + q)).size ≤ 65536 ∧ Sto.bytesOf (textOf O D L) k (k + j) ++ Sto.bytesOf (textOf O D L) (k + j) (k + j + q) = Sto.bytesOf (textOf O D L) k (k + (j + q)) from ⟨by rw [ByteArray.size_extract]; have := HX.out; omega, by rw [Sto.bytesOf_join _ _ _ _ (by omega) (by omega), Nat.add_assoc]⟩)
      have hbb : (Lib.byteCells (Sto.bytesOf (textOf O D L) k (k + j))).length ≤ 65536 := by
        rw [Lib.byteCells_length, Sto.bytesOf_length _ _ _ (by omega) (by have := HX.out.1; omega)]; omega
      have HBB := Lib.hid hbb
      have CL1 := Lib.hid (CL.out wr HR.out.1)
      have hBr := HB.out.below (HB1.out.trans (HR.out.2.mono HB1.out.size))
      have c4 := hBr.tree_cell
      obtain ⟨FT4, hT4, -⟩ := hBr.st.tree
      have CG4 := Lib.hid (Avl.get_a hT4 i y.it (by rw [its_get, hy1]; rfl))
      simp only [Pc.it] at CG4
      clear hBr hT4 hbb hnext hseg hsrc hf2 hyf hyh hym hil hie hy1 hy2 hy3 hq hjn hj
      go_wp2_with fail
      refine CL1.out.mono ?_
      rintro e w4 ⟨rfl, rfl⟩
      go_wp2_with fail
      refine CG4.out.mono ?_
      rintro e w5 ⟨rfl, hb5⟩
      have H5 := Lib.hid (sliceR_keep (sliceR_keep HR.out hb5) (below_drewN (Below.refl _ _) 1))
      clear hb5 c4
      go_wp2_with fail
      go_region_held3 (fun wx => True)
        (trivial)
        (first
          | (go_at_call 44; refine (CL.out _ H5.out.1).mono ?_; rintro e w6 ⟨rfl, rfl⟩)
          | (go_at_call 47; refine (CP.out _ (HB1.out.trans (H5.out.2.mono HB1.out.size))).mono ?_; rintro e w7 ⟨rfl, hb7⟩; have H7 := Lib.hid (sliceR_keep H5.out hb7); clear hb7)
          | (go_at_call 46; refine (Sto.writes_any w1.heap.size w1.heap.size _ _ _ H7.out.1 (by have := HBB.out; have := HS.out.1; omega) H7.out.2.size).mono ?_; rintro e w8 ⟨⟨v, rfl⟩, hbu, hb8⟩; have H8 := Lib.hid (show Sto.SliceR w1 (textOf O D L) k (k + (j + q)) w8 from ⟨by rw [← HS.out.2, Lib.byteCells_append]; exact hbu, H7.out.2.trans hb8⟩); clear hbu hb8))
      go_wp2_with fail
      go_roundw
      case rel => exact ⟨i + 1, 0, j + q, by go_num, by go_num, HN.out.2.2, HN.out.1, H8⟩
      case measure => simp [RowKit.intOf]; have := HN.out.2.1; omega
    · obtain rfl : j = n := by omega
      have CL1 := Lib.hid (CL.out wr HR.out.1)
      have CS := Lib.hid (Try.Builder_String_any w1.heap.size w1.heap.size (Sto.bytesOf (textOf O D L) k (k + j)) wr HR.out.1 HR.out.2.size)
      have HBe := Lib.hid (HB1.out.trans (HR.out.2.mono HB1.out.size))
      clear hj hjn
      go_wp2_with fail
      refine CL1.out.mono ?_
      rintro e w4 ⟨rfl, rfl⟩
      go_wp2_with fail
      refine CS.out.mono ?_
      rintro e w5 ⟨rfl, hb5⟩
      have H5 := Lib.hid (HBe.out.trans (hb5.mono HB1.out.size))
      clear hb5
      go_wp2_with fail
      go_ret2
      exact ⟨rfl, H5.out⟩

set_option maxRecDepth 100000 in
theorem text_b (hB : Bf w b m ta oa da F O D L h al fr) :
    Calls Try.prog 16 #[.pointer (some ⟨b, 0, none⟩)] w fun e w' => e = .returned (.string (textOf O D L)) ∧ Below w.heap.size w w' := by
  have CL := Lib.hid (len_b hB)
  have CS := Lib.hid (fun wx (hx : Below w.heap.size w wx) => slice_yes (hB.below hx) 0 (textOf O D L).size ⟨by omega, by omega, by omega, by omega⟩)
  rw [Nat.zero_add, ByteArray.extract_zero_size] at CS
  clear hB
  generalize textOf O D L = s at *
  go_enter Try.func16, Try.ntmps16
  go_wp2_with fail
  refine CL.out.mono ?_
  rintro e w1 ⟨rfl, hb1⟩
  have HB1 := Lib.hid hb1
  clear hb1
  go_wp2_with fail
  refine (CS.out _ HB1.out).mono ?_
  rintro e w2 ⟨rfl, hb2⟩
  have HB2 := Lib.hid (HB1.out.trans (hb2.mono HB1.out.size))
  clear hb2
  go_wp2_with fail
  go_ret
  exact ⟨rfl, HB2.out⟩

end Go.Proofs.Ytfdnlbeancdajaa
