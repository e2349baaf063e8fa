/- A buffer's Delete, by contract. -/
import Derived.Test.YtfdnlbeancdajaaDIns
namespace Go.Proofs.Ytfdnlbeancdajaa
open Go Go.RowKit
variable {w : World} {b m : Nat} {ta oa da : Addr} {F : Nat → Prop} {h : Nat} {O D : ByteArray} {L : List Pc} {al : List (Bool × Nat)} {fr : List Nat}

set_option maxRecDepth 100000 in
theorem delete_place (hB : Bf w b m ta oa da F O D L h al fr) (k n : Int) (b1 : -9223372036854775808 ≤ k) (b2 : k ≤ 9223372036854775807) (hk : ¬ isIn (textOf O D L) k n) :
    Calls Try.prog 40 #[.pointer (some ⟨b, 0, none⟩), .int .i64 k, .int .i64 n] w fun e w' => e = .returned (.int .i64 2) ∧ Below w.heap.size w w' := by
  have CH := Lib.hid (has_b hB k n b1 b2)
  rw [decide_eq_false hk] at CH
  clear hB hk b1 b2
  go_enter Try.func40, Try.ntmps40
  go_wp2_with fail
  refine CH.out.mono ?_
  rintro e w1 ⟨rfl, hb1⟩
  have HB1 := Lib.hid hb1
  clear hb1
  go_wp2_with fail
  go_ret
  exact ⟨rfl, HB1.out⟩
set_option maxRecDepth 100000 in
theorem delete_none (hB : Bf w b m ta oa da F O D L h al fr) (k : Int) (b1 : -9223372036854775808 ≤ k) (b2 : k ≤ 9223372036854775807) (hk : isIn (textOf O D L) k 0) :
    Calls Try.prog 40 #[.pointer (some ⟨b, 0, none⟩), .int .i64 k, .int .i64 0] w fun e w' => e = .returned (.int .i64 0) ∧ Below w.heap.size w w' := by
  have CH := Lib.hid (has_b hB k 0 b1 b2)
  rw [decide_eq_true hk] at CH
  clear hB hk b1 b2
  go_enter Try.func40, Try.ntmps40
  go_wp2_with fail
  refine CH.out.mono ?_
  rintro e w1 ⟨rfl, hb1⟩
  have HB1 := Lib.hid hb1
  clear hb1
  go_wp2_with fail
  go_ret
  exact ⟨rfl, HB1.out⟩

/-- Between two rounds of Delete's loop. -/
def DelR (w : World) (b m : Nat) (ta oa da : Addr) (F : Nat → Prop) (O D : ByteArray) (L : List Pc) (j e0 : Nat) (wr : World) : Prop :=
  ∃ F' h al fr, Bf wr b m ta oa da F' O D (L.take j ++ L.drop e0) h al fr ∧ Moved F w wr F'
theorem DelR.round {w0 wr : World} {j e0 : Nat} (hR : DelR w0 b m ta oa da F O D L (j + 1) e0 wr) (hj : j < L.length) :
    Calls Try.prog 58 #[.pointer (some ⟨b, 0, none⟩), .int .i64 j] wr fun e w' => e = .returned (.tuple #[]) ∧ DelR w0 b m ta oa da F O D L j e0 w' := by
  obtain ⟨F', h, al, fr, hB, hM⟩ := hR
  have hlen : (L.take (j + 1)).length = j + 1 := by rw [List.length_take]; omega
  refine (remove_b hB (i := j) (by rw [List.length_append]; omega)).mono ?_
  rintro e w' ⟨he, F2, h2, fr2, hB2, hM2⟩
  have e1 : (L.take (j + 1) ++ L.drop e0).take j ++ (L.take (j + 1) ++ L.drop e0).drop (j + 1) = L.take j ++ L.drop e0 := by
    rw [List.take_append_of_le_length (by omega), List.take_take, Nat.min_eq_left (by omega), List.drop_append_of_le_length (by omega), List.drop_of_length_le (by omega), List.nil_append]
  rw [e1] at hB2
  exact ⟨he, F2, h2, al, fr2, hB2, hM.trans hM2⟩

set_option maxRecDepth 100000 in
set_option maxHeartbeats 4000000 in
theorem delete_yes (hB : Bf w b m ta oa da F O D L h al fr) (k n : Nat) (hk : isIn (textOf O D L) k n) (hn : 0 < n) :
    Calls Try.prog 40 #[.pointer (some ⟨b, 0, none⟩), .int .i64 k, .int .i64 n] w fun e w' => e = .returned (.int .i64 0) ∧ ∃ L' h' al' fr' F', Bf w' b m ta oa da F' O D L' h' al' fr' ∧ Moved F w w' F' ∧ textOf O D L' = delT (textOf O D L) k n ∧ L'.length ≤ L.length + 1 := by
  have hsz : (textOf O D L).size ≤ 65536 := Nat.le_trans hB.fits hB.most
  have hkn : k + n ≤ (textOf O D L).size := by have := hk.2.2.2; have := hk.2.2.1; omega
  have CH := Lib.hid (has_b hB k n (by omega) (by omega))
  rw [decide_eq_true hk] at CH
  have HB := Lib.hid hB
  have HX := Lib.hid (And.intro hkn (And.intro hn hsz))
  have hw : IntKind.i64.wrap ((k : Int) + n) = (k : Int) + n := IntWalk.i64_in _ (by omega)
  have n0 : (0 : Int) < n := by omega
  clear hB hk hsz hkn hn
  go_enter Try.func40, Try.ntmps40
  go_wp2_with fail
  refine CH.out.mono ?_
  rintro e w1 ⟨rfl, hb1⟩
  have hB1 := HB.out.below hb1
  have CS := Lib.hid (split_b hB1 (k := k) (by have := HX.out; omega))
  have HM1 := Lib.hid (Moved.below (F := F) hb1)
  clear hb1 hB1
  go_wp2_with fail
  refine CS.out.mono ?_
  rintro e w2 ⟨i1, L1, h1, al1, fr1, F1, rfl, hB1, hM1, hs1⟩
  have CS2 := Lib.hid (split_b hB1 (k := k + n) (by rw [hs1.text]; exact HX.out.1))
  rw [Int.natCast_add] at CS2
  have HM2 := Lib.hid (HM1.out.trans hM1)
  have H1 := Lib.hid hs1
  clear hB1 hM1 hs1
  go_wp2_with fail
  refine CS2.out.mono ?_
  rintro e w3 ⟨i2, L2, h2, al2, fr2, F2, rfl, hB2, hM2, hs2⟩
  have hmid : i1 < i2 := by
    refine Nat.lt_of_not_le fun hle => ?_
    have e1 := hs2.ahead i1 H1.out.le (by rw [H1.out.here]; omega)
    have e2 := take_mono (O := O) (D := D) L2 hle
    rw [hs2.here, e1, H1.out.here] at e2
    have := HX.out.2.1
    omega
  have hlong := hB2.len
  rw [hs2.text, H1.out.text] at hlong
  have H2 := Lib.hid hs2
  have hR : DelR w b m ta oa da F O D L2 i2 i2 w3 := ⟨F2, h2, al2, fr2, by rw [List.take_append_drop]; exact hB2, HM2.out.trans hM2⟩
  have HR := Lib.hid hR
  have HI := Lib.hid (And.intro hmid hlong)
  have hi2 : (i2 : Int) ≤ 65536 := by have := hs2.le; have := HX.out; omega
  have hi1 : (0 : Int) ≤ i1 := by omega
  clear hB2 hM2 hs2 hR hlong
  go_wp2_with fail
  go_loopw [8] (fun x wr => ∃ j : Nat, x = .int .i64 j ∧ i1 ≤ j ∧ j ≤ i2 ∧ Hid (DelR w b m ta oa da F O D L2 j i2 wr)) (fun x _ => (RowKit.intOf x).toNat)
  case atStart => exact ⟨i2, rfl, by omega, Nat.le_refl _, HR.out⟩
  case round =>
    obtain ⟨j, rfl, hj1, hj2, HJ⟩ := hrel
    by_cases hj : i1 = j
    · subst hj
      clear hj1 hj2
      go_wp2_with fail
      go_ret
      obtain ⟨F3, h3, al3, fr3, hB3, hM3⟩ := HJ.out
      have hs1 := H1.out
      have hs2 := H2.out
      have hkn := HX.out.1
      have e1 := hs2.ahead i1 hs1.le (by rw [hs1.here]; omega)
      have p1 := (text_parts (O := O) (D := D) (L1.take i1) (L1.drop i1) k hs1.here).1
      have p2 := (text_parts (O := O) (D := D) (L2.take i2) (L2.drop i2) (k + n) hs2.here).2
      rw [List.take_append_drop, hs1.text] at p1
      rw [List.take_append_drop, hs2.text, hs1.text] at p2
      refine ⟨rfl, _, h3, al3, fr3, F3, hB3, hM3, ?_, ?_⟩
      · rw [textOf_append, e1, p1, p2]; rfl
      · have l1 := hs1.len
        have l2 := hs2.len
        have l3 := hs2.le
        have l4 := HI.out.1
        rw [List.length_append, List.length_take, List.length_drop]
        omega
    · obtain ⟨j', rfl⟩ : ∃ j', j = j' + 1 := ⟨j - 1, by omega⟩
      have CR := Lib.hid (HJ.out.round (by have := H2.out.le; omega))
      have g1 : (i1 : Int) ≤ j' := by omega
      have g0 : (0 : Int) ≤ j' := by omega
      have g2 : (j' : Int) ≤ 65536 := by omega
      have HG := Lib.hid (And.intro hj1 (And.intro hj2 hj))
      clear hj hj1 hj2
      go_wp2_with fail
      refine CR.out.mono ?_
      rintro e w4 ⟨rfl, hR4⟩
      have HR4 := Lib.hid hR4
      clear hR4
      go_wp2_with fail
      go_roundw
      case rel => exact ⟨j', by go_num, by have := HG.out; omega, by have := HG.out; omega, HR4⟩
      case measure => simp [RowKit.intOf]
end Go.Proofs.Ytfdnlbeancdajaa
