/- A buffer's smaller calls, by contract: Len, Pieces, Height, has, split, remove. -/
import Derived.Test.YtfdnlbeancdajaaDPart
import Derived.Test.YtfdnlbeancdajaaCFlat
import Derived.Deep.RegionHeld3
namespace Go.Proofs.Ytfdnlbeancdajaa
open Go Go.RowKit

/-- At b, in the blocks F, a buffer of the pieces L. -/
structure Bf (w : World) (b m : Nat) (ta oa da : Addr) (F : Nat → Prop) (O D : ByteArray) (L : List Pc) (h : Nat) (al : List (Bool × Nat)) (fr : List Nat) : Prop where
  st : St w b m ta oa da F (its L) h O D al fr
  fine : Fine O D al fr L
  fits : (textOf O D L).size ≤ m
  most : m ≤ 65536
  orig : O.size ≤ 65536
  adds : D.size ≤ 1000000
  room : al.length ≤ 65536
variable {w : World} {b m : Nat} {ta oa da : Addr} {F : Nat → Prop} {h : Nat} {O D : ByteArray} {L : List Pc} {al : List (Bool × Nat)} {fr : List Nat}

theorem St.drew {T : List It} (hL : St w b m ta oa da F T h O D al fr) : St w.drew b m ta oa da F T h O D al fr := hL.only (OnlyAt.drew (fun _ => False) _) (fun _ _ => id)
theorem Bf.drew (hB : Bf w b m ta oa da F O D L h al fr) : Bf w.drew b m ta oa da F O D L h al fr := ⟨hB.st.drew, hB.fine, hB.fits, hB.most, hB.orig, hB.adds, hB.room⟩
theorem Moved.drew (F : Nat → Prop) (w : World) : Moved F w w.drew F := ⟨OnlyAt.drew _ _, fun _ hz => .inl hz⟩
theorem Bf.len (hB : Bf w b m ta oa da F O D L h al fr) : L.length ≤ (textOf O D L).size := by rw [hB.fine.size]; exact length_le_total L hB.fine.fits
theorem Bf.free (hB : Bf w b m ta oa da F O D L h al fr) : fr.length ≤ 65536 := by have := hB.fine.count; have := hB.room; omega
theorem Bf.below {w' : World} (hB : Bf w b m ta oa da F O D L h al fr) (hb : Below w.heap.size w w') : Bf w' b m ta oa da F O D L h al fr :=
  ⟨hB.st.below hb, hB.fine, hB.fits, hB.most, hB.orig, hB.adds, hB.room⟩

set_option maxRecDepth 100000 in
theorem len_b (hB : Bf w b m ta oa da F O D L h al fr) :
    Calls Try.prog 30 #[.pointer (some ⟨b, 0, none⟩)] w fun e w' => e = .returned (.int .i64 (textOf O D L).size) ∧ Below w.heap.size w w' := by
  obtain ⟨-, c1, -, -⟩ := hB.st.cells
  obtain ⟨FT, hT, -⟩ := hB.st.tree
  have CS := Lib.hid (Avl.sum_a hT)
  rw [← hB.fine.size] at CS
  clear hB hT
  generalize (textOf O D L).size = N at *
  go_enter Try.func30, Try.ntmps30
  go_wp2_with fail
  refine CS.out.mono ?_
  rintro e w1 ⟨rfl, hb⟩
  have HB := Lib.hid hb
  clear hb
  go_wp2_with fail
  go_ret
  exact ⟨rfl, HB.out⟩
theorem isIn_iff (s : ByteArray) (k n : Int) : isIn s k n ↔ 0 ≤ k ∧ 0 ≤ n ∧ n ≤ s.size - k := by
  unfold isIn; omega
set_option maxRecDepth 100000 in
set_option maxHeartbeats 1000000 in
theorem has_b (hB : Bf w b m ta oa da F O D L h al fr) (k n : Int) (b1 : -9223372036854775808 ≤ k) (b2 : k ≤ 9223372036854775807) :
    Calls Try.prog 41 #[.pointer (some ⟨b, 0, none⟩), .int .i64 k, .int .i64 n] w fun e w' => e = .returned (.bool (decide (isIn (textOf O D L) k n))) ∧ Below w.heap.size w w' := by
  have CL := Lib.hid (len_b hB)
  have hz : (textOf O D L).size ≤ 65536 := Nat.le_trans hB.fits hB.most
  have hi := isIn_iff (textOf O D L) k n
  have e : decide (isIn (textOf O D L) k n) = decide (0 ≤ k ∧ 0 ≤ n ∧ n ≤ ((textOf O D L).size : Int) - k) := decide_eq_decide.2 hi
  rw [e]
  clear hB hi e
  have hz' : ((textOf O D L).size : Int) ≤ 65536 := by omega
  have hz0 : (0 : Int) ≤ ((textOf O D L).size : Int) := by omega
  clear hz
  generalize (((textOf O D L).size : Nat) : Int) = N at *
  by_cases h0 : 0 ≤ k
  · by_cases h1 : 0 ≤ n
    · have hd : decide (0 ≤ k ∧ 0 ≤ n ∧ n ≤ N - k) = decide (n ≤ N - k) := decide_eq_decide.2 ⟨fun h => h.2.2, fun h => ⟨h0, h1, h⟩⟩
      rw [hd]
      clear hd
      go_enter Try.func41, Try.ntmps41
      go_wp2_with fail
      refine CL.out.mono ?_
      rintro e w1 ⟨rfl, hb⟩
      have HB := Lib.hid hb
      clear hb
      go_wp2_with fail
      go_ret
      exact ⟨rfl, HB.out⟩
    · have hd : decide (0 ≤ k ∧ 0 ≤ n ∧ n ≤ N - k) = false := decide_eq_false (fun h => h1 h.2.1)
      rw [hd]
      have h1' : n < 0 := by omega
      clear hd CL h1
      go_enter Try.func41, Try.ntmps41
      go_wp2_with fail
      go_ret
      exact ⟨rfl, Below.refl _ _⟩
  · have hd : decide (0 ≤ k ∧ 0 ≤ n ∧ n ≤ N - k) = false := decide_eq_false (fun h => h0 h.1)
    rw [hd]
    have h0' : k < 0 := by omega
    clear hd CL h0
    go_enter Try.func41, Try.ntmps41
    go_wp2_with fail
    go_ret
    exact ⟨rfl, Below.refl _ _⟩
end Go.Proofs.Ytfdnlbeancdajaa
