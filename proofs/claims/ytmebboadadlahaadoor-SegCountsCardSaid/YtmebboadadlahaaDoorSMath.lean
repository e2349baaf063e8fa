/- Plain: an ASCII byte parts texts; a text with a blank and itself behind it has twice its tokens. -/
import Derived.Test.YtmebboadadlahaaDoorPlain
import Derived.Test.YtmebboadadlahaaDoorSPlain
namespace Go.Proofs.YtmebboadadlahaaDoor
open Go Go.Lib

theorem getD_at (l t : List UInt8) (x : UInt8) : (l ++ x :: t).getD l.length 0 = x := by simp [List.getD]

/-- A byte that goes on nothing stops whatever is ahead of it. -/
theorem decodeL_stop (l t : List UInt8) (x : UInt8) (hne : l ≠ []) (hx : x.toNat / 64 ≠ 2) : decodeL (l ++ x :: t) = decodeL l := by
  have hl : 0 < l.length := List.length_pos_iff.2 hne
  have hat := getD_at l t x
  rw [decodeL_N, decodeL_N l, getD_append_left l (x :: t) 0 hl, List.length_append, List.length_cons]
  by_cases h1 : 1 < l.length
  · rw [getD_append_left l (x :: t) 1 h1]
    by_cases h2 : 2 < l.length
    · rw [getD_append_left l (x :: t) 2 h2]
      by_cases h3 : 3 < l.length
      · rw [getD_append_left l (x :: t) 3 h3]
        unfold decodeN
        simp only [show 1 < l.length + (t.length + 1) from by omega, show 2 < l.length + (t.length + 1) from by omega, show 3 < l.length + (t.length + 1) from by omega, h1, h2, h3, true_and]
      · have e3 : l.length = 3 := by omega
        rw [e3] at hat
        rw [hat]
        unfold decodeN
        simp only [show 1 < l.length + (t.length + 1) from by omega, show 2 < l.length + (t.length + 1) from by omega, h1, h2, h3, hx, true_and, false_and, and_false, if_false]
    · have e2 : l.length = 2 := by omega
      rw [e2] at hat
      rw [hat]
      unfold decodeN
      simp only [show 1 < l.length + (t.length + 1) from by omega, h1, h2, hx, true_and, false_and, and_false, if_false]
  · have e1 : l.length = 1 := by omega
    rw [e1] at hat
    rw [hat]
    unfold decodeN
    simp only [h1, hx, false_and, and_false, if_false]

theorem units_stop (x : UInt8) (t : List UInt8) (hx : x.toNat / 64 ≠ 2) : ∀ (l : List UInt8) p, units p (l ++ x :: t) = units p l ++ units (p + l.length) (x :: t) := by
  apply unit_ind (C := fun l => ∀ p, units p (l ++ x :: t) = units p l ++ units (p + l.length) (x :: t))
  · intro p; simp [units_nil]
  · intro l hne ih p
    have hd := decodeL_stop l t x hne hx
    have hle := decodeL_le l hne
    have hl : 0 < l.length := List.length_pos_iff.2 hne
    have hu : uBad (l ++ x :: t) = uBad l := by simp [uBad, hd]
    have hc : uCode (l ++ x :: t) = uCode l := by rw [uCode, uCode, hu, hd, getD_append_left l (x :: t) 0 hl]
    rw [units_step p (l ++ x :: t) (by simp), units_step p l hne, hd, hc, List.drop_append_of_le_length hle, ih, List.cons_append, List.length_drop]
    congr 3
    omega
theorem units_shift (k : Nat) : ∀ (l : List UInt8) p, units (p + k) l = (units p l).map fun u => (u.1 + k, u.2) := by
  apply unit_ind (C := fun l => ∀ p, units (p + k) l = (units p l).map fun u => (u.1 + k, u.2))
  · intro p; simp [units_nil]
  · intro l hne ih p
    rw [units_step _ l hne, units_step p l hne, List.map_cons, show p + k + (decodeL l).2 = p + (decodeL l).2 + k by omega, ih]

theorem segs_stop (kd : Int → Int) (x : U3) (t : List U3) (hx : kd x.2.2 = 0) : ∀ (us : List U3) (p : Int) (c : Option Tok), segs kd p c (us ++ x :: t) = segs kd p c us ++ segs kd 0 none t
  | [], p, c => by
    have h : solidB p (kd x.2.2) (headK kd t) = false := by rw [hx]; rfl
    have e : segs kd p c (x :: t) = c.toList ++ segs kd (kd x.2.2) none t := by rw [segs, if_neg (by rw [h]; decide)]
    rw [List.nil_append, e, hx]
    rfl
  | u :: us, p, c => by
    have hh : headK kd (us ++ x :: t) = headK kd us := by
      cases us with
      | nil => exact hx
      | cons y ys => rfl
    rw [List.cons_append, segs, segs, hh]
    split
    · exact segs_stop kd x t hx us _ _
    · rw [segs_stop kd x t hx us _ _, List.append_assoc]
theorem segs_shift_len (kd : Int → Int) (k : Nat) : ∀ (us : List U3) (p : Int) (c c' : Option Tok), c.isSome = c'.isSome → (segs kd p c (us.map fun u => (u.1 + k, u.2))).length = (segs kd p c' us).length
  | [], _, c, c', h => by cases c <;> cases c' <;> simp_all [segs]
  | u :: us, p, c, c', h => by
    have hh : headK kd (us.map fun u => (u.1 + k, u.2)) = headK kd us := by cases us <;> rfl
    rw [List.map_cons, segs, segs, hh]
    split
    · exact segs_shift_len kd k us _ _ _ rfl
    · rw [List.length_append, List.length_append, segs_shift_len kd k us _ none none rfl]
      cases c <;> cases c' <;> simp_all

theorem twice (kd : Int → Int) (hk : kd 32 = 0) (l : List UInt8) : (segs kd 0 none (units 0 (l ++ 32 :: l))).length = 2 * (segs kd 0 none (units 0 l)).length := by
  have h1 := units_stop 32 l (by decide) l 0
  have h2 : units (0 + l.length) (32 :: l) = (0 + l.length, 1, 32) :: units (0 + (l.length + 1)) l := by
    rw [units_step _ _ (by simp)]
    have hd : decodeL (32 :: l) = (32, 1) := by
      rw [decodeL_N]
      simp [decodeN]
    have hc : uCode (32 :: l) = 32 := by simp [uCode, uBad, hd]
    rw [hd, hc]
    simp
  rw [h1, h2, segs_stop kd _ _ hk, List.length_append, units_shift (l.length + 1) l 0, segs_shift_len kd _ _ 0 none none rfl]
  omega
end Go.Proofs.YtmebboadadlahaaDoor
