/- Plain mathematics of units over lists of bytes: no program. -/
import Derived.Lib.MapLaws
import Derived.Lib.ValidLaws
import Derived.Lib.RuneBytes
namespace Go.Proofs.YtfhoffdgbkoffaaDoor
open Go Go.Lib

/-- Does the list begin with a byte that is no code point? -/
def uBad (l : List UInt8) : Bool := decide ((decodeL l).1 = 65533 ∧ (decodeL l).2 = 1)
/-- The code of the unit at the head. -/
def uCode (l : List UInt8) : Int := if uBad l then -1 - ((l.getD 0 0).toNat : Int) else ((decodeL l).1 : Int)
/-- A text's units from place p on: where, how long, which code. -/
def unitsF : Nat → Nat → List UInt8 → List (Nat × Nat × Int)
  | 0, _, _ => []
  | f + 1, p, l => if l = [] then [] else (p, (decodeL l).2, uCode l) :: unitsF f (p + (decodeL l).2) (l.drop (decodeL l).2)
def units (p : Nat) (l : List UInt8) : List (Nat × Nat × Int) := unitsF l.length p l

theorem unitsF_nil : ∀ f p, unitsF f p [] = []
  | 0, _ => rfl
  | _ + 1, _ => by simp [unitsF]
theorem unitsF_fuel : ∀ (n m p : Nat) (l : List UInt8), l.length ≤ n → l.length ≤ m → unitsF n p l = unitsF m p l
  | 0, m, p, l, hn, _ => by
    have : l = [] := List.eq_nil_of_length_eq_zero (by omega)
    subst this
    rw [unitsF_nil, unitsF_nil]
  | n + 1, 0, p, l, _, hm => by
    have : l = [] := List.eq_nil_of_length_eq_zero (by omega)
    subst this
    rw [unitsF_nil, unitsF_nil]
  | n + 1, m + 1, p, l, hn, hm => by
    by_cases hne : l = []
    · subst hne
      rw [unitsF_nil, unitsF_nil]
    · have hw := decodeL_width l
      have hl : 0 < l.length := List.length_pos_iff.2 hne
      simp only [unitsF, if_neg hne]
      rw [unitsF_fuel n m _ _ (by rw [List.length_drop]; omega) (by rw [List.length_drop]; omega)]
theorem units_nil (p : Nat) : units p [] = [] := rfl
theorem units_step (p : Nat) (l : List UInt8) (hne : l ≠ []) : units p l = (p, (decodeL l).2, uCode l) :: units (p + (decodeL l).2) (l.drop (decodeL l).2) := by
  have hw := decodeL_width l
  have hl : 0 < l.length := List.length_pos_iff.2 hne
  unfold units
  obtain ⟨n, hn⟩ : ∃ n, l.length = n + 1 := ⟨l.length - 1, by omega⟩
  rw [hn]
  simp only [unitsF, if_neg hne]
  rw [unitsF_fuel n _ _ _ (by rw [List.length_drop]; omega) (Nat.le_refl _)]
/-- Induction over a text, unit by unit. -/
theorem unit_ind (C : List UInt8 → Prop) (h0 : C []) (h1 : ∀ l, l ≠ [] → C (l.drop (decodeL l).2) → C l) : ∀ l, C l := by
  intro l
  suffices h : ∀ n (l : List UInt8), l.length ≤ n → C l from h l.length l (Nat.le_refl _)
  intro n
  induction n with
  | zero =>
    intro l hl
    have : l = [] := List.eq_nil_of_length_eq_zero (by omega)
    exact this ▸ h0
  | succ n ih =>
    intro l hl
    by_cases hne : l = []
    · exact hne ▸ h0
    · have hw := decodeL_width l
      have hp : 0 < l.length := List.length_pos_iff.2 hne
      exact h1 l hne (ih _ (by rw [List.length_drop]; omega))

theorem units_length_le : ∀ (l : List UInt8) p, (units p l).length ≤ l.length := by
  apply unit_ind
  · intro p; simp [units_nil]
  · intro l hne ih p
    have hw := decodeL_width l
    have hp : 0 < l.length := List.length_pos_iff.2 hne
    rw [units_step p l hne, List.length_cons]
    have := ih (p + (decodeL l).2)
    rw [List.length_drop] at this
    omega

/-- All codes are code points' where the text is right UTF-8, and there alone. -/
theorem validD_units : ∀ (l : List UInt8) p, validD l = (units p l).all fun u => decide (0 ≤ u.2.2) := by
  apply unit_ind
  · intro p; rfl
  · intro l hne ih p
    rw [units_step p l hne, validD_step l hne, List.all_cons, ← ih]
    by_cases hb : (decodeL l).1 = 65533 ∧ (decodeL l).2 = 1
    · have : decide (0 ≤ uCode l) = false := by simp [uCode, uBad, hb]; omega
      rw [if_pos hb]; simp [this]
    · have : decide (0 ≤ uCode l) = true := by
        have h : uBad l = false := by simpa [uBad] using hb
        simp [uCode, h]
      rw [if_neg hb]; simp [this]

theorem getD_append_left (l t : List UInt8) (k : Nat) (h : k < l.length) : (l ++ t).getD k 0 = l.getD k 0 := by
  simp [List.getD, List.getElem?_append_left h]

/-- What decodes to a code point does so whatever follows. -/
theorem decodeL_append (l t : List UInt8) (hne : l ≠ []) (hb : ¬ ((decodeL l).1 = 65533 ∧ (decodeL l).2 = 1)) : decodeL (l ++ t) = decodeL l := by
  have hl : 0 < l.length := List.length_pos_iff.2 hne
  rw [decodeL_N] at hb
  rw [decodeL_N, decodeL_N l, getD_append_left l t 0 hl, List.length_append]
  by_cases h1 : 1 < l.length
  · rw [getD_append_left l t 1 h1]
    by_cases h2 : 2 < l.length
    · rw [getD_append_left l t 2 h2]
      by_cases h3 : 3 < l.length
      · rw [getD_append_left l t 3 h3]
        unfold decodeN
        simp only [show 1 < l.length + t.length from by omega, show 2 < l.length + t.length from by omega, show 3 < l.length + t.length from by omega, h1, h2, h3, true_and]
      · revert hb
        unfold decodeN
        simp only [show 1 < l.length + t.length from by omega, show 2 < l.length + t.length from by omega, h1, h2, h3, true_and, false_and, and_false, if_false]
        intro hb
        split
        · rfl
        split
        · rfl
        split
        · rfl
        rename_i a b c
        rw [if_neg a, if_neg b, if_neg c] at hb
        simp at hb
    · revert hb
      unfold decodeN
      simp only [show 1 < l.length + t.length from by omega, h1, h2, true_and, false_and, and_false, if_false]
      intro hb
      split
      · rfl
      split
      · rfl
      rename_i a b
      rw [if_neg a, if_neg b] at hb
      simp at hb
  · revert hb
    unfold decodeN
    simp only [h1, false_and, and_false, if_false]
    intro hb
    split
    · rfl
    rename_i a
    rw [if_neg a] at hb
    simp at hb

/-- A right text ahead changes nothing behind it. -/
theorem units_append (t : List UInt8) : ∀ (l : List UInt8) p, validD l = true → units p (l ++ t) = units p l ++ units (p + l.length) t := by
  apply unit_ind (C := fun l => ∀ p, validD l = true → units p (l ++ t) = units p l ++ units (p + l.length) t)
  · intro p _; simp [units_nil]
  · intro l hne ih p hv
    rw [validD_step l hne] at hv
    by_cases hb : (decodeL l).1 = 65533 ∧ (decodeL l).2 = 1
    · rw [if_pos hb] at hv; cases hv
    · rw [if_neg hb] at hv
      have hd := decodeL_append l t hne hb
      have hle := decodeL_le l hne
      have hu : uBad (l ++ t) = uBad l := by simp [uBad, hd]
      have hc : uCode (l ++ t) = uCode l := by
        have h : uBad l = false := by simpa [uBad] using hb
        simp [uCode, hu, h, hd]
      rw [units_step p (l ++ t) (by simp [hne]), units_step p l hne, hd, hc, List.drop_append_of_le_length hle, ih _ hv, List.cons_append, List.length_drop]
      congr 3
      omega
theorem validD_append (t : List UInt8) (l : List UInt8) (h : validD l = true) : validD (l ++ t) = validD t := by
  rw [validD_units (l ++ t) 0, units_append t l 0 h, List.all_append, ← validD_units, ← validD_units, h, Bool.true_and]

end Go.Proofs.YtfhoffdgbkoffaaDoor
