/- Plain: texts that begin right and go on with bytes that are no code point. -/
import Derived.Test.YtfenpcddmdopdaaDoorSide
namespace Go.Proofs.YtfenpcddmdopdaaDoor
open Go Go.RowKit Go.Lib

/-- Units further on: the same, shifted. -/
theorem units_shift : ∀ (l : List UInt8) (p q : Nat), units (p + q) l = (units q l).map fun u => (p + u.1, u.2.1, u.2.2) := by
  apply unit_ind (C := fun l => ∀ p q, units (p + q) l = (units q l).map fun u => (p + u.1, u.2.1, u.2.2))
  · intro p q; rfl
  · intro l hne ih p q
    rw [units_step (p + q) l hne, units_step q l hne, List.map_cons, Nat.add_assoc, ih]

/-- The eight wrong pieces. -/
def wOf : Nat → ByteArray
  | 0 => ⟨#[192, 128]⟩
  | 1 => ⟨#[237, 160, 128]⟩
  | 2 => ⟨#[245, 128, 128, 128]⟩
  | 3 => ⟨#[128]⟩
  | 4 => ⟨#[226, 130]⟩
  | 5 => ⟨#[240, 128, 128, 128]⟩
  | 6 => ⟨#[255]⟩
  | _ => ⟨#[195]⟩
/-- Each byte by itself, then a letter. -/
def badUnits (wl : List UInt8) : List (Nat × Nat × Int) := (List.range wl.length).map (fun i => (i, 1, -1 - ((wl.getD i 0).toNat : Int))) ++ [(wl.length, 1, 122)]
theorem wOf_facts : ∀ h, h < 8 → units 0 ((wOf h).data.toList ++ [122]) = badUnits (wOf h).data.toList ∧ validD ((wOf h).data.toList ++ [122]) = false ∧ 1 ≤ (wOf h).size ∧ (wOf h).size ≤ 4
  | 0, _ => ⟨by decide, by decide, by decide, by decide⟩
  | 1, _ => ⟨by decide, by decide, by decide, by decide⟩
  | 2, _ => ⟨by decide, by decide, by decide, by decide⟩
  | 3, _ => ⟨by decide, by decide, by decide, by decide⟩
  | 4, _ => ⟨by decide, by decide, by decide, by decide⟩
  | 5, _ => ⟨by decide, by decide, by decide, by decide⟩
  | 6, _ => ⟨by decide, by decide, by decide, by decide⟩
  | 7, _ => ⟨by decide, by decide, by decide, by decide⟩
  | _ + 8, h => by omega

/-- The right text ahead. -/
def aOf : Nat → ByteArray
  | 0 => ⟨#[195, 169, 32, 97, 98, 32, 230, 188, 162, 32, 120, 121, 122]⟩
  | k + 1 => aOf k ++ ⟨#[195, 169]⟩
theorem aOf_valid : ∀ k, validD (aOf k).data.toList = true
  | 0 => by decide
  | k + 1 => by
    have h : (aOf (k + 1)).data.toList = (aOf k).data.toList ++ [195, 169] := by simp [aOf]
    rw [h, validD_append _ _ (aOf_valid k)]
    decide
theorem aOf_size : ∀ k, (aOf k).size = 13 + 2 * k
  | 0 => rfl
  | k + 1 => by
    have h := aOf_size k
    simp [aOf, ByteArray.size_append, h]
    rw [show ByteArray.size ⟨#[195, 169]⟩ = 2 from rfl]
    omega

theorem wrong_units (a b : ByteArray) (ha : validD a.data.toList = true) (hb : units 0 (b.data.toList ++ [122]) = badUnits b.data.toList) :
    units 0 ((a ++ b) ++ ⟨#[122]⟩).data.toList = units 0 a.data.toList ++ (badUnits b.data.toList).map fun u => (a.size + u.1, u.2.1, u.2.2) := by
  have h : ((a ++ b) ++ ⟨#[122]⟩ : ByteArray).data.toList = a.data.toList ++ (b.data.toList ++ [122]) := by simp
  rw [h, units_append _ _ 0 ha, ← hb, ← units_shift, Nat.zero_add, Nat.add_zero, Lib.size_eq]
theorem wrong_valid (a b : ByteArray) (ha : validD a.data.toList = true) (hb : validD (b.data.toList ++ [122]) = false) : validD ((a ++ b) ++ ⟨#[122]⟩ : ByteArray).data.toList = false := by
  have h : ((a ++ b) ++ ⟨#[122]⟩ : ByteArray).data.toList = a.data.toList ++ (b.data.toList ++ [122]) := by simp
  rw [h, validD_append _ _ ha, hb]
theorem bad_at (wl : List UInt8) (q i : Nat) (h : i < wl.length) : ((badUnits wl).map fun u => (q + u.1, u.2.1, u.2.2))[i]? = some (q + i, 1, -1 - ((wl.getD i 0).toNat : Int)) := by
  simp only [badUnits]
  rw [List.getElem?_map, List.getElem?_append_left (by simpa using h)]
  simp [h]
theorem bad_last (wl : List UInt8) (q : Nat) : ((badUnits wl).map fun u => (q + u.1, u.2.1, u.2.2))[wl.length]? = some (q + wl.length, 1, 122) := by
  simp only [badUnits]
  rw [List.getElem?_map, List.getElem?_append_right (by simp)]
  simp
theorem bad_len (wl : List UInt8) : (badUnits wl).length = wl.length + 1 := by simp [badUnits]
end Go.Proofs.YtfenpcddmdopdaaDoor
