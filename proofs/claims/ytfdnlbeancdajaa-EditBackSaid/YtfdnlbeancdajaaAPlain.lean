/- Plain: lists of items (a key, a size); how low a tree is. -/
import Derived.Lib.Hide
namespace Go.Proofs.Ytfdnlbeancdajaa

/-- An item: key, size. -/
abbrev It := Int × Nat

/-- The least number of items of a tree of a height. -/
def least : Nat → Nat
  | 0 => 0
  | 1 => 1
  | h + 2 => least h + least (h + 1) + 1
theorem least_mono : ∀ h, least h ≤ least (h + 1)
  | 0 => by decide
  | 1 => by decide
  | h + 2 => by
    have := least_mono (h + 1)
    show least (h + 2) ≤ least (h + 1) + least (h + 2) + 1
    omega
theorem least_le {a b : Nat} (h : a ≤ b) : least a ≤ least b := by
  induction h with
  | refl => exact Nat.le_refl _
  | step _ ih => exact Nat.le_trans ih (least_mono _)

/-- The sizes of the first i. -/
def before (L : List It) (i : Int) : Nat := ((L.take i.toNat).map (·.2)).sum
def total (L : List It) : Nat := (L.map (·.2)).sum
/-- The first item whose end is above a place, and how far the place lies in it. -/
def findL : List It → Nat → Nat × Nat
  | [], _ => (0, 0)
  | x :: t, p => if p < x.2 then (0, p) else ((findL t (p - x.2)).1 + 1, (findL t (p - x.2)).2)
def putL (L : List It) (i : Nat) (x : It) : List It := L.take i ++ x :: L.drop i
def dropL (L : List It) (i : Nat) : List It := L.take i ++ L.drop (i + 1)

theorem putL_length (L : List It) (i : Nat) (x : It) (h : i ≤ L.length) : (putL L i x).length = L.length + 1 := by
  simp [putL]; omega
theorem dropL_length (L : List It) (i : Nat) (h : i < L.length) : (dropL L i).length = L.length - 1 := by
  simp [dropL]; omega
theorem putL_all {Q : It → Prop} {L : List It} {i : Nat} {x : It} (h : ∀ y ∈ L, Q y) (hx : Q x) : ∀ y ∈ putL L i x, Q y := by
  intro y hy
  simp only [putL, List.mem_append, List.mem_cons] at hy
  rcases hy with hy | rfl | hy
  · exact h y (List.mem_of_mem_take hy)
  · exact hx
  · exact h y (List.mem_of_mem_drop hy)
theorem dropL_all {Q : It → Prop} {L : List It} {i : Nat} (h : ∀ y ∈ L, Q y) : ∀ y ∈ dropL L i, Q y := by
  intro y hy
  simp only [dropL, List.mem_append] at hy
  rcases hy with hy | hy
  · exact h y (List.mem_of_mem_take hy)
  · exact h y (List.mem_of_mem_drop hy)
theorem putL_end (L : List It) (x : It) : putL L L.length x = L ++ [x] := by simp [putL]

theorem before_zero (L : List It) : before L 0 = 0 := by simp [before]
theorem before_cons (x : It) (L : List It) (i : Nat) : before (x :: L) ((i + 1 : Nat) : Int) = x.2 + before L (i : Int) := by simp [before]
theorem before_all (L : List It) : before L (L.length : Int) = total L := by simp [before, total]
theorem total_append (A B : List It) : total (A ++ B) = total A + total B := by simp [total]
theorem total_one (x : It) : total [x] = x.2 := by simp [total]

/-- Where an item begins, it is found. -/
theorem find_before : ∀ (L : List It) (i : Nat), (∀ x ∈ L, 0 < x.2) → i < L.length → findL L (before L i) = (i, 0)
  | [], i, _, h => by simp at h
  | x :: L, 0, hp, _ => by
    have := hp x (by simp)
    rw [show ((0 : Nat) : Int) = 0 from rfl, before_zero, findL, if_pos this]
  | x :: L, i + 1, hp, h => by
    have ih := find_before L i (fun y hy => hp y (List.mem_cons_of_mem _ hy)) (by simpa using h)
    rw [before_cons, findL, if_neg (by omega), show x.2 + before L (i : Int) - x.2 = before L (i : Int) by omega, ih]
/-- Above all there is none. -/
theorem find_above : ∀ (L : List It) (p : Nat), total L ≤ p → findL L p = (L.length, 0)
  | [], p, _ => rfl
  | x :: L, p, h => by
    have e : total (x :: L) = x.2 + total L := by simp [total]
    rw [findL, if_neg (by omega), find_above L (p - x.2) (by omega)]; rfl
/-- A place within is found: in which item, and how far. -/
theorem find_within : ∀ (L : List It) (p : Nat), p < total L → ∃ x, L[(findL L p).1]? = some x ∧ (findL L p).2 < x.2 ∧ before L ((findL L p).1 : Nat) + (findL L p).2 = p ∧ before L (((findL L p).1 + 1 : Nat) : Int) = before L ((findL L p).1 : Nat) + x.2
  | [], p, h => by simp [total] at h
  | x :: L, p, h => by
    have e : total (x :: L) = x.2 + total L := by simp [total]
    by_cases hx : p < x.2
    · rw [findL, if_pos hx]
      refine ⟨x, rfl, hx, ?_, ?_⟩
      · show before (x :: L) 0 + p = p
        rw [before_zero]; omega
      · show before (x :: L) ((0 + 1 : Nat) : Int) = before (x :: L) 0 + x.2
        rw [before_cons, before_zero]
        show x.2 + before L 0 = _
        rw [before_zero]; omega
    · obtain ⟨y, h1, h2, h3, h4⟩ := find_within L (p - x.2) (by omega)
      rw [findL, if_neg hx]
      refine ⟨y, by simpa using h1, h2, ?_, ?_⟩
      · show before (x :: L) (((findL L (p - x.2)).1 + 1 : Nat) : Int) + (findL L (p - x.2)).2 = p
        rw [before_cons]; omega
      · show before (x :: L) (((findL L (p - x.2)).1 + 1 + 1 : Nat) : Int) = before (x :: L) (((findL L (p - x.2)).1 + 1 : Nat) : Int) + y.2
        rw [before_cons, before_cons]; omega
end Go.Proofs.Ytfdnlbeancdajaa
