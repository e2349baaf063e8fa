/- Items and codes by numbers, plain; rows of items that grow. -/
import Derived.Test.YtdmmkpbpdhjfmaaDoorNLaws
import Derived.Test.YtdmmkpbpdhjfmaaDoorNGrow
namespace Go.Proofs.YtdmmkpbpdhjfmaaDoor
open Go Go.RowKit

def cOf (p : Nat) : Int := 97 + ((p % 20 : Nat) : Int)
def itOf (p : Nat) : It := if p / 20 % 4 = 0 then ⟨true, false, []⟩ else if p / 20 % 4 = 1 then ⟨false, false, [cOf p]⟩ else if p / 20 % 4 = 2 then ⟨false, false, [122, cOf p, 121]⟩ else ⟨false, true, [cOf p + 1, 122]⟩
def placeN (x : Int) : Nat := (x % 1048576).toNat
def wrongC (it : It) : Int := if it.not then 122 else 65
theorem cOf_bd (p : Nat) : 97 ≤ cOf p ∧ cOf p ≤ 116 := by unfold cOf; omega
theorem itOf_cases (p : Nat) : (p / 20 % 4 = 0 ∧ itOf p = ⟨true, false, []⟩) ∨ (p / 20 % 4 = 1 ∧ itOf p = ⟨false, false, [cOf p]⟩) ∨ (p / 20 % 4 = 2 ∧ itOf p = ⟨false, false, [122, cOf p, 121]⟩) ∨ (p / 20 % 4 = 3 ∧ itOf p = ⟨false, true, [cOf p + 1, 122]⟩) := by
  unfold itOf
  by_cases h0 : p / 20 % 4 = 0
  · exact .inl ⟨h0, if_pos h0⟩
  rw [if_neg h0]
  by_cases h1 : p / 20 % 4 = 1
  · exact .inr (.inl ⟨h1, if_pos h1⟩)
  rw [if_neg h1]
  by_cases h2 : p / 20 % 4 = 2
  · exact .inr (.inr (.inl ⟨h2, if_pos h2⟩))
  rw [if_neg h2]
  exact .inr (.inr (.inr ⟨by omega, rfl⟩))
theorem itOf_set (p : Nat) : (itOf p).set.length ≤ 20 := by
  rcases itOf_cases p with ⟨_, h⟩ | ⟨_, h⟩ | ⟨_, h⟩ | ⟨_, h⟩ <;> rw [h] <;> simp
theorem hasP_of (p : Nat) : hasP (itOf p) (cOf p) = true := by
  have := cOf_bd p
  rcases itOf_cases p with ⟨_, h⟩ | ⟨_, h⟩ | ⟨_, h⟩ | ⟨_, h⟩ <;> rw [h] <;> simp [hasP] <;> omega
theorem hasP_wrong (p : Nat) : hasP (itOf p) (wrongC (itOf p)) = (itOf p).any := by
  have := cOf_bd p
  rcases itOf_cases p with ⟨_, h⟩ | ⟨_, h⟩ | ⟨_, h⟩ | ⟨_, h⟩ <;> rw [h] <;> simp [hasP, wrongC] <;> omega
theorem starts_cons (it : It) (l : List It) (c : Int) (cs : List Int) : startsP (it :: l) (c :: cs) = (hasP it c && startsP l cs) := by
  unfold startsP
  simp only [List.length_cons, Nat.add_le_add_iff_right, List.zip_cons_cons, List.all_cons]
  cases decide (l.length ≤ cs.length) <;> cases hasP it c <;> simp
theorem starts_all (r : List Int) : ∀ ps : List Nat, startsP (ps.map itOf) (ps.map cOf ++ r) = true
  | [] => by simp [startsP]
  | p :: ps => by
    have ih := starts_all r ps
    simp only [List.map_cons, List.cons_append, starts_cons, ih, hasP_of, Bool.and_self]
theorem starts_same (ps : List Nat) : startsP (ps.map itOf) (ps.map cOf) = true := by
  have := starts_all [] ps
  rwa [List.append_nil] at this
theorem starts_wrong : ∀ (ps : List Nat) (i p : Nat), ps[i]? = some p → startsP (ps.map itOf) ((ps.map cOf).set i (wrongC (itOf p))) = (itOf p).any
  | q :: ps, 0, p, h => by
    obtain rfl : q = p := by simpa using h
    simp only [List.map_cons, List.set_cons_zero, starts_cons, starts_same, hasP_wrong, Bool.and_true]
  | q :: ps, i + 1, p, h => by
    have ih := starts_wrong ps i p (by simpa using h)
    simp only [List.map_cons, List.set_cons_succ, starts_cons, hasP_of, Bool.true_and]
    exact ih
theorem ends_same {l : List It} {cs : List Int} (h : l.length = cs.length) : endsP l cs = startsP l cs := by
  unfold endsP
  rw [show cs.length - l.length = 0 by omega, List.drop_zero]
  simp [h]
theorem ends_more {l : List It} {cs : List Int} (c : Int) (h : l.length = cs.length) : endsP l (c :: cs) = startsP l cs := by
  unfold endsP
  rw [show (c :: cs).length - l.length = 1 by rw [List.length_cons]; omega]
  simp [h]
theorem starts_short {l : List It} {cs : List Int} (h : cs.length < l.length) : startsP l cs = false := by
  unfold startsP; rw [decide_eq_false (by omega)]; rfl
theorem ends_short {l : List It} {cs : List Int} (h : cs.length < l.length) : endsP l cs = false := by
  unfold endsP; rw [decide_eq_false (by omega)]; rfl
end Go.Proofs.YtdmmkpbpdhjfmaaDoor
