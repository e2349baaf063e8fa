/- The document's has, Starts, Ends of chapter 9, by contract. -/
import Derived.Test.YteenleedonmkmaaGreatDoorNRefSame
import Derived.Deep.RegionHeld3
import Derived.Deep.RegionWith
namespace Go.Proofs.YteenleedonmkmaaGreatDoor
open Go Go.RowKit

theorem contains_next (set : List Int) (j : Nat) (x c : Int) (hx : set[j]? = some x) : (set.take (j + 1)).contains c = ((set.take j).contains c || (x == c)) := by
  rw [List.take_add_one, hx]
  have key : ∀ l : List Int, (l ++ [x]).contains c = (l.contains c || (x == c)) := fun l => by
    by_cases h1 : c ∈ l
    · have e1 : (l ++ [x]).contains c = true := List.contains_iff_mem.2 (List.mem_append_left _ h1)
      have e2 : l.contains c = true := List.contains_iff_mem.2 h1
      rw [e1, e2]; rfl
    · have e2 : l.contains c = false := by rw [Bool.eq_false_iff]; intro e; exact h1 (List.contains_iff_mem.1 e)
      by_cases h2 : x = c
      · have e1 : (l ++ [x]).contains c = true := List.contains_iff_mem.2 (List.mem_append_right _ (by rw [h2]; exact List.mem_cons_self ..))
        rw [e1, e2, h2]; simp
      · have e1 : (l ++ [x]).contains c = false := by
          rw [Bool.eq_false_iff]; intro e
          rcases List.mem_append.1 (List.contains_iff_mem.1 e) with h | h
          · exact h1 h
          · exact h2 (List.mem_singleton.1 h).symm
        rw [e1, e2, beq_eq_false_iff_ne.2 h2]; rfl
  exact key _

theorem starts_cons9 (it : It) (l : List It) (c : Int) (cs : List Int) : startsP (it :: l) (c :: cs) = (hasP it c && startsP l cs) := by
  unfold startsP
  simp only [List.length_cons, Nat.add_le_add_iff_right, List.zip_cons_cons, List.all_cons]
  cases decide (l.length ≤ cs.length) <;> cases hasP it c <;> simp
theorem drop_cons9 {α : Type} {l : List α} {k : Nat} {x : α} (h : l[k]? = some x) : l.drop k = x :: l.drop (k + 1) := by
  have hk := (List.getElem?_eq_some_iff.1 h).1
  rw [List.drop_eq_getElem_cons hk]
  have := List.getElem?_eq_getElem hk
  rw [h] at this
  rw [Option.some.inj this]

end Go.Proofs.YteenleedonmkmaaGreatDoor
