/- The document's Same of chapter 9, by contract: whatever items. -/
import Derived.Test.YtfhoffdgbkoffaaDoorNMem
namespace Go.Proofs.YtfhoffdgbkoffaaDoor
open Go Go.RowKit

theorem it_ext {a b : It} (h1 : a.any = b.any) (h2 : a.not = b.not) (h3 : a.set = b.set) : a = b := by
  obtain ⟨_, _, _⟩ := a
  obtain ⟨_, _, _⟩ := b
  simp only at h1 h2 h3
  subst h1 h2 h3
  rfl
theorem list_ext9 {α : Type} {l l' : List α} {n : Nat} (h1 : l.length = n) (h2 : l'.length = n) (h : ∀ (i : Nat) (a b : α), l[i]? = some a → l'[i]? = some b → a = b) : l = l' := by
  apply List.ext_getElem?
  intro i
  by_cases hi : i < n
  · have e1 : l[i]? = some l[i] := List.getElem?_eq_getElem (by omega)
    have e2 : l'[i]? = some l'[i] := List.getElem?_eq_getElem (by omega)
    rw [e1, e2, h i _ _ e1 e2]
  · rw [List.getElem?_eq_none (by omega), List.getElem?_eq_none (by omega)]
theorem items_open {w : World} {v : Value} {l : List It} (h : ItemsAt w v l) : ∃ A cap, v = .slice A l.length cap ∧ ∀ (i : Nat) it, l[i]? = some it → ∃ b off, A = some ⟨b, off, none⟩ ∧ b < w.heap.size ∧ l.length ≤ cap ∧ w.cell? ⟨b, off + i * 3, none⟩ = some (.bool it.any) ∧ w.cell? ⟨b, off + i * 3 + 1, none⟩ = some (.bool it.not) ∧ ∃ sv, w.cell? ⟨b, off + i * 3 + 2, none⟩ = some sv ∧ IntsAt w sv it.set := by
  obtain ⟨rfl, a, cap, rfl⟩ | ⟨b, off, cap, rfl, hlt, hcap, hm, hc⟩ := h
  · exact ⟨a, cap, rfl, fun i it hi => by simp at hi⟩
  · exact ⟨_, cap, rfl, fun i it hi => ⟨b, off, rfl, hlt, hcap, hc i it hi⟩⟩

end Go.Proofs.YtfhoffdgbkoffaaDoor
