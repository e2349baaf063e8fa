/- Items in blocks that are new: they stand whatever is written to the elder ones. -/
import Derived.Test.YtfehpcbmdancoaaGreatDoorPaPlain
namespace Go.Proofs.YtfehpcbmdancoaaGreatDoor
open Go Go.RowKit

/-- A slice that reads as these items, in blocks from B on. -/
def ItemsNew (B : Nat) (w : World) (v : Value) (l : List It) : Prop :=
  (l = [] ∧ ∃ a cap, v = .slice a 0 cap) ∨ ∃ b off cap, v = .slice (some ⟨b, off, none⟩) l.length cap ∧ b < w.heap.size ∧ B ≤ b ∧ l.length ≤ cap ∧ cap ≤ maxLen ∧
    ∀ (i : Nat) it, l[i]? = some it → w.cell? ⟨b, off + i * 3, none⟩ = some (.bool it.any) ∧ w.cell? ⟨b, off + i * 3 + 1, none⟩ = some (.bool it.not) ∧ ∃ sv, w.cell? ⟨b, off + i * 3 + 2, none⟩ = some sv ∧ IntsAt w sv it.set ∧ ∀ g, sv.ownBlock = some g → B ≤ g
theorem ItemsNew.at {B : Nat} {w : World} {v : Value} {l : List It} (h : ItemsNew B w v l) : ItemsAt w v l := by
  rcases h with h | ⟨b, off, cap, h1, h2, _, h4, h5, h6⟩
  · exact .inl h
  · refine .inr ⟨b, off, cap, h1, h2, h4, h5, fun i it hi => ?_⟩
    obtain ⟨k1, k2, sv, k3, k4, _⟩ := h6 i it hi
    exact ⟨k1, k2, sv, k3, k4⟩
theorem ItemsNew.less {B B' : Nat} {w : World} {v : Value} {l : List It} (h : ItemsNew B w v l) (hB : B' ≤ B) : ItemsNew B' w v l := by
  rcases h with h | ⟨b, off, cap, h1, h2, h3, h4, h5, h6⟩
  · exact .inl h
  · refine .inr ⟨b, off, cap, h1, h2, by omega, h4, h5, fun i it hi => ?_⟩
    obtain ⟨k1, k2, sv, k3, k4, k5⟩ := h6 i it hi
    exact ⟨k1, k2, sv, k3, k4, fun g hg => Nat.le_trans hB (k5 g hg)⟩
/-- Only blocks below B are written. -/
theorem ItemsNew.still {B : Nat} {w w' : World} {v : Value} {l : List It} (h : ItemsNew B w v l) (hs : w.heap.size ≤ w'.heap.size) (hb : ∀ b, B ≤ b → b < w.heap.size → w'.heap[b]? = w.heap[b]?) : ItemsNew B w' v l := by
  rcases h with h | ⟨b, off, cap, h1, h2, h3, h4, h5, h6⟩
  · exact .inl h
  · have hc : ∀ o, w'.cell? ⟨b, o, none⟩ = w.cell? ⟨b, o, none⟩ := fun o => by unfold World.cell?; rw [show (⟨b, o, none⟩ : Addr).block = b from rfl, hb b h3 h2]
    refine .inr ⟨b, off, cap, h1, Nat.lt_of_lt_of_le h2 hs, h3, h4, h5, fun i it hi => ?_⟩
    obtain ⟨k1, k2, sv, k3, k4, k5⟩ := h6 i it hi
    refine ⟨(hc _).trans k1, (hc _).trans k2, sv, (hc _).trans k3, ?_, k5⟩
    rcases k4 with k4 | ⟨q, qo, qc, rfl, q1, q2, q3, q4⟩
    · exact .inl k4
    · exact .inr ⟨q, qo, qc, rfl, Nat.lt_of_lt_of_le q1 hs, q2, q3, fun j c hj => by
        have := q4 j c hj
        unfold World.cell? at this ⊢
        rw [show (⟨q, qo + j, none⟩ : Addr).block = q from rfl] at this ⊢
        rw [hb q (k5 q rfl) q1]
        exact this⟩
theorem ItemsNew.keep {B : Nat} {w w' : World} {v : Value} {l : List It} (h : ItemsNew B w v l) (hb : Below w.heap.size w w') : ItemsNew B w' v l :=
  h.still hb.size fun b _ hlt => hb.block b hlt
/-- The sets of a row's items lie in blocks from B on. -/
def FreshX (B : Nat) (xs : List Value) (l : List It) : Prop := ∀ (i : Nat) it, l[i]? = some it → ∀ sv, xs[i * 3 + 2]? = some sv → ∀ b, sv.ownBlock = some b → B ≤ b
theorem FreshX.nil (B : Nat) : FreshX B [] [] := fun i it h => by simp at h
theorem FreshX.snoc {B : Nat} {xs : List Value} {l : List It} {it : It} {a b sv : Value} (h : FreshX B xs l) (hl : xs.length = l.length * 3) (hb : ∀ g, sv.ownBlock = some g → B ≤ g) : FreshX B (xs ++ [a, b, sv]) (l ++ [it]) := by
  intro i x hi s hs
  rcases Nat.lt_or_ge i l.length with hlt | hge
  · rw [List.getElem?_append_left hlt] at hi
    rw [List.getElem?_append_left (by omega)] at hs
    exact h i x hi s hs
  · rw [List.getElem?_append_right hge] at hi
    have h0 : i - l.length = 0 := by
      have := (List.getElem?_eq_some_iff.1 hi).1
      simp at this; omega
    obtain rfl : i = l.length := by omega
    rw [List.getElem?_append_right (by omega), hl, show l.length * 3 + 2 - l.length * 3 = 2 by omega] at hs
    obtain rfl : sv = s := by simpa using hs
    exact hb
end Go.Proofs.YtfehpcbmdancoaaGreatDoor
