/- Rows of numbers that grow: where what they leave stands. -/
import Derived.Test.YtbghfbhchmoddaaMDApp
namespace Go.Proofs.Ytbghfbhchmoddaa
open Go Go.RowKit Go.Lib

theorem own_len {w : World} {B n k : Nat} {v : Value} {xs : List Value} (h : w.ownsRow B 3 1 v n xs) (hn : n = k) : w.ownsRow B 3 1 v k xs := by subst hn; exact h
theorem GB.nil {w w' : World} {v' : Value} (h : GB w w' (.slice none 0 0) v') : Below w.heap.size w w' := h.below (Below.refl _ _) (Nat.le_refl _) fun g hg => by cases hg
theorem GB.next {w0 w w' : World} {B n : Nat} {v v' : Value} {xs : List Value} (h : GB w w' v v') (hb : Below B w0 w) (hB : B ≤ w0.heap.size) (ho : w.ownsRow B 3 1 v n xs) : Below B w0 w' := h.below hb (Nat.le_trans hB hb.size) fun g hg => (ho.lt g hg).1
theorem own_below {w w' : World} {B n : Nat} {v : Value} {xs : List Value} (h : w.ownsRow B 3 1 v n xs) (hb : Below w.heap.size w w') : w'.ownsRow B 3 1 v n xs := by
  refine ⟨h.1, h.2.imp id fun ⟨g, cap, cur, h1, h2, h3, h4⟩ => ⟨g, cap, cur, h1, h2, ?_, h4⟩⟩
  exact (hb.block g (Array.getElem?_eq_some_iff.1 h3).1).trans h3
end Go.Proofs.Ytbghfbhchmoddaa
