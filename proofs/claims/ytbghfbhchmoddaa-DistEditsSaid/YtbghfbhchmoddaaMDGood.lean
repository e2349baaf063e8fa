/- What a row of the table says within the band, plain. -/
import Derived.Test.YtbghfbhchmoddaaMDLeast
namespace Go.Proofs.Ytbghfbhchmoddaa
open Go Go.RowKit Go.Lib

/-- Place k of row i says its distance, or that it is beyond the band. -/
def GoodC (a b : List Int) (B i k : Nat) (R : List Int) : Prop := ∃ v : Nat, R[k]? = some (v : Int) ∧ v ≤ a.length + B + 1 + k ∧ min v (B + 1) = min (cellL a b i k) (B + 1)
/-- All the places that may be asked. -/
def Good (a b : List Int) (B i : Nat) (R : List Int) : Prop := ∀ k, i ≤ k + B + 1 → k ≤ i + B + 1 → k ≤ b.length → GoodC a b B i k R
theorem cellL_far (a b : List Int) (i k : Nat) (hi : i ≤ a.length) (hk : k ≤ b.length) : i ≤ cellL a b i k + k ∧ k ≤ cellL a b i k + i := by
  have := farL_len (a.take i) (b.take k)
  rw [List.length_take, List.length_take, Nat.min_eq_left hi, Nat.min_eq_left hk] at this
  exact this
theorem good_edge (a b : List Int) (B i k : Nat) (R : List Int) (hi : i ≤ a.length) (hk : k ≤ b.length) (h : i = k + B + 1 ∨ k = i + B + 1) (hR : R[k]? = some ((B + 1 : Nat) : Int)) : GoodC a b B i k R := by
  have := cellL_far a b i k hi hk
  exact ⟨B + 1, hR, by omega, by omega⟩
theorem good_zero (a b : List Int) (B i k : Nat) (R : List Int) (hi : i ≤ a.length) (hk : k ≤ b.length) (h : i = 0 ∨ k = 0) (hR : R[k]? = some ((i + k : Nat) : Int)) : GoodC a b B i k R := by
  refine ⟨i + k, hR, by omega, ?_⟩
  rcases h with rfl | rfl
  · rw [cellL_left a b k hk, Nat.zero_add]
  · rw [cellL_top a b i hi, Nat.add_zero]
theorem get_dec (a b : List Int) (i k : Nat) (hi : i < a.length) (hk : k < b.length) : (a[i]? = b[k]?) ↔ a[i] = b[k] := by
  rw [List.getElem?_eq_getElem hi, List.getElem?_eq_getElem hk, Option.some.injEq]
theorem sat_add {x y C : Nat} (c : Nat) (h : min x C = min y C) : min (x + c) C = min (y + c) C := by omega
theorem sat_min {x y p q C : Nat} (h : min x C = min y C) (k : min p C = min q C) : min (min x p) C = min (min y q) C := by omega
theorem sat_three {x y z x' y' z' C : Nat} (c : Nat) (hx : min x C = min x' C) (hy : min y C = min y' C) (hz : min z C = min z' C) : min (min (min (x + c) (y + 1)) (z + 1)) C = min (min (min (y' + 1) (z' + 1)) (x' + c)) C := by
  rw [sat_min (sat_min (sat_add c hx) (sat_add 1 hy)) (sat_add 1 hz)]
  congr 1
  omega
theorem leN_good (a b : List Int) (B i k : Nat) (x y z u : Nat) (hi : i < a.length) (hk : k < b.length)
    (hx : min x (B + 1) = min (cellL a b i k) (B + 1)) (hy : min y (B + 1) = min (cellL a b i (k + 1)) (B + 1)) (hz : min z (B + 1) = min (cellL a b (i + 1) k) (B + 1))
    (hu : exL a b (i + 1) (k + 1) = true → min u (B + 1) = min (cellL a b (i + 1 - 2) (k + 1 - 2)) (B + 1)) :
    min (leN (decide (a[i]? = b[k]?)) (exL a b (i + 1) (k + 1)) x y z u) (B + 1) = min (cellL a b (i + 1) (k + 1)) (B + 1) := by
  have hd : (if decide (a[i]? = b[k]?) = true then 0 else 1) = if a[i] = b[k] then 0 else 1 := by
    by_cases e : a[i] = b[k]
    · rw [if_pos e, if_pos (decide_eq_true ((get_dec a b i k hi hk).2 e))]
    · rw [if_neg e, if_neg (by rw [decide_eq_true_eq]; exact fun h => e ((get_dec a b i k hi hk).1 h))]
  unfold leN
  rw [hd]
  by_cases h0 : i = 0 ∨ k = 0
  · rw [cellL_edge a b i k hi hk h0]
    have hx0 : exL a b (i + 1) (k + 1) = false := by unfold exL; exact decide_eq_false (by omega)
    rw [hx0, if_neg Bool.false_ne_true]
    exact sat_three _ hx hy hz
  · obtain ⟨i, rfl⟩ : ∃ j, i = j + 1 := ⟨i - 1, by omega⟩
    obtain ⟨k, rfl⟩ : ∃ j, k = j + 1 := ⟨k - 1, by omega⟩
    rw [show cellL a b (i + 1 + 1) (k + 1 + 1) = _ from cellL_step a b i k hi hk]
    have hex : exL a b (i + 1 + 1) (k + 1 + 1) = decide (a[i + 1] = b[k] ∧ a[i] = b[k + 1]) := by
      unfold exL
      rw [decide_eq_decide]
      show 1 < i + 1 + 1 ∧ 1 < k + 1 + 1 ∧ a[i + 1]? = b[k]? ∧ a[i]? = b[k + 1]? ↔ _
      rw [get_dec a b (i + 1) k hi (by omega), get_dec a b i (k + 1) (by omega) hk]
      exact ⟨fun h => h.2.2, fun h => ⟨by omega, by omega, h⟩⟩
    have h3 := sat_three (if a[i + 1] = b[k + 1] then 0 else 1) hx hy hz
    by_cases he : a[i + 1] = b[k] ∧ a[i] = b[k + 1]
    · have hx1 : exL a b (i + 1 + 1) (k + 1 + 1) = true := by rw [hex]; exact decide_eq_true he
      have hu' := hu hx1
      rw [hx1, if_pos rfl, if_pos he]
      rw [show i + 1 + 1 - 2 = i by omega, show k + 1 + 1 - 2 = k by omega] at hu'
      exact sat_min h3 (sat_add 1 hu')
    · have hx1 : exL a b (i + 1 + 1) (k + 1 + 1) = false := by rw [hex]; exact decide_eq_false he
      rw [hx1, if_neg Bool.false_ne_true, if_neg he]
      exact h3
theorem leN_le (e x' : Bool) (x y z u : Nat) : leN e x' x y z u ≤ z + 1 := by
  unfold leN
  split <;> omega
end Go.Proofs.Ytbghfbhchmoddaa
