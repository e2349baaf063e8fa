/- Parts of rows of numbers; a place of an own row is written. -/
import Derived.Test.YtbghfbhchmoddaaMDOwn
namespace Go.Proofs.Ytbghfbhchmoddaa
open Go Go.RowKit Go.Lib

theorem Try.bytesSub : (Try.prog.info? 3).map (·.size) = some 1 := by kernel_rfl
theorem Try.elemSub : Try.prog.underlying 22 = some (.slice (Try.prog.elem 22)) := by kernel_rfl
theorem size_sub (w : World) : (sizeOf (Try.prog.elem 22)).run Try.prog w = .ok 1 w := by kernel_rfl
theorem own_low {w : World} {B B' n : Nat} {v : Value} {xs : List Value} (h : w.ownsRow B 3 1 v n xs) (hb : B' ≤ B) : w.ownsRow B' 3 1 v n xs :=
  ⟨h.1, h.2.imp id fun ⟨g, cap, cur, h1, h2, h3⟩ => ⟨g, cap, cur, h1, Nat.le_trans hb h2, h3⟩⟩
theorem own_set {w : World} {B g n c : Nat} {L : List Int} (h : w.ownsRow B 3 1 (.slice (some ⟨g, 0, none⟩) n c) n (L.map (Value.int .i64))) (i : Nat) (v : Int) :
    (w.setCell ⟨g, i, none⟩ (.int .i64 v)).ownsRow B 3 1 (.slice (some ⟨g, 0, none⟩) n c) n ((L.set i v).map (Value.int .i64)) := by
  refine ⟨by rw [List.length_map, List.length_set, ← List.length_map (f := Value.int .i64)]; exact h.1, ?_⟩
  rcases h.2 with ⟨e, _⟩ | ⟨g', cap, cur, e, hB, hg, hnc, hcm, hcs, ht⟩
  · cases e
  · cases e
    refine .inr ⟨g, c, cur.setIfInBounds i (.int .i64 v), rfl, hB, heap_setCell_same w g i cur _ _ hg, hnc, hcm, by rw [Array.size_setIfInBounds]; exact hcs, ?_⟩
    rw [Array.toList_setIfInBounds, List.take_set, ht, List.map_set]
/-- What stands in an own row. -/
theorem own_cells {w : World} {B n c : Nat} {A : Option Addr} {L : List Int} (h : w.ownsRow B 3 1 (.slice A n c) n (L.map (Value.int .i64))) (hn : 0 < n) :
    ∃ g, A = some ⟨g, 0, none⟩ ∧ B ≤ g ∧ g < w.heap.size ∧ n ≤ c ∧ (∀ o, w.frozen? ⟨g, o, none⟩ = false) ∧ ∀ (i : Nat) x, L[i]? = some x → w.cell? ⟨g, i, none⟩ = some (.int .i64 x) := by
  have hc := @World.ownsRow.cells _ _ _ _ _ _ _ h
  rcases h.2 with ⟨_, e⟩ | ⟨g, cap, cur, e, hB, hg, hnc, hcm, hcs, ht⟩
  · omega
  · cases e
    refine ⟨g, rfl, hB, (Array.getElem?_eq_some_iff.1 hg).1, hnc, fun o => frozen_of_row w g o cur _ hg, fun i x hx => ?_⟩
    rw [← add9]
    exact hc (g := g) rfl i _ (by rw [List.getElem?_map, hx]; rfl)
theorem slice_hi {w : World} {A : Option Addr} {n c : Nat} {L : List Int} (h : IntsQ w (.slice A n c) L) (hn : n = L.length) (at' : Nat) (ha : at' ≤ n) :
    ∃ A' c', (∀ wx, (Instr.slice 22 (.slice A n c) none (some (.int .i64 at')) none).run Try.prog wx = .ok (.slice A' at' c') wx) ∧ IntsQ w (.slice A' at' c') (L.take at') := by
  have hnc : n ≤ c := by
    rcases h with ⟨e, e2 | ⟨a, cap, e2⟩⟩ | ⟨b, off, cap, e2, h1, h2, h3, h4⟩
    · rw [hn, e]; simp
    · rw [hn, e]; simp
    · cases e2; omega
  refine ⟨A, c, fun wx => ?_, ?_⟩
  · rw [run_slice_h wx 22 A n c Try.elemSub .i64 (at' : Int) (by omega) (by omega), size_sub]
    simp only [Result.andThen, sliced, Int.toNat_natCast, Nat.zero_mul, Nat.sub_zero]
    congr 2
    split
    · rfl
    · cases A <;> simp [Addr.add]
  · rcases h with ⟨rfl, e2 | ⟨a, cap, e2⟩⟩ | ⟨b, off, cap, e2, h1, h2, h3, h4⟩
    · cases e2
      obtain rfl : at' = 0 := by simp at ha; exact ha
      exact .inl ⟨by simp, .inl rfl⟩
    · cases e2
      obtain rfl : at' = 0 := by simp at ha; exact ha
      exact .inl ⟨by simp, .inr ⟨_, _, rfl⟩⟩
    · cases e2
      refine .inr ⟨b, off, c, by rw [List.length_take]; congr 1; omega, h1, by rw [List.length_take]; omega, h3, fun i s hs => ?_⟩
      rw [List.getElem?_take] at hs
      split at hs
      · exact h4 i s hs
      · cases hs
theorem slice_lo {w : World} {A : Option Addr} {n c : Nat} {L : List Int} (h : IntsQ w (.slice A n c) L) (hn : n = L.length) (at' : Nat) (ha : at' ≤ n) :
    ∃ A' c', (∀ wx, (Instr.slice 22 (.slice A n c) (some (.int .i64 at')) none none).run Try.prog wx = .ok (.slice A' (n - at') c') wx) ∧ IntsQ w (.slice A' (n - at') c') (L.drop at') := by
  have hnc : n ≤ c := by
    rcases h with ⟨e, e2 | ⟨a, cap, e2⟩⟩ | ⟨b, off, cap, e2, h1, h2, h3, h4⟩
    · rw [hn, e]; simp
    · rw [hn, e]; simp
    · cases e2; omega
  refine ⟨if c = at' then A else A.map (·.add (at' * 1)), c - at', fun wx => ?_, ?_⟩
  · rw [run_slice_l wx 22 A n c Try.elemSub .i64 (at' : Int) (by omega) (by omega), size_sub]
    simp only [Result.andThen, sliced, Int.toNat_natCast]
  · by_cases hl : L.drop at' = []
    · rw [hl]
      have e0 : n - at' = 0 := by
        have := congrArg List.length hl
        rw [List.length_drop, ← hn] at this
        simpa using this
      rw [e0]
      refine .inl ⟨rfl, ?_⟩
      rcases h with ⟨rfl, e2 | ⟨a, cap, e2⟩⟩ | ⟨b, off, cap, e2, h1, h2, h3, h4⟩
      · cases e2
        obtain rfl : at' = 0 := by simp at ha; exact ha
        exact .inl rfl
      · cases e2
        refine .inr ?_
        split
        · exact ⟨_, _, rfl⟩
        · exact ⟨_, _, rfl⟩
      · cases e2
        refine .inr ?_
        split
        · exact ⟨_, _, rfl⟩
        · exact ⟨_, _, rfl⟩
    · have hlt : at' < L.length := by
        rcases Nat.lt_or_ge at' L.length with h | h
        · exact h
        · exact absurd (List.drop_eq_nil_of_le h) hl
      rcases h with ⟨rfl, _⟩ | ⟨b, off, cap, e2, h1, h2, h3, h4⟩
      · simp at hlt
      · cases e2
        rw [if_neg (by omega)]
        refine .inr ⟨b, off + at', c - at', ?_, h1, by rw [List.length_drop]; omega, by omega, fun i s hs => ?_⟩
        · rw [List.length_drop, Nat.mul_one]
          simp only [Option.map_some]
          rw [Addr.add_lit]
        · rw [List.getElem?_drop] at hs
          rw [Nat.add_assoc]
          exact h4 _ s hs
end Go.Proofs.Ytbghfbhchmoddaa
