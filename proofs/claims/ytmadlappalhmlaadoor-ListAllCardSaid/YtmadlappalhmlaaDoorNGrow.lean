/- Rows of items and of codes that grow. -/
import Derived.Test.YtmadlappalhmlaaDoorNMem
namespace Go.Proofs.YtmadlappalhmlaaDoor
open Go Go.RowKit

/-! ### Rows that grow -/
/-- An item's cells, its set in the slice sv. -/
def iCells (it : It) (sv : Value) : List Value := [.bool it.any, .bool it.not, sv]
def ItsRow (w : World) (xs : List Value) (l : List It) (N : Nat → Prop) : Prop :=
  ∀ (i : Nat) it, l[i]? = some it → ∃ sv, xs[i * 3]? = some (.bool it.any) ∧ xs[i * 3 + 1]? = some (.bool it.not) ∧ xs[i * 3 + 2]? = some sv ∧ IntsAt w sv it.set ∧ ∀ b, sv.ownBlock = some b → b < w.heap.size ∧ ¬ N b
theorem apart {w : World} {B e e' size size' n n' : Nat} {v v' : Value} {xs xs' : List Value} (h : w.ownsRow B e size v n xs) (h' : w.ownsRow B e' size' v' n' xs') (hne : e ≠ e') : v.ownBlock = none ∨ v.ownBlock ≠ v'.ownBlock := by
  rcases h.2 with ⟨rfl, _⟩ | ⟨g, cap, cur, rfl, _, hg, _⟩
  · left; rfl
  · right
    rcases h'.2 with ⟨rfl, _⟩ | ⟨g', cap', cur', rfl, _, hg', _⟩
    · simp [Value.ownBlock]
    · simp only [Value.ownBlock]
      intro e1
      obtain rfl : g = g' := Option.some.inj e1
      rw [hg] at hg'
      simp at hg'
      exact hne hg'.2
/-- Numbers stand where their block does. -/
theorem IntsAt.still {w w' : World} {v : Value} {cs : List Int} (h : IntsAt w v cs) (hs : w.heap.size ≤ w'.heap.size) (hb : ∀ b, v.ownBlock = some b → b < w.heap.size → w'.heap[b]? = w.heap[b]?) : IntsAt w' v cs := by
  rcases h with h | ⟨b, off, cap, rfl, h1, h2, h3, h4⟩
  · exact .inl h
  · exact .inr ⟨b, off, cap, rfl, Nat.lt_of_lt_of_le h1 hs, h2, h3, fun i c hc => (by unfold World.cell?; rw [show (⟨b, off + i, none⟩ : Addr).block = b from rfl, hb b rfl h1]; exact h4 i c hc)⟩
theorem ItsRow.still {w w' : World} {xs : List Value} {l : List It} {N N' : Nat → Prop} (h : ItsRow w xs l N) (hs : w.heap.size ≤ w'.heap.size) (hb : ∀ b, b < w.heap.size → ¬ N b → w'.heap[b]? = w.heap[b]?) (hN : ∀ b, b < w.heap.size → N' b → N b) : ItsRow w' xs l N' := by
  intro i it hi
  obtain ⟨sv, h1, h2, h3, h4, h5⟩ := h i it hi
  exact ⟨sv, h1, h2, h3, h4.still hs fun b hv hlt => hb b hlt (h5 b hv).2, fun b hv => ⟨Nat.lt_of_lt_of_le (h5 b hv).1 hs, fun hn => (h5 b hv).2 (hN b (h5 b hv).1 hn)⟩⟩
theorem ItsRow.snoc {w : World} {xs : List Value} {l : List It} {N : Nat → Prop} (h : ItsRow w xs l N) (hl : xs.length = l.length * 3) {it : It} {sv : Value} (hv : IntsAt w sv it.set) (hb : ∀ b, sv.ownBlock = some b → b < w.heap.size ∧ ¬ N b) : ItsRow w (xs ++ iCells it sv) (l ++ [it]) N := by
  intro i x hi
  rcases Nat.lt_or_ge i l.length with hlt | hge
  · rw [List.getElem?_append_left hlt] at hi
    obtain ⟨s, h1, h2, h3, h4, h5⟩ := h i x hi
    exact ⟨s, by rw [List.getElem?_append_left (by omega)]; exact h1, by rw [List.getElem?_append_left (by omega)]; exact h2, by rw [List.getElem?_append_left (by omega)]; exact h3, h4, h5⟩
  · rw [List.getElem?_append_right hge] at hi
    have h0 : i - l.length = 0 := by
      have := (List.getElem?_eq_some_iff.1 hi).1
      simp at this; omega
    rw [h0] at hi
    obtain rfl : it = x := by simpa using hi
    obtain rfl : i = l.length := by omega
    refine ⟨sv, ?_, ?_, ?_, hv, hb⟩
    · rw [List.getElem?_append_right (by omega), hl, Nat.sub_self]; rfl
    · rw [List.getElem?_append_right (by omega), hl, show l.length * 3 + 1 - l.length * 3 = 1 by omega]; rfl
    · rw [List.getElem?_append_right (by omega), hl, show l.length * 3 + 2 - l.length * 3 = 2 by omega]; rfl
/-- A row of our own reads as codes. -/
theorem ints_own {w : World} {B : Nat} {vc : Value} {cs : List Int} (h : w.ownsRow B 3 1 vc cs.length (cs.map (Value.int .i64))) : IntsAt w vc cs := by
  have hadd : ∀ (g j : Nat), (⟨g, 0, none⟩ : Addr).add j = ⟨g, j, none⟩ := fun g j => by unfold Addr.add; split <;> simp_all
  have hc := @World.ownsRow.cells _ _ _ _ _ _ _ h
  rcases h.2 with ⟨rfl, h0⟩ | ⟨g, cap, cur, rfl, hb, hg, hnc, hcm, _⟩
  · exact .inl ⟨List.eq_nil_of_length_eq_zero h0, _, _, rfl⟩
  · refine .inr ⟨g, 0, cap, rfl, (Array.getElem?_eq_some_iff.1 hg).1, hnc, hcm, fun i c hi => ?_⟩
    rw [Nat.zero_add, ← hadd]
    exact hc (g := g) rfl i _ (by rw [List.getElem?_map, hi]; rfl)
theorem Tryd.infosN3 : (Tryd.prog.info? 3).map (fun i => (i.zero, i.size, i.bytes)) = some (some (.int .i64 0), 1, 8) := by kernel_rfl
theorem news_row (w : World) (cs : Array Value) (t : TypeId) : ∀ j u, cs.toList[j]? = some u → (w.alloc (.cells cs t)).cell? ((⟨w.heap.size, 0, none⟩ : Addr).add j) = some u := by
  intro j u hu
  have hadd : (⟨w.heap.size, 0, none⟩ : Addr).add j = ⟨w.heap.size, j, none⟩ := by unfold Addr.add; split <;> simp_all
  rw [hadd, cell_of_row _ w.heap.size j cs t (0, 0) (World.alloc_heap_new w _)]
  simpa using hu
theorem news_row2 (w : World) (o : Obj) (cs : Array Value) (t : TypeId) : ∀ j u, cs.toList[j]? = some u → ((w.alloc o).alloc (.cells cs t)).cell? ((⟨w.heap.size + 1, 0, none⟩ : Addr).add j) = some u := by
  have := news_row (w.alloc o) cs t
  rwa [World.size_alloc] at this
theorem add9 (g j : Nat) : (⟨g, 0, none⟩ : Addr).add j = ⟨g, j, none⟩ := by unfold Addr.add; split <;> simp_all
theorem own_open9 {w : World} {B e size n : Nat} {v : Value} {xs : List Value} (h : w.ownsRow B e size v n xs) (hn : 0 < n) :
    ∃ g cap, v = .slice (some ⟨g, 0, none⟩) n cap ∧ g < w.heap.size ∧ n ≤ cap ∧ cap ≤ maxLen ∧ ∀ j u, xs[j]? = some u → w.cell? ⟨g, j, none⟩ = some u := by
  have hc := @World.ownsRow.cells _ _ _ _ _ _ _ h
  rcases h.2 with ⟨_, rfl⟩ | ⟨g, cap, cur, rfl, hb, hg, hnc, hcm, _⟩
  · omega
  · refine ⟨g, cap, rfl, (Array.getElem?_eq_some_iff.1 hg).1, hnc, hcm, fun j u hu => ?_⟩
    have hadd : (⟨g, 0, none⟩ : Addr).add j = ⟨g, j, none⟩ := by unfold Addr.add; split <;> simp_all
    rw [← hadd]
    exact hc (g := g) rfl j u hu
theorem own_keep9 {w w' : World} {B : Nat} {e : TypeId} {size n : Nat} {v : Value} {xs : List Value} (h : w.ownsRow B e size v n xs) (hb : Below w.heap.size w w') : w'.ownsRow B e size v n xs := by
  refine ⟨h.1, ?_⟩
  rcases h.2 with h | ⟨g, cap, cur, h1, h2, h3, h4⟩
  · exact .inl h
  · exact .inr ⟨g, cap, cur, h1, h2, (hb.block g (Array.getElem?_eq_some_iff.1 h3).1).trans h3, h4⟩
theorem iCells_one (it : It) (a : Option Addr) (n cp : Nat) : ∀ u ∈ iCells it (.slice a n cp), u.oneCell' = true := by
  intro u hu
  unfold iCells at hu
  simp only [List.mem_cons, List.not_mem_nil, or_false] at hu
  rcases hu with rfl | rfl | rfl <;> rfl
end Go.Proofs.YtmadlappalhmlaaDoor
