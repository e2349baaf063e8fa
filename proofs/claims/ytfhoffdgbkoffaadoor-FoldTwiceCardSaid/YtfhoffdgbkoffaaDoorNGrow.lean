/- Rows of items and of codes that grow. -/
import Derived.Test.YtfhoffdgbkoffaaDoorNMem
namespace Go.Proofs.YtfhoffdgbkoffaaDoor
open Go Go.RowKit

/-! ### Rows that grow -/
/-- An item's cells, its set in the slice sv. -/
def iCells (it : It) (sv : Value) : List Value := [.bool it.any, .bool it.not, sv]
def ItsRow (w : World) (xs : List Value) (l : List It) (N : Nat → Prop) : Prop :=
  ∀ (i : Nat) it, l[i]? = some it → ∃ sv, xs[i * 3]? = some (.bool it.any) ∧ xs[i * 3 + 1]? = some (.bool it.not) ∧ xs[i * 3 + 2]? = some sv ∧ IntsAt w sv it.set ∧ ∀ b, sv.ownBlock = some b → b < w.heap.size ∧ ¬ N b
structure Grow (w0 w : World) (v vc : Value) (xs : List Value) (l : List It) (cs : List Int) : Prop where
  row : w.ownsRow w0.heap.size 90 3 v l.length xs
  codes : w.ownsRow w0.heap.size 3 1 vc cs.length (cs.map (Value.int .i64))
  sets : ItsRow w xs l (fun b => v.ownBlock = some b ∨ vc.ownBlock = some b)
  below : Below w0.heap.size w0 w
theorem apart {w : World} {B e e' size size' n n' : Nat} {v v' : Value} {xs xs' : List Value} (h : w.ownsRow B e size v n xs) (h' : w.ownsRow B e' size' v' n' xs') (hne : e ≠ e') : v.ownBlock = none ∨ v.ownBlock ≠ v'.ownBlock := by
  rcases h.2 with ⟨rfl, _⟩ | ⟨g, cap, cur, rfl, _, hg, _⟩
  · left; rfl
  · right
    rcases h'.2 with ⟨rfl, _⟩ | ⟨g', cap', cur', rfl, _, hg', _⟩
    · simp [Value.ownBlock]
    · simp only [Value.ownBlock]
      intro e1
      obtain rfl : g = g' := Option.some.inj e1
      rw [hg] at hg'
      simp at hg'
      exact hne hg'.2
/-- Numbers stand where their block does. -/
theorem IntsAt.still {w w' : World} {v : Value} {cs : List Int} (h : IntsAt w v cs) (hs : w.heap.size ≤ w'.heap.size) (hb : ∀ b, v.ownBlock = some b → b < w.heap.size → w'.heap[b]? = w.heap[b]?) : IntsAt w' v cs := by
  rcases h with h | ⟨b, off, cap, rfl, h1, h2, h3, h4⟩
  · exact .inl h
  · exact .inr ⟨b, off, cap, rfl, Nat.lt_of_lt_of_le h1 hs, h2, h3, fun i c hc => (by unfold World.cell?; rw [show (⟨b, off + i, none⟩ : Addr).block = b from rfl, hb b rfl h1]; exact h4 i c hc)⟩
theorem ItsRow.still {w w' : World} {xs : List Value} {l : List It} {N N' : Nat → Prop} (h : ItsRow w xs l N) (hs : w.heap.size ≤ w'.heap.size) (hb : ∀ b, b < w.heap.size → ¬ N b → w'.heap[b]? = w.heap[b]?) (hN : ∀ b, b < w.heap.size → N' b → N b) : ItsRow w' xs l N' := by
  intro i it hi
  obtain ⟨sv, h1, h2, h3, h4, h5⟩ := h i it hi
  exact ⟨sv, h1, h2, h3, h4.still hs fun b hv hlt => hb b hlt (h5 b hv).2, fun b hv => ⟨Nat.lt_of_lt_of_le (h5 b hv).1 hs, fun hn => (h5 b hv).2 (hN b (h5 b hv).1 hn)⟩⟩
theorem ItsRow.snoc {w : World} {xs : List Value} {l : List It} {N : Nat → Prop} (h : ItsRow w xs l N) (hl : xs.length = l.length * 3) {it : It} {sv : Value} (hv : IntsAt w sv it.set) (hb : ∀ b, sv.ownBlock = some b → b < w.heap.size ∧ ¬ N b) : ItsRow w (xs ++ iCells it sv) (l ++ [it]) N := by
  intro i x hi
  rcases Nat.lt_or_ge i l.length with hlt | hge
  · rw [List.getElem?_append_left hlt] at hi
    obtain ⟨s, h1, h2, h3, h4, h5⟩ := h i x hi
    exact ⟨s, by rw [List.getElem?_append_left (by omega)]; exact h1, by rw [List.getElem?_append_left (by omega)]; exact h2, by rw [List.getElem?_append_left (by omega)]; exact h3, h4, h5⟩
  · rw [List.getElem?_append_right hge] at hi
    have h0 : i - l.length = 0 := by
      have := (List.getElem?_eq_some_iff.1 hi).1
      simp at this; omega
    rw [h0] at hi
    obtain rfl : it = x := by simpa using hi
    obtain rfl : i = l.length := by omega
    refine ⟨sv, ?_, ?_, ?_, hv, hb⟩
    · rw [List.getElem?_append_right (by omega), hl, Nat.sub_self]; rfl
    · rw [List.getElem?_append_right (by omega), hl, show l.length * 3 + 1 - l.length * 3 = 1 by omega]; rfl
    · rw [List.getElem?_append_right (by omega), hl, show l.length * 3 + 2 - l.length * 3 = 2 by omega]; rfl
theorem Grow.alloc {w0 w : World} {v vc : Value} {xs : List Value} {l : List It} {cs : List Int} (h : Grow w0 w v vc xs l cs) (o : Obj) : Grow w0 (w.alloc o) v vc xs l cs :=
  ⟨h.row.alloc o, h.codes.alloc o, h.sets.still (by simp) (fun b hb _ => Below.heap_alloc _ _ _ hb) (fun _ _ hn => hn), h.below.alloc h.below.size o⟩
/-- An item more. -/
theorem Grow.item {w0 w w' : World} {v vc v' : Value} {xs : List Value} {l : List It} {cs : List Int} {it : It} {sv : Value} (h : Grow w0 w v vc xs l cs) (hown : w'.ownsRow w0.heap.size 90 3 v' (l.length + 1) (xs ++ iCells it sv)) (hgrow : w.grownBy w' v.ownBlock)
    (hwh : v'.ownBlock = v.ownBlock ∨ ∀ g, v'.ownBlock = some g → w.heap.size ≤ g) (hv : IntsAt w sv it.set) (hb : ∀ b, sv.ownBlock = some b → b < w.heap.size ∧ v.ownBlock ≠ some b ∧ vc.ownBlock ≠ some b) : Grow w0 w' v' vc (xs ++ iCells it sv) (l ++ [it]) cs := by
  have hlo : ∀ z, v.ownBlock = some z → w0.heap.size ≤ z := fun z hz => (h.row.lt z hz).1
  refine ⟨by rw [List.length_append]; exact hown, h.codes.kept hgrow ?_, ?_, h.below.grown hgrow h.below.size hlo⟩
  · rcases apart h.codes h.row (by decide) with e | e
    · exact .inl e
    · exact .inr e
  · have h1 : ItsRow w (xs ++ iCells it sv) (l ++ [it]) (fun b => v.ownBlock = some b ∨ vc.ownBlock = some b) := h.sets.snoc h.row.1 hv fun b hvb => ⟨(hb b hvb).1, fun hn => hn.elim (hb b hvb).2.1 (hb b hvb).2.2⟩
    refine h1.still hgrow.size (fun b hlt hn => hgrow.block b hlt (fun e => hn (.inl e.symm))) (fun b hlt hn => ?_)
    rcases hn with hn | hn
    · rcases hwh with e | e
      · exact .inl (e ▸ hn)
      · have := e b hn; omega
    · exact .inr hn
/-- A code more. -/
theorem Grow.code {w0 w w' : World} {v vc vc' : Value} {xs : List Value} {l : List It} {cs : List Int} {c : Int} (h : Grow w0 w v vc xs l cs) (hown : w'.ownsRow w0.heap.size 3 1 vc' (cs.length + 1) (cs.map (Value.int .i64) ++ [.int .i64 c])) (hgrow : w.grownBy w' vc.ownBlock)
    (hwh : vc'.ownBlock = vc.ownBlock ∨ ∀ g, vc'.ownBlock = some g → w.heap.size ≤ g) : Grow w0 w' v vc' xs l (cs ++ [c]) := by
  have hlo : ∀ z, vc.ownBlock = some z → w0.heap.size ≤ z := fun z hz => (h.codes.lt z hz).1
  refine ⟨h.row.kept hgrow ?_, by rw [List.length_append, List.map_append]; exact hown, ?_, h.below.grown hgrow h.below.size hlo⟩
  · rcases apart h.row h.codes (by decide) with e | e
    · exact .inl e
    · exact .inr e
  · refine h.sets.still hgrow.size (fun b hlt hn => hgrow.block b hlt (fun e => hn (.inr e.symm))) (fun b hlt hn => ?_)
    rcases hn with hn | hn
    · exact .inl hn
    · rcases hwh with e | e
      · exact .inr (e ▸ hn)
      · have := e b hn; omega
theorem Grow.start (w : World) : Grow w w (.slice none 0 0) (.slice none 0 0) [] [] [] :=
  ⟨World.ownsRow_nil _ _ _ _, World.ownsRow_nil _ _ _ _, fun i it h => by simp at h, Below.refl _ _⟩
/-- Rows of our own read as items, as codes. -/
theorem Grow.reads {w0 w : World} {v vc : Value} {xs : List Value} {l : List It} {cs : List Int} (h : Grow w0 w v vc xs l cs) : ItemsAt w v l ∧ IntsAt w vc cs := by
  have hadd : ∀ (g j : Nat), (⟨g, 0, none⟩ : Addr).add j = ⟨g, j, none⟩ := fun g j => by unfold Addr.add; split <;> simp_all
  constructor
  · have hc := @World.ownsRow.cells _ _ _ _ _ _ _ h.row
    rcases h.row.2 with ⟨rfl, h0⟩ | ⟨g, cap, cur, rfl, hb, hg, hnc, hcm, _⟩
    · exact .inl ⟨List.eq_nil_of_length_eq_zero h0, _, _, rfl⟩
    · refine .inr ⟨g, 0, cap, rfl, (Array.getElem?_eq_some_iff.1 hg).1, hnc, hcm, fun i it hi => ?_⟩
      obtain ⟨sv, h1, h2, h3, h4, _⟩ := h.sets i it hi
      rw [Nat.zero_add]
      exact ⟨by rw [← hadd]; exact hc (g := g) rfl _ _ h1, by rw [← hadd]; exact hc (g := g) rfl _ _ h2, sv, by rw [← hadd]; exact hc (g := g) rfl _ _ h3, h4⟩
  · have hc := @World.ownsRow.cells _ _ _ _ _ _ _ h.codes
    rcases h.codes.2 with ⟨rfl, h0⟩ | ⟨g, cap, cur, rfl, hb, hg, hnc, hcm, _⟩
    · exact .inl ⟨List.eq_nil_of_length_eq_zero h0, _, _, rfl⟩
    · refine .inr ⟨g, 0, cap, rfl, (Array.getElem?_eq_some_iff.1 hg).1, hnc, hcm, fun i c hi => ?_⟩
      rw [Nat.zero_add, ← hadd]
      exact hc (g := g) rfl i _ (by rw [List.getElem?_map, hi]; rfl)
/-- A row of our own reads as codes. -/
theorem ints_own {w : World} {B : Nat} {vc : Value} {cs : List Int} (h : w.ownsRow B 3 1 vc cs.length (cs.map (Value.int .i64))) : IntsAt w vc cs := by
  have hadd : ∀ (g j : Nat), (⟨g, 0, none⟩ : Addr).add j = ⟨g, j, none⟩ := fun g j => by unfold Addr.add; split <;> simp_all
  have hc := @World.ownsRow.cells _ _ _ _ _ _ _ h
  rcases h.2 with ⟨rfl, h0⟩ | ⟨g, cap, cur, rfl, hb, hg, hnc, hcm, _⟩
  · exact .inl ⟨List.eq_nil_of_length_eq_zero h0, _, _, rfl⟩
  · refine .inr ⟨g, 0, cap, rfl, (Array.getElem?_eq_some_iff.1 hg).1, hnc, hcm, fun i c hi => ?_⟩
    rw [Nat.zero_add, ← hadd]
    exact hc (g := g) rfl i _ (by rw [List.getElem?_map, hi]; rfl)
theorem Tryd.infosN90 : (Tryd.prog.info? 90).map (fun i => (i.zero, i.size, i.bytes)) = some (some (.agg #[.bool false, .bool false, .slice none 0 0]), 3, 32) := by kernel_rfl
theorem Tryd.infosN3 : (Tryd.prog.info? 3).map (fun i => (i.zero, i.size, i.bytes)) = some (some (.int .i64 0), 1, 8) := by kernel_rfl
theorem news_row (w : World) (cs : Array Value) (t : TypeId) : ∀ j u, cs.toList[j]? = some u → (w.alloc (.cells cs t)).cell? ((⟨w.heap.size, 0, none⟩ : Addr).add j) = some u := by
  intro j u hu
  have hadd : (⟨w.heap.size, 0, none⟩ : Addr).add j = ⟨w.heap.size, j, none⟩ := by unfold Addr.add; split <;> simp_all
  rw [hadd, cell_of_row _ w.heap.size j cs t (0, 0) (World.alloc_heap_new w _)]
  simpa using hu
theorem news_row2 (w : World) (o : Obj) (cs : Array Value) (t : TypeId) : ∀ j u, cs.toList[j]? = some u → ((w.alloc o).alloc (.cells cs t)).cell? ((⟨w.heap.size + 1, 0, none⟩ : Addr).add j) = some u := by
  have := news_row (w.alloc o) cs t
  rwa [World.size_alloc] at this
theorem add9 (g j : Nat) : (⟨g, 0, none⟩ : Addr).add j = ⟨g, j, none⟩ := by unfold Addr.add; split <;> simp_all
theorem own_open9 {w : World} {B e size n : Nat} {v : Value} {xs : List Value} (h : w.ownsRow B e size v n xs) (hn : 0 < n) :
    ∃ g cap, v = .slice (some ⟨g, 0, none⟩) n cap ∧ g < w.heap.size ∧ n ≤ cap ∧ cap ≤ maxLen ∧ ∀ j u, xs[j]? = some u → w.cell? ⟨g, j, none⟩ = some u := by
  have hc := @World.ownsRow.cells _ _ _ _ _ _ _ h
  rcases h.2 with ⟨_, rfl⟩ | ⟨g, cap, cur, rfl, hb, hg, hnc, hcm, _⟩
  · omega
  · refine ⟨g, cap, rfl, (Array.getElem?_eq_some_iff.1 hg).1, hnc, hcm, fun j u hu => ?_⟩
    have hadd : (⟨g, 0, none⟩ : Addr).add j = ⟨g, j, none⟩ := by unfold Addr.add; split <;> simp_all
    rw [← hadd]
    exact hc (g := g) rfl j u hu
theorem own_keep9 {w w' : World} {B : Nat} {e : TypeId} {size n : Nat} {v : Value} {xs : List Value} (h : w.ownsRow B e size v n xs) (hb : Below w.heap.size w w') : w'.ownsRow B e size v n xs := by
  refine ⟨h.1, ?_⟩
  rcases h.2 with h | ⟨g, cap, cur, h1, h2, h3, h4⟩
  · exact .inl h
  · exact .inr ⟨g, cap, cur, h1, h2, (hb.block g (Array.getElem?_eq_some_iff.1 h3).1).trans h3, h4⟩
theorem Grow.keep {w0 w w' : World} {v vc : Value} {xs : List Value} {l : List It} {cs : List Int} (h : Grow w0 w v vc xs l cs) (hb : Below w.heap.size w w') : Grow w0 w' v vc xs l cs :=
  ⟨own_keep9 h.row hb, own_keep9 h.codes hb, h.sets.still hb.size (fun b hlt _ => hb.block b hlt) (fun _ _ hn => hn), h.below.trans (hb.mono h.below.size)⟩
theorem iCells_one (it : It) (a : Option Addr) (n cp : Nat) : ∀ u ∈ iCells it (.slice a n cp), u.oneCell' = true := by
  intro u hu
  unfold iCells at hu
  simp only [List.mem_cons, List.not_mem_nil, or_false] at hu
  rcases hu with rfl | rfl | rfl <;> rfl
end Go.Proofs.YtfhoffdgbkoffaaDoor
