/- Reading conditions item by item, plain; a row of items beside a row of codes and blocks of the call's own. -/
import Derived.Test.YtfhoffdgbkoffaaDoorNRefSame
import Derived.Test.YtfhoffdgbkoffaaDoorNNew
namespace Go.Proofs.YtfhoffdgbkoffaaDoor
open Go Go.RowKit

/-! ### Item by item -/
def parseAll (cs : List Int) : Option (List It) := parseF cs.length cs
theorem parseF_two : ∀ (f g : Nat) (cs : List Int), cs.length ≤ f → cs.length ≤ g → parseF f cs = parseF g cs
  | 0, g, cs, hf, _ => by
    have : cs = [] := List.eq_nil_of_length_eq_zero (by omega)
    subst this
    cases g <;> simp [parseF]
  | f + 1, 0, cs, _, hg => by
    have : cs = [] := List.eq_nil_of_length_eq_zero (by omega)
    subst this
    simp [parseF]
  | f + 1, g + 1, cs, hf, hg => by
    unfold parseF
    split
    · rfl
    · split
      · rfl
      · rename_i it r hh
        have := (headC_says hh).2.2.1
        rw [parseF_two f g r (by omega) (by omega)]
theorem parseAll_nil : parseAll [] = some [] := rfl
theorem parseAll_none {c : Int} {r : List Int} (h : headC (c :: r) = none) : parseAll (c :: r) = none := by
  unfold parseAll
  rw [List.length_cons]
  unfold parseF
  rw [if_neg (by simp), h]
theorem parseAll_some {c : Int} {r r' : List Int} {it : It} (h : headC (c :: r) = some (it, r')) : parseAll (c :: r) = (parseAll r').map fun l => it :: l := by
  have hl := (headC_says h).2.2.1
  unfold parseAll
  rw [List.length_cons] at hl ⊢
  rw [parseF.eq_2, if_neg (by simp), h]
  dsimp only
  rw [parseF_two r.length r'.length r' (by omega) (Nat.le_refl _)]
theorem parseC_all (cs : List Int) : parseC cs = match parseAll cs with
    | none => none
    | some l => if 0 < l.length ∧ l.length ≤ 8 then some l else none := rfl
theorem takeSet_none : ∀ (cs : List Int), (∀ c ∈ cs, c ≠ 93) → takeSet cs = none
  | [], _ => rfl
  | c :: r, h => by
    unfold takeSet
    rw [if_neg (h c (List.mem_cons_self ..)), takeSet_none r fun x hx => h x (List.mem_cons_of_mem _ hx)]
    rfl
/-- What has been read ahead of place k, and what is to come. -/
def Read (cs : List Int) (done : List It) (k : Nat) : Prop := parseAll cs = (parseAll (cs.drop k)).map fun l => done ++ l
theorem Read.start (cs : List Int) : Read cs [] 0 := by
  unfold Read
  rw [List.drop_zero]
  cases parseAll cs <;> simp
theorem dropc {cs : List Int} {k : Nat} {c : Int} (h : cs[k]? = some c) : cs.drop k = c :: cs.drop (k + 1) := by
  have hk := (List.getElem?_eq_some_iff.1 h).1
  rw [List.drop_eq_getElem_cons hk]
  have := List.getElem?_eq_getElem hk
  rw [h] at this
  rw [Option.some.inj this]
theorem Read.fails {cs : List Int} {done : List It} {k : Nat} {c : Int} (h : Read cs done k) (hc : cs[k]? = some c) (hn : headC (c :: cs.drop (k + 1)) = none) : parseAll cs = none := by
  unfold Read at h
  rw [dropc hc, parseAll_none hn] at h
  exact h
theorem Read.step {cs : List Int} {done : List It} {k k' : Nat} {c : Int} {it : It} (h : Read cs done k) (hc : cs[k]? = some c) (hn : headC (c :: cs.drop (k + 1)) = some (it, cs.drop k')) : Read cs (done ++ [it]) k' := by
  unfold Read at h ⊢
  rw [dropc hc, parseAll_some hn] at h
  rw [h]
  cases parseAll (cs.drop k') <;> simp
theorem Read.ends {cs : List Int} {done : List It} {k : Nat} (h : Read cs done k) (hk : cs.length ≤ k) : parseAll cs = some done := by
  unfold Read at h
  rw [List.drop_eq_nil_of_le hk, parseAll_nil] at h
  simpa using h
theorem head_any (r : List Int) : headC (46 :: r) = some (⟨true, false, []⟩, r) := rfl
theorem head_bad (r : List Int) : headC (93 :: r) = none := rfl
theorem head_one {c : Int} (r : List Int) (h1 : c ≠ 46) (h2 : c ≠ 93) (h3 : c ≠ 91) : headC (c :: r) = some (⟨false, false, [c]⟩, r) := by
  rw [headC_cons, if_neg h1, if_neg h2, if_neg h3]
theorem head_set (r : List Int) : headC (91 :: r) = if r.head? = some 94 then setC true r.tail else setC false r := rfl
/-- A bracket's set: from k2 on up to j there is none that closes. -/
theorem set_none {cs : List Int} {k2 : Nat} (h : ∀ c ∈ cs.drop k2, c ≠ 93) (neg : Bool) : setC neg (cs.drop k2) = none := by
  unfold setC
  rw [takeSet_none _ h]
theorem set_found {cs : List Int} {k2 j : Nat} (hkj : k2 ≤ j) (h : ∀ c ∈ (cs.drop k2).take (j - k2), c ≠ 93) (hj : cs[j]? = some 93) (neg : Bool) :
    setC neg (cs.drop k2) = if (cs.drop k2).take (j - k2) = [] then none else some (⟨false, neg, (cs.drop k2).take (j - k2)⟩, cs.drop (j + 1)) := by
  have hs : cs.drop k2 = (cs.drop k2).take (j - k2) ++ 93 :: cs.drop (j + 1) := by
    have h1 := List.take_append_drop (j - k2) (cs.drop k2)
    rw [List.drop_drop, show k2 + (j - k2) = j by omega, dropc hj] at h1
    exact h1.symm
  unfold setC
  have ht : takeSet (cs.drop k2) = some ((cs.drop k2).take (j - k2), cs.drop (j + 1)) := by
    have := takeSet_app ((cs.drop k2).take (j - k2)) (cs.drop (j + 1)) h
    rw [← hs] at this
    exact this
  rw [ht]

/-! ### Rows -/
def iCells9 (it : It) (sv : Value) : List Value := [.bool it.any, .bool it.not, sv]
def RowI (w : World) (xs : List Value) (l : List It) (N : Nat → Prop) : Prop :=
  ∀ (i : Nat) it, l[i]? = some it → ∃ sv, xs[i * 3]? = some (.bool it.any) ∧ xs[i * 3 + 1]? = some (.bool it.not) ∧ xs[i * 3 + 2]? = some sv ∧ IntsAt w sv it.set ∧ ∀ b, sv.ownBlock = some b → b < w.heap.size ∧ ¬ N b
/-- A row of items, a row of codes, blocks N of the call's own beside them. -/
structure PM (w0 w : World) (v vc : Value) (xs : List Value) (l : List It) (cs : List Int) (N : Nat → Prop) : Prop where
  row : w.ownsRow w0.heap.size 90 3 v l.length xs
  codes : w.ownsRow w0.heap.size 3 1 vc cs.length (cs.map (Value.int .i64))
  sets : RowI w xs l (fun b => v.ownBlock = some b ∨ vc.ownBlock = some b ∨ N b)
  below : Below w0.heap.size w0 w
  mine : ∀ b, N b → w0.heap.size ≤ b ∧ b < w.heap.size ∧ v.ownBlock ≠ some b ∧ vc.ownBlock ≠ some b
  fresh : FreshX w0.heap.size xs l
theorem apart9 {w : World} {B e e' size size' n n' : Nat} {v v' : Value} {xs xs' : List Value} (h : w.ownsRow B e size v n xs) (h' : w.ownsRow B e' size' v' n' xs') (hne : e ≠ e') : v.ownBlock = none ∨ v.ownBlock ≠ v'.ownBlock := by
  rcases h.2 with ⟨rfl, _⟩ | ⟨g, cap, cur, rfl, _, hg, _⟩
  · left; rfl
  · right
    rcases h'.2 with ⟨rfl, _⟩ | ⟨g', cap', cur', rfl, _, hg', _⟩
    · simp [Value.ownBlock]
    · simp only [Value.ownBlock]
      intro e1
      obtain rfl : g = g' := Option.some.inj e1
      rw [hg] at hg'
      simp at hg'
      exact hne hg'.2
theorem ints_still {w w' : World} {v : Value} {cs : List Int} (h : IntsAt w v cs) (hs : w.heap.size ≤ w'.heap.size) (hb : ∀ b, v.ownBlock = some b → b < w.heap.size → w'.heap[b]? = w.heap[b]?) : IntsAt w' v cs := by
  rcases h with h | ⟨b, off, cap, rfl, h1, h2, h3, h4⟩
  · exact .inl h
  · exact .inr ⟨b, off, cap, rfl, Nat.lt_of_lt_of_le h1 hs, h2, h3, fun i c hc => (by unfold World.cell?; rw [show (⟨b, off + i, none⟩ : Addr).block = b from rfl, hb b rfl h1]; exact h4 i c hc)⟩
theorem RowI.still {w w' : World} {xs : List Value} {l : List It} {N N' : Nat → Prop} (h : RowI w xs l N) (hs : w.heap.size ≤ w'.heap.size) (hb : ∀ b, b < w.heap.size → ¬ N b → w'.heap[b]? = w.heap[b]?) (hN : ∀ b, b < w.heap.size → N' b → N b) : RowI w' xs l N' := by
  intro i it hi
  obtain ⟨sv, h1, h2, h3, h4, h5⟩ := h i it hi
  exact ⟨sv, h1, h2, h3, ints_still h4 hs fun b hv hlt => hb b hlt (h5 b hv).2, fun b hv => ⟨Nat.lt_of_lt_of_le (h5 b hv).1 hs, fun hn => (h5 b hv).2 (hN b (h5 b hv).1 hn)⟩⟩
theorem RowI.snoc {w : World} {xs : List Value} {l : List It} {N : Nat → Prop} (h : RowI w xs l N) (hl : xs.length = l.length * 3) {it : It} {sv : Value} (hv : IntsAt w sv it.set) (hb : ∀ b, sv.ownBlock = some b → b < w.heap.size ∧ ¬ N b) : RowI w (xs ++ iCells9 it sv) (l ++ [it]) N := by
  intro i x hi
  rcases Nat.lt_or_ge i l.length with hlt | hge
  · rw [List.getElem?_append_left hlt] at hi
    obtain ⟨s, h1, h2, h3, h4, h5⟩ := h i x hi
    exact ⟨s, by rw [List.getElem?_append_left (by omega)]; exact h1, by rw [List.getElem?_append_left (by omega)]; exact h2, by rw [List.getElem?_append_left (by omega)]; exact h3, h4, h5⟩
  · rw [List.getElem?_append_right hge] at hi
    have h0 : i - l.length = 0 := by
      have := (List.getElem?_eq_some_iff.1 hi).1
      simp at this; omega
    rw [h0] at hi
    obtain rfl : it = x := by simpa using hi
    obtain rfl : i = l.length := by omega
    refine ⟨sv, ?_, ?_, ?_, hv, hb⟩
    · rw [List.getElem?_append_right (by omega), hl, Nat.sub_self]; rfl
    · rw [List.getElem?_append_right (by omega), hl, show l.length * 3 + 1 - l.length * 3 = 1 by omega]; rfl
    · rw [List.getElem?_append_right (by omega), hl, show l.length * 3 + 2 - l.length * 3 = 2 by omega]; rfl
section
variable {w0 w w' : World} {v vc : Value} {xs : List Value} {l : List It} {cs : List Int} {N : Nat → Prop}
/-- A new block of the call's own. -/
theorem PM.alloc (h : PM w0 w v vc xs l cs N) (o : Obj) : PM w0 (w.alloc o) v vc xs l cs (fun b => N b ∨ b = w.heap.size) := by
  refine ⟨h.row.alloc o, h.codes.alloc o, h.sets.still (by simp) (fun b hb _ => Below.heap_alloc _ _ _ hb) (fun b hlt hn => ?_), h.below.alloc h.below.size o, fun b hb => ?_, h.fresh⟩
  · rcases hn with hn | hn | hn | hn
    · exact .inl hn
    · exact .inr (.inl hn)
    · exact .inr (.inr hn)
    · omega
  · rcases hb with hb | rfl
    · obtain ⟨h1, h2, h3, h4⟩ := h.mine b hb
      exact ⟨h1, by rw [World.size_alloc]; omega, h3, h4⟩
    · exact ⟨h.below.size, by rw [World.size_alloc]; omega, fun e => by have := (h.row.lt _ e).2; omega, fun e => by have := (h.codes.lt _ e).2; omega⟩
theorem PM.less (h : PM w0 w v vc xs l cs N) {N' : Nat → Prop} (hN : ∀ b, N' b → N b) : PM w0 w v vc xs l cs N' :=
  ⟨h.row, h.codes, h.sets.still (Nat.le_refl _) (fun _ _ _ => rfl) (fun b _ hn => hn.elim .inl (fun e => e.elim (fun e => .inr (.inl e)) (fun e => .inr (.inr (hN b e))))), h.below, fun b hb => h.mine b (hN b hb), h.fresh⟩
theorem own_kept9 {w w' : World} {B e size n : Nat} {v : Value} {xs : List Value} (h : w.ownsRow B e size v n xs) (hk : ∀ g, v.ownBlock = some g → w'.heap[g]? = w.heap[g]?) : w'.ownsRow B e size v n xs := by
  refine ⟨h.1, ?_⟩
  rcases h.2 with hn | ⟨g, cap, cur, rfl, hgb, hgg, rest⟩
  · exact .inl hn
  · exact .inr ⟨g, cap, cur, rfl, hgb, (hk g rfl).trans hgg, rest⟩
/-- Blocks of the call's own are written, new ones come. -/
theorem PM.write (h : PM w0 w v vc xs l cs N) (ho : OnlyAt N w w') : PM w0 w' v vc xs l cs N := by
  refine ⟨own_kept9 h.row fun g hg => ho.block g (h.row.lt g hg).2 (fun e => (h.mine g e).2.2.1 hg), own_kept9 h.codes fun g hg => ho.block g (h.codes.lt g hg).2 (fun e => (h.mine g e).2.2.2 hg), h.sets.still ho.size (fun b hlt hn => ho.block b hlt (fun e => hn (.inr (.inr e)))) (fun _ _ hn => hn), OnlyAt.below h.below ho h.below.size fun k hk => (h.mine k hk).1, fun b hb => ?_, h.fresh⟩
  obtain ⟨h1, h2, h3, h4⟩ := h.mine b hb
  exact ⟨h1, Nat.lt_of_lt_of_le h2 ho.size, h3, h4⟩
/-- An item more: what was the call's own is the row's. -/
theorem PM.item {v' : Value} {it : It} {sv : Value} (h : PM w0 w v vc xs l cs N) (hown : w'.ownsRow w0.heap.size 90 3 v' (l.length + 1) (xs ++ iCells9 it sv)) (hgrow : w.grownBy w' v.ownBlock)
    (hwh : v'.ownBlock = v.ownBlock ∨ ∀ g, v'.ownBlock = some g → w.heap.size ≤ g) (hv : IntsAt w sv it.set) (hb : ∀ b, sv.ownBlock = some b → N b) : PM w0 w' v' vc (xs ++ iCells9 it sv) (l ++ [it]) cs (fun _ => False) := by
  have hlo : ∀ z, v.ownBlock = some z → w0.heap.size ≤ z := fun z hz => (h.row.lt z hz).1
  have h0 : RowI w xs l (fun b => v.ownBlock = some b ∨ vc.ownBlock = some b) := h.sets.still (Nat.le_refl _) (fun _ _ _ => rfl) (fun b _ hn => hn.elim .inl (fun e => .inr (.inl e)))
  have h1 : RowI w (xs ++ iCells9 it sv) (l ++ [it]) (fun b => v.ownBlock = some b ∨ vc.ownBlock = some b) := h0.snoc h.row.1 hv fun b hvb => ⟨(h.mine b (hb b hvb)).2.1, fun hn => hn.elim (h.mine b (hb b hvb)).2.2.1 (h.mine b (hb b hvb)).2.2.2⟩
  refine ⟨by rw [List.length_append]; exact hown, h.codes.kept hgrow ?_, h1.still hgrow.size (fun b hlt hn => hgrow.block b hlt (fun e => hn (.inl e.symm))) (fun b hlt hn => ?_), h.below.grown hgrow h.below.size hlo, fun b hb => hb.elim, h.fresh.snoc h.row.1 fun g hg => (h.mine g (hb g hg)).1⟩
  · rcases apart9 h.codes h.row (by decide) with e | e
    · exact .inl e
    · exact .inr e
  · rcases hn with hn | hn | hn
    · rcases hwh with e | e
      · exact .inl (e ▸ hn)
      · have := e b hn; omega
    · exact .inr hn
    · exact hn.elim
theorem PM.reads (h : PM w0 w v vc xs l cs N) : ItemsNew w0.heap.size w v l := by
  have hadd : ∀ (g j : Nat), (⟨g, 0, none⟩ : Addr).add j = ⟨g, j, none⟩ := fun g j => by unfold Addr.add; split <;> simp_all
  have hc := @World.ownsRow.cells _ _ _ _ _ _ _ h.row
  rcases h.row.2 with ⟨rfl, h0⟩ | ⟨g, cap, cur, rfl, hb, hg, hnc, hcm, _⟩
  · exact .inl ⟨List.eq_nil_of_length_eq_zero h0, _, _, rfl⟩
  · refine .inr ⟨g, 0, cap, rfl, (Array.getElem?_eq_some_iff.1 hg).1, hb, hnc, hcm, fun i it hi => ?_⟩
    obtain ⟨sv, h1, h2, h3, h4, _⟩ := h.sets i it hi
    rw [Nat.zero_add]
    exact ⟨by rw [← hadd]; exact hc (g := g) rfl _ _ h1, by rw [← hadd]; exact hc (g := g) rfl _ _ h2, sv, by rw [← hadd]; exact hc (g := g) rfl _ _ h3, h4, h.fresh i it hi sv h3⟩
end
end Go.Proofs.YtfhoffdgbkoffaaDoor
