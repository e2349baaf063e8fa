/- Rows of items and of codes that grow. -/
import Derived.Maps.RangeWalk
import Derived.Maps.Ext
import Derived.DeepKeys4
import Derived.Deep.AppendLies
import Derived.Deep.RegionLaw
import Derived.Deep.CutRange
import Derived.Deep.DeepCutAuto
import Derived.Laws.MakeOwn
import Derived.Lib.Hide
import Derived.Lib.SliceRun
import Derived.Test.YtfehpcbmdancoaaGreatDoorPaPlain
import Derived.Test.YtfehpcbmdancoaaGreatDoorPaSGives
namespace Go.Proofs.YtfehpcbmdancoaaGreatDoor
open Go Go.RowKit

/-- An item's cells, its set in the slice sv. -/
def iCells (it : It) (sv : Value) : List Value := [.bool it.any, .bool it.not, sv]
def ItsRow (w : World) (xs : List Value) (l : List It) (N : Nat → Prop) : Prop :=
  ∀ (i : Nat) it, l[i]? = some it → ∃ sv, xs[i * 3]? = some (.bool it.any) ∧ xs[i * 3 + 1]? = some (.bool it.not) ∧ xs[i * 3 + 2]? = some sv ∧ IntsAt w sv it.set ∧ ∀ b, sv.ownBlock = some b → b < w.heap.size ∧ ¬ N b
structure Grow (w0 w : World) (v vc : Value) (xs : List Value) (l : List It) (cs : List Int) : Prop where
  row : w.ownsRow w0.heap.size 236 3 v l.length xs
  codes : w.ownsRow w0.heap.size 3 1 vc cs.length (cs.map (Value.int .i64))
  sets : ItsRow w xs l (fun b => v.ownBlock = some b ∨ vc.ownBlock = some b)
  below : Below w0.heap.size w0 w
theorem apart {w : World} {B e e' size size' n n' : Nat} {v v' : Value} {xs xs' : List Value} (h : w.ownsRow B e size v n xs) (h' : w.ownsRow B e' size' v' n' xs') (hne : e ≠ e') : v.ownBlock = none ∨ v.ownBlock ≠ v'.ownBlock := by
  rcases h.2 with ⟨rfl, _⟩ | ⟨g, cap, cur, rfl, _, hg, _⟩
  · left; rfl
  · right
    rcases h'.2 with ⟨rfl, _⟩ | ⟨g', cap', cur', rfl, _, hg', _⟩
    · simp [Value.ownBlock]
    · simp only [Value.ownBlock]
      intro e1
      obtain rfl : g = g' := Option.some.inj e1
      rw [hg] at hg'
      simp at hg'
      exact hne hg'.2
/-- Numbers stand where their block does. -/
theorem IntsAt.still {w w' : World} {v : Value} {cs : List Int} (h : IntsAt w v cs) (hs : w.heap.size ≤ w'.heap.size) (hb : ∀ b, v.ownBlock = some b → b < w.heap.size → w'.heap[b]? = w.heap[b]?) : IntsAt w' v cs := by
  rcases h with h | ⟨b, off, cap, rfl, h1, h2, h3, h4⟩
  · exact .inl h
  · exact .inr ⟨b, off, cap, rfl, Nat.lt_of_lt_of_le h1 hs, h2, h3, fun i c hc => (by unfold World.cell?; rw [show (⟨b, off + i, none⟩ : Addr).block = b from rfl, hb b rfl h1]; exact h4 i c hc)⟩
theorem ItsRow.still {w w' : World} {xs : List Value} {l : List It} {N N' : Nat → Prop} (h : ItsRow w xs l N) (hs : w.heap.size ≤ w'.heap.size) (hb : ∀ b, b < w.heap.size → ¬ N b → w'.heap[b]? = w.heap[b]?) (hN : ∀ b, b < w.heap.size → N' b → N b) : ItsRow w' xs l N' := by
  intro i it hi
  obtain ⟨sv, h1, h2, h3, h4, h5⟩ := h i it hi
  exact ⟨sv, h1, h2, h3, h4.still hs fun b hv hlt => hb b hlt (h5 b hv).2, fun b hv => ⟨Nat.lt_of_lt_of_le (h5 b hv).1 hs, fun hn => (h5 b hv).2 (hN b (h5 b hv).1 hn)⟩⟩
theorem ItsRow.snoc {w : World} {xs : List Value} {l : List It} {N : Nat → Prop} (h : ItsRow w xs l N) (hl : xs.length = l.length * 3) {it : It} {sv : Value} (hv : IntsAt w sv it.set) (hb : ∀ b, sv.ownBlock = some b → b < w.heap.size ∧ ¬ N b) : ItsRow w (xs ++ iCells it sv) (l ++ [it]) N := by
  intro i x hi
  rcases Nat.lt_or_ge i l.length with hlt | hge
  · rw [List.getElem?_append_left hlt] at hi
    obtain ⟨s, h1, h2, h3, h4, h5⟩ := h i x hi
    exact ⟨s, by rw [List.getElem?_append_left (by omega)]; exact h1, by rw [List.getElem?_append_left (by omega)]; exact h2, by rw [List.getElem?_append_left (by omega)]; exact h3, h4, h5⟩
  · rw [List.getElem?_append_right hge] at hi
    have h0 : i - l.length = 0 := by
      have := (List.getElem?_eq_some_iff.1 hi).1
      simp at this; omega
    rw [h0] at hi
    obtain rfl : it = x := by simpa using hi
    obtain rfl : i = l.length := by omega
    refine ⟨sv, ?_, ?_, ?_, hv, hb⟩
    · rw [List.getElem?_append_right (by omega), hl, Nat.sub_self]; rfl
    · rw [List.getElem?_append_right (by omega), hl, show l.length * 3 + 1 - l.length * 3 = 1 by omega]; rfl
    · rw [List.getElem?_append_right (by omega), hl, show l.length * 3 + 2 - l.length * 3 = 2 by omega]; rfl
theorem Grow.alloc {w0 w : World} {v vc : Value} {xs : List Value} {l : List It} {cs : List Int} (h : Grow w0 w v vc xs l cs) (o : Obj) : Grow w0 (w.alloc o) v vc xs l cs :=
  ⟨h.row.alloc o, h.codes.alloc o, h.sets.still (by simp) (fun b hb _ => Below.heap_alloc _ _ _ hb) (fun _ _ hn => hn), h.below.alloc h.below.size o⟩
/-- An item more. -/
theorem Grow.item {w0 w w' : World} {v vc v' : Value} {xs : List Value} {l : List It} {cs : List Int} {it : It} {sv : Value} (h : Grow w0 w v vc xs l cs) (hown : w'.ownsRow w0.heap.size 236 3 v' (l.length + 1) (xs ++ iCells it sv)) (hgrow : w.grownBy w' v.ownBlock)
    (hwh : v'.ownBlock = v.ownBlock ∨ ∀ g, v'.ownBlock = some g → w.heap.size ≤ g) (hv : IntsAt w sv it.set) (hb : ∀ b, sv.ownBlock = some b → b < w.heap.size ∧ v.ownBlock ≠ some b ∧ vc.ownBlock ≠ some b) : Grow w0 w' v' vc (xs ++ iCells it sv) (l ++ [it]) cs := by
  have hlo : ∀ z, v.ownBlock = some z → w0.heap.size ≤ z := fun z hz => (h.row.lt z hz).1
  refine ⟨by rw [List.length_append]; exact hown, h.codes.kept hgrow ?_, ?_, h.below.grown hgrow h.below.size hlo⟩
  · rcases apart h.codes h.row (by decide) with e | e
    · exact .inl e
    · exact .inr e
  · have h1 : ItsRow w (xs ++ iCells it sv) (l ++ [it]) (fun b => v.ownBlock = some b ∨ vc.ownBlock = some b) := h.sets.snoc h.row.1 hv fun b hvb => ⟨(hb b hvb).1, fun hn => hn.elim (hb b hvb).2.1 (hb b hvb).2.2⟩
    refine h1.still hgrow.size (fun b hlt hn => hgrow.block b hlt (fun e => hn (.inl e.symm))) (fun b hlt hn => ?_)
    rcases hn with hn | hn
    · rcases hwh with e | e
      · exact .inl (e ▸ hn)
      · have := e b hn; omega
    · exact .inr hn
theorem Grow.start (w : World) : Grow w w (.slice none 0 0) (.slice none 0 0) [] [] [] :=
  ⟨World.ownsRow_nil _ _ _ _, World.ownsRow_nil _ _ _ _, fun i it h => by simp at h, Below.refl _ _⟩
/-- Rows of our own read as items, as codes. -/
theorem Grow.reads {w0 w : World} {v vc : Value} {xs : List Value} {l : List It} {cs : List Int} (h : Grow w0 w v vc xs l cs) : ItemsAt w v l ∧ IntsAt w vc cs := by
  have hadd : ∀ (g j : Nat), (⟨g, 0, none⟩ : Addr).add j = ⟨g, j, none⟩ := fun g j => by unfold Addr.add; split <;> simp_all
  constructor
  · have hc := @World.ownsRow.cells _ _ _ _ _ _ _ h.row
    rcases h.row.2 with ⟨rfl, h0⟩ | ⟨g, cap, cur, rfl, hb, hg, hnc, hcm, _⟩
    · exact .inl ⟨List.eq_nil_of_length_eq_zero h0, _, _, rfl⟩
    · refine .inr ⟨g, 0, cap, rfl, (Array.getElem?_eq_some_iff.1 hg).1, hnc, hcm, fun i it hi => ?_⟩
      obtain ⟨sv, h1, h2, h3, h4, _⟩ := h.sets i it hi
      rw [Nat.zero_add]
      exact ⟨by rw [← hadd]; exact hc (g := g) rfl _ _ h1, by rw [← hadd]; exact hc (g := g) rfl _ _ h2, sv, by rw [← hadd]; exact hc (g := g) rfl _ _ h3, h4⟩
  · have hc := @World.ownsRow.cells _ _ _ _ _ _ _ h.codes
    rcases h.codes.2 with ⟨rfl, h0⟩ | ⟨g, cap, cur, rfl, hb, hg, hnc, hcm, _⟩
    · exact .inl ⟨List.eq_nil_of_length_eq_zero h0, _, _, rfl⟩
    · refine .inr ⟨g, 0, cap, rfl, (Array.getElem?_eq_some_iff.1 hg).1, hnc, hcm, fun i c hi => ?_⟩
      rw [Nat.zero_add, ← hadd]
      exact hc (g := g) rfl i _ (by rw [List.getElem?_map, hi]; rfl)
/-- A row of our own reads as codes. -/
theorem ints_own {w : World} {B : Nat} {vc : Value} {cs : List Int} (h : w.ownsRow B 3 1 vc cs.length (cs.map (Value.int .i64))) : IntsAt w vc cs := by
  have hadd : ∀ (g j : Nat), (⟨g, 0, none⟩ : Addr).add j = ⟨g, j, none⟩ := fun g j => by unfold Addr.add; split <;> simp_all
  have hc := @World.ownsRow.cells _ _ _ _ _ _ _ h
  rcases h.2 with ⟨rfl, h0⟩ | ⟨g, cap, cur, rfl, hb, hg, hnc, hcm, _⟩
  · exact .inl ⟨List.eq_nil_of_length_eq_zero h0, _, _, rfl⟩
  · refine .inr ⟨g, 0, cap, rfl, (Array.getElem?_eq_some_iff.1 hg).1, hnc, hcm, fun i c hi => ?_⟩
    rw [Nat.zero_add, ← hadd]
    exact hc (g := g) rfl i _ (by rw [List.getElem?_map, hi]; rfl)
theorem Tryz.infosN236 : (Tryz.prog.info? 236).map (fun i => (i.zero, i.size, i.bytes)) = some (some (.agg #[.bool false, .bool false, .slice none 0 0]), 3, 32) := by kernel_rfl
theorem news_row (w : World) (cs : Array Value) (t : TypeId) : ∀ j u, cs.toList[j]? = some u → (w.alloc (.cells cs t)).cell? ((⟨w.heap.size, 0, none⟩ : Addr).add j) = some u := by
  intro j u hu
  have hadd : (⟨w.heap.size, 0, none⟩ : Addr).add j = ⟨w.heap.size, j, none⟩ := by unfold Addr.add; split <;> simp_all
  rw [hadd, cell_of_row _ w.heap.size j cs t (0, 0) (World.alloc_heap_new w _)]
  simpa using hu
theorem news_row2 (w : World) (o : Obj) (cs : Array Value) (t : TypeId) : ∀ j u, cs.toList[j]? = some u → ((w.alloc o).alloc (.cells cs t)).cell? ((⟨w.heap.size + 1, 0, none⟩ : Addr).add j) = some u := by
  have := news_row (w.alloc o) cs t
  rwa [World.size_alloc] at this
theorem add9 (g j : Nat) : (⟨g, 0, none⟩ : Addr).add j = ⟨g, j, none⟩ := by unfold Addr.add; split <;> simp_all
theorem own_open9 {w : World} {B e size n : Nat} {v : Value} {xs : List Value} (h : w.ownsRow B e size v n xs) (hn : 0 < n) :
    ∃ g cap, v = .slice (some ⟨g, 0, none⟩) n cap ∧ g < w.heap.size ∧ n ≤ cap ∧ cap ≤ maxLen ∧ ∀ j u, xs[j]? = some u → w.cell? ⟨g, j, none⟩ = some u := by
  have hc := @World.ownsRow.cells _ _ _ _ _ _ _ h
  rcases h.2 with ⟨_, rfl⟩ | ⟨g, cap, cur, rfl, hb, hg, hnc, hcm, _⟩
  · omega
  · refine ⟨g, cap, rfl, (Array.getElem?_eq_some_iff.1 hg).1, hnc, hcm, fun j u hu => ?_⟩
    have hadd : (⟨g, 0, none⟩ : Addr).add j = ⟨g, j, none⟩ := by unfold Addr.add; split <;> simp_all
    rw [← hadd]
    exact hc (g := g) rfl j u hu
theorem own_keep9 {w w' : World} {B : Nat} {e : TypeId} {size n : Nat} {v : Value} {xs : List Value} (h : w.ownsRow B e size v n xs) (hb : Below w.heap.size w w') : w'.ownsRow B e size v n xs := by
  refine ⟨h.1, ?_⟩
  rcases h.2 with h | ⟨g, cap, cur, h1, h2, h3, h4⟩
  · exact .inl h
  · exact .inr ⟨g, cap, cur, h1, h2, (hb.block g (Array.getElem?_eq_some_iff.1 h3).1).trans h3, h4⟩
theorem Grow.keep {w0 w w' : World} {v vc : Value} {xs : List Value} {l : List It} {cs : List Int} (h : Grow w0 w v vc xs l cs) (hb : Below w.heap.size w w') : Grow w0 w' v vc xs l cs :=
  ⟨own_keep9 h.row hb, own_keep9 h.codes hb, h.sets.still hb.size (fun b hlt _ => hb.block b hlt) (fun _ _ hn => hn), h.below.trans (hb.mono h.below.size)⟩
theorem iCells_one (it : It) (a : Option Addr) (n cp : Nat) : ∀ u ∈ iCells it (.slice a n cp), u.oneCell' = true := by
  intro u hu
  unfold iCells at hu
  simp only [List.mem_cons, List.not_mem_nil, or_false] at hu
  rcases hu with rfl | rfl | rfl <;> rfl
end Go.Proofs.YtfehpcbmdancoaaGreatDoor
namespace Go.Proofs.YtfehpcbmdancoaaGreatDoor
open Go Go.RowKit Go.Lib

/-- Two cells that read as an entry. -/
def EnCells (w : World) (b o : Nat) (e : En) : Prop :=
  w.cell? ⟨b, o, none⟩ = some (.string e.word) ∧ ∃ A cap, w.cell? ⟨b, o + 1, none⟩ = some (.slice A e.flags.length cap) ∧ IntsAt w (.slice A e.flags.length cap) e.flags
/-- A slice that reads as these entries. -/
def EntsAt (w : World) (v : Value) (es : List En) : Prop :=
  (es = [] ∧ ∃ a cap, v = .slice a 0 cap) ∨ ∃ b off cap, v = .slice (some ⟨b, off, none⟩) es.length cap ∧ b < w.heap.size ∧ es.length ≤ cap ∧ cap ≤ maxLen ∧ ∀ (i : Nat) e, es[i]? = some e → EnCells w b (off + i * 2) e
theorem EnCells.keep {w w' : World} {b o : Nat} {e : En} (h : EnCells w b o e) (hb : Below w.heap.size w w') (hlt : b < w.heap.size) : EnCells w' b o e := by
  obtain ⟨h0, A, cap, h1, h2⟩ := h
  exact ⟨(cell_old (p := ⟨b, o, none⟩) hb hlt).trans h0, A, cap, (cell_old (p := ⟨b, o + 1, none⟩) hb hlt).trans h1, h2.keep hb⟩
theorem EntsAt.keep {w w' : World} {v : Value} {es : List En} (h : EntsAt w v es) (hb : Below w.heap.size w w') : EntsAt w' v es := by
  rcases h with h | ⟨b, off, cap, rfl, h1, h2, h3, h4⟩
  · exact .inl h
  · exact .inr ⟨b, off, cap, rfl, Nat.lt_of_lt_of_le h1 hb.size, h2, h3, fun i r hr => (h4 i r hr).keep hb h1⟩
theorem EntsAt.bd {w : World} {A : Option Addr} {n cap : Nat} {es : List En} (h : EntsAt w (.slice A n cap) es) : es.length ≤ maxLen ∧ n = es.length := by
  rcases h with ⟨rfl, a, c, e⟩ | ⟨b, off, c, e, _, h2, h3, _⟩
  · injection e with _ e2 _; exact ⟨Nat.zero_le _, e2⟩
  · injection e with _ e2 _; exact ⟨Nat.le_trans h2 h3, e2⟩
theorem ents_form {w : World} {v : Value} {es : List En} (h : EntsAt w v es) : ∃ A cap, v = .slice A es.length cap := by
  rcases h with ⟨rfl, a, c, e⟩ | ⟨b, off, c, e, _⟩
  · exact ⟨a, c, e⟩
  · exact ⟨_, c, e⟩
theorem ents_open {w : World} {A : Option Addr} {n cap : Nat} {es : List En} (h : EntsAt w (.slice A n cap) es) : ∀ (k : Nat) e, es[k]? = some e → ∃ b off, A = some ⟨b, off, none⟩ ∧ b < w.heap.size ∧ n ≤ cap ∧ EnCells w b (off + k * 2) e := by
  intro k e hk
  rcases h with ⟨rfl, _⟩ | ⟨b, off, c, e', h1, h2, h3, h4⟩
  · simp at hk
  · injection e' with e1 e2 e3
    subst e1 e2 e3
    exact ⟨b, off, rfl, h1, h2, h4 k e hk⟩

variable {T : World → Prop}

end Go.Proofs.YtfehpcbmdancoaaGreatDoor
namespace Go.Proofs.YtfehpcbmdancoaaGreatDoor
open Go Go.RowKit Go.Lib Go.Maps

/-- Each cell of w stands in w'. -/
def Sub (w w' : World) : Prop := w.heap.size ≤ w'.heap.size ∧ ∀ a v, w.cell? a = some v → w'.cell? a = some v
theorem Sub.refl (w : World) : Sub w w := ⟨Nat.le_refl _, fun _ _ h => h⟩
theorem Sub.trans {a b c : World} (h : Sub a b) (k : Sub b c) : Sub a c := ⟨Nat.le_trans h.1 k.1, fun p v hp => k.2 p v (h.2 p v hp)⟩
theorem Sub.of_below {w w' : World} (h : Below w.heap.size w w') : Sub w w' := ⟨h.size, fun a _v ha => (cell_old h (World.block_lt_of_cell? w a ha)).trans ha⟩
/-- A block of cells. -/
def CellsOf (w : World) (k : Nat) : Prop := ∃ c t f, w.heap[k]? = some (.cells c t f)
theorem CellsOf.lt {w : World} {k : Nat} (h : CellsOf w k) : k < w.heap.size := by
  obtain ⟨c, t, f, h⟩ := h
  exact (Array.getElem?_eq_some_iff.1 h).1
theorem CellsOf.of_cell {w : World} {a : Addr} {v : Value} (h : w.cell? a = some v) : CellsOf w a.block := by
  unfold World.cell? at h
  split at h
  · rename_i c t f hb; exact ⟨_, _, _, hb⟩
  all_goals cases h
theorem Sub.of_keeps {R : Nat → Prop} {w w' : World} (h : KeepsAt R w w') (hR : ∀ k, CellsOf w k → R k) : Sub w w' := by
  refine ⟨h.size, fun a v ha => ?_⟩
  have hc := CellsOf.of_cell ha
  unfold World.cell? at ha ⊢
  rw [h.block a.block hc.lt (hR _ hc)]
  exact ha
theorem IntsAt.sub {w w' : World} {v : Value} {cs : List Int} (h : IntsAt w v cs) (hs : Sub w w') : IntsAt w' v cs := by
  rcases h with h | ⟨b, off, cap, rfl, h1, h2, h3, h4⟩
  · exact .inl h
  · exact .inr ⟨b, off, cap, rfl, Nat.lt_of_lt_of_le h1 hs.1, h2, h3, fun i c hc => hs.2 _ _ (h4 i c hc)⟩
theorem ItemsAt.sub {w w' : World} {v : Value} {l : List It} (h : ItemsAt w v l) (hs : Sub w w') : ItemsAt w' v l := by
  rcases h with h | ⟨b, off, cap, rfl, h1, h2, h3, h4⟩
  · exact .inl h
  · refine .inr ⟨b, off, cap, rfl, Nat.lt_of_lt_of_le h1 hs.1, h2, h3, fun i it hi => ?_⟩
    obtain ⟨k1, k2, sv, k3, k4⟩ := h4 i it hi
    exact ⟨hs.2 _ _ k1, hs.2 _ _ k2, sv, hs.2 _ _ k3, k4.sub hs⟩
theorem RuAt.sub {w w' : World} {v : Value} {r : Ru} (h : RuAt w v r) (hs : Sub w w') : RuAt w' v r := by
  obtain ⟨A, cap, rfl, h1⟩ := h
  exact ⟨A, cap, rfl, h1.sub hs⟩
theorem RuCells.sub {w w' : World} {b o : Nat} {r : Ru} (h : RuCells w b o r) (hs : Sub w w') : RuCells w' b o r := by
  obtain ⟨h0, h1, h2, h3, h4, A, cap, h5, h6⟩ := h
  exact ⟨hs.2 _ _ h0, hs.2 _ _ h1, hs.2 _ _ h2, hs.2 _ _ h3, hs.2 _ _ h4, A, cap, hs.2 _ _ h5, h6.sub hs⟩
theorem RulesAt.sub {w w' : World} {v : Value} {rs : List Ru} (h : RulesAt w v rs) (hs : Sub w w') : RulesAt w' v rs := by
  rcases h with h | ⟨b, off, cap, rfl, h1, h2, h3, h4⟩
  · exact .inl h
  · exact .inr ⟨b, off, cap, rfl, Nat.lt_of_lt_of_le h1 hs.1, h2, h3, fun i r hr => (h4 i r hr).sub hs⟩

/-- An entry by value. -/
def EnAt (w : World) (v : Value) (e : En) : Prop := ∃ A cap, v = .agg #[.string e.word, .slice A e.flags.length cap] ∧ IntsAt w (.slice A e.flags.length cap) e.flags
theorem EnAt.keep {w w' : World} {v : Value} {e : En} (h : EnAt w v e) (hb : Below w.heap.size w w') : EnAt w' v e := by
  obtain ⟨A, cap, rfl, h1⟩ := h
  exact ⟨A, cap, rfl, h1.keep hb⟩
/-- A slice that reads as these texts. -/
def StrsAt (w : World) (v : Value) (l : List ByteArray) : Prop :=
  (l = [] ∧ ∃ a cap, v = .slice a 0 cap) ∨ ∃ b off cap, v = .slice (some ⟨b, off, none⟩) l.length cap ∧ b < w.heap.size ∧ l.length ≤ cap ∧ cap ≤ maxLen ∧ ∀ (i : Nat) s, l[i]? = some s → w.cell? ⟨b, off + i, none⟩ = some (.string s)
theorem StrsAt.keep {w w' : World} {v : Value} {l : List ByteArray} (h : StrsAt w v l) (hb : Below w.heap.size w w') : StrsAt w' v l := by
  rcases h with h | ⟨b, off, cap, rfl, h1, h2, h3, h4⟩
  · exact .inl h
  · exact .inr ⟨b, off, cap, rfl, Nat.lt_of_lt_of_le h1 hb.size, h2, h3, fun i c hc => (cell_old (p := ⟨b, off + i, none⟩) hb h1).trans (h4 i c hc)⟩
theorem strs_form {w : World} {v : Value} {l : List ByteArray} (h : StrsAt w v l) : ∃ A cap, v = .slice A l.length cap := by
  rcases h with ⟨rfl, a, c, e⟩ | ⟨b, off, c, e, _⟩
  · exact ⟨a, c, e⟩
  · exact ⟨_, c, e⟩
theorem strs_open {w : World} {A : Option Addr} {n cap : Nat} {l : List ByteArray} (h : StrsAt w (.slice A n cap) l) : ∀ (k : Nat) s, l[k]? = some s → ∃ b off, A = some ⟨b, off, none⟩ ∧ b < w.heap.size ∧ n ≤ cap ∧ w.cell? ⟨b, off + k, none⟩ = some (.string s) := by
  intro k e hk
  rcases h with ⟨rfl, _⟩ | ⟨b, off, c, e', h1, h2, h3, h4⟩
  · simp at hk
  · injection e' with e1 e2 e3
    subst e1 e2 e3
    exact ⟨b, off, rfl, h1, h2, h4 k e hk⟩
theorem strs_own {w : World} {B n : Nat} {v : Value} {l : List ByteArray} (h : w.ownsRow B 9 1 v n (l.map Value.string)) (hn : n = l.length) : StrsAt w v l := by
  subst hn
  have hc := @World.ownsRow.cells _ _ _ _ _ _ _ h
  rcases h.2 with ⟨rfl, h0⟩ | ⟨g, cap, cur, rfl, hb, hg, hnc, hcm, _⟩
  · exact .inl ⟨List.eq_nil_of_length_eq_zero h0, _, _, rfl⟩
  · refine .inr ⟨g, 0, cap, rfl, (Array.getElem?_eq_some_iff.1 hg).1, hnc, hcm, fun i c hi => ?_⟩
    rw [Nat.zero_add, ← add9]
    exact hc (g := g) rfl i _ (by rw [List.getElem?_map, hi]; rfl)

def heldR (v : Value) : Option (DataW Value × List MemPlace) := some (.held v, [])
theorem heldR_inv {v : Value} {y : DataW Value × List MemPlace} (h : heldR v = some y) : y = (.held v, []) := (Option.some.inj h).symm
theorem omap_below {H : Type} {P : Program} {k : TypeId} {R : Value → Option (DataW H × List MemPlace)} {w w' : World} {b n : Nat} {D : DataW H} (h : w.ownsMap P k R b n D) (hb : Below w.heap.size w w') : w'.ownsMap P k R b n D := by
  have hlt := h.lt
  obtain ⟨es, clock, h1, h2⟩ := h
  exact ⟨es, clock, (hb.block b hlt).trans h1, h2⟩
theorem omap_same {H : Type} {P : Program} {k : TypeId} {R : Value → Option (DataW H × List MemPlace)} {w w' : World} {b n : Nat} {D : DataW H} (h : w.ownsMap P k R b n D) (hb : w'.heap[b]? = w.heap[b]?) : w'.ownsMap P k R b n D := by
  obtain ⟨es, clock, h1, h2⟩ := h
  exact ⟨es, clock, hb.trans h1, h2⟩
theorem omap_fit {H : Type} {P : Program} {k : TypeId} {R : Value → Option (DataW H × List MemPlace)} {w : World} {b n : Nat} {D : DataW H} (h : w.ownsMap P k R b n D) : w.ownsMap P k R b (Maps.size D) D := by
  obtain ⟨es, clock, h1, h2, h3, rfl⟩ := h
  refine ⟨es, clock, h1, h2, ?_, rfl⟩
  simp [Maps.size, length_sorted]

theorem keyed_int : Keyed Tryz.prog 3 := int_keyed Tryz.underlying3
theorem keyed_str : Keyed Tryz.prog 9 := string_keyed Tryz.underlying9
def In64 (f : Int) : Prop := -9223372036854775808 ≤ f ∧ f ≤ 9223372036854775807
theorem wf_in {f : Int} (h : In64 f) : (Lit.int .i64 f).wf = true := WalkArith.wf_i64 h
theorem key_int {f : Int} (h : In64 f) : keyOf Tryz.prog 3 (.int .i64 f) = some (.int .i64 f) := keyOf_int_mk Tryz.underlying3 (wf_in h)
theorem key_str {s : ByteArray} (h : s.size ≤ maxLen) : keyOf Tryz.prog 9 (.string s) = some (.string s.data.toList) := Go.WideMaps.keyOf_string_mk Tryz.underlying9 h

/-- Six cells that read as a rule, its condition where Wb has it. -/
def RuOn (Wb w : World) (b o : Nat) (r : Ru) : Prop :=
  w.cell? ⟨b, o, none⟩ = some (.bool r.pre) ∧ w.cell? ⟨b, o + 1, none⟩ = some (.int .i64 r.flag) ∧ w.cell? ⟨b, o + 2, none⟩ = some (.bool r.cross) ∧ w.cell? ⟨b, o + 3, none⟩ = some (.string r.strip) ∧ w.cell? ⟨b, o + 4, none⟩ = some (.string r.add) ∧
    ∃ A cap, w.cell? ⟨b, o + 5, none⟩ = some (.slice A r.cond.length cap) ∧ ItemsAt Wb (.slice A r.cond.length cap) r.cond
/-- A slice that reads as these rules. -/
def RulesOn (Wb w : World) (v : Value) (rs : List Ru) : Prop :=
  (rs = [] ∧ ∃ a cap, v = .slice a 0 cap) ∨ ∃ b off cap, v = .slice (some ⟨b, off, none⟩) rs.length cap ∧ b < w.heap.size ∧ rs.length ≤ cap ∧ cap ≤ maxLen ∧ ∀ (i : Nat) r, rs[i]? = some r → RuOn Wb w b (off + i * 6) r
theorem RulesOn.sub {Wb w w' : World} {v : Value} {rs : List Ru} (h : RulesOn Wb w v rs) (hs : Sub w w') : RulesOn Wb w' v rs := by
  rcases h with h | ⟨b, off, cap, rfl, h1, h2, h3, h4⟩
  · exact .inl h
  · refine .inr ⟨b, off, cap, rfl, Nat.lt_of_lt_of_le h1 hs.1, h2, h3, fun i r hr => ?_⟩
    obtain ⟨k0, k1, k2, k3, k4, A, c, k5, k6⟩ := h4 i r hr
    exact ⟨hs.2 _ _ k0, hs.2 _ _ k1, hs.2 _ _ k2, hs.2 _ _ k3, hs.2 _ _ k4, A, c, hs.2 _ _ k5, k6⟩
/-- Block b is a table of these rules by their flags. -/
def TabAt (Wb w : World) (b : Nat) (rs : List Ru) : Prop :=
  ∃ (n : Nat) (D : DataW Value) (U : Int → Value), w.ownsMap Tryz.prog 3 heldR b n D ∧ (∀ f, D.atKey (.int .i64 f) (.held (.slice none 0 0)) = .held (U f)) ∧ ∀ f, RulesOn Wb w (U f) (rs.filter fun r => decide (r.flag = f))
theorem TabAt.on {Wb w w' : World} {b : Nat} {rs : List Ru} (h : TabAt Wb w b rs) (hs : Sub w w') (hb : w'.heap[b]? = w.heap[b]?) : TabAt Wb w' b rs := by
  obtain ⟨n, D, U, h1, h2, h3⟩ := h
  exact ⟨n, D, U, omap_same h1 hb, h2, fun f => (h3 f).sub hs⟩
theorem TabAt.lt {Wb w : World} {b : Nat} {rs : List Ru} (h : TabAt Wb w b rs) : b < w.heap.size := by
  obtain ⟨n, D, U, h1, _⟩ := h
  exact h1.lt
theorem TabAt.keep {Wb w w' : World} {b : Nat} {rs : List Ru} (h : TabAt Wb w b rs) (hb : Below w.heap.size w w') : TabAt Wb w' b rs := h.on (.of_below hb) (hb.block b h.lt)
end Go.Proofs.YtfehpcbmdancoaaGreatDoor
namespace Go.Proofs.YtfehpcbmdancoaaGreatDoor
open Go Go.RowKit Go.Lib

/-- A row's entries, their flags in blocks outside N. -/
def EnsRow (w : World) (xs : List Value) (es : List En) (N : Nat → Prop) : Prop :=
  ∀ (i : Nat) e, es[i]? = some e → xs[i * 2]? = some (.string e.word) ∧ ∃ A cap, xs[i * 2 + 1]? = some (.slice A e.flags.length cap) ∧ IntsAt w (.slice A e.flags.length cap) e.flags ∧ ∀ b, (Value.slice A e.flags.length cap).ownBlock = some b → b < w.heap.size ∧ ¬ N b
theorem EnsRow.still {w w' : World} {xs : List Value} {es : List En} {N N' : Nat → Prop} (h : EnsRow w xs es N) (hs : w.heap.size ≤ w'.heap.size) (hb : ∀ b, b < w.heap.size → ¬ N b → w'.heap[b]? = w.heap[b]?) (hN : ∀ b, b < w.heap.size → N' b → N b) : EnsRow w' xs es N' := by
  intro i e hi
  obtain ⟨h1, A, cap, h3, h4, h5⟩ := h i e hi
  exact ⟨h1, A, cap, h3, h4.still hs fun b hv hlt => hb b hlt (h5 b hv).2, fun b hv => ⟨Nat.lt_of_lt_of_le (h5 b hv).1 hs, fun hn => (h5 b hv).2 (hN b (h5 b hv).1 hn)⟩⟩
theorem EnsRow.snoc {w : World} {xs : List Value} {es : List En} {N : Nat → Prop} (h : EnsRow w xs es N) (hl : xs.length = es.length * 2) {e : En} {A : Option Addr} {cap : Nat} (hv : IntsAt w (.slice A e.flags.length cap) e.flags) (hb : ∀ b, (Value.slice A e.flags.length cap).ownBlock = some b → b < w.heap.size ∧ ¬ N b) : EnsRow w (xs ++ [.string e.word, .slice A e.flags.length cap]) (es ++ [e]) N := by
  intro i x hi
  rcases Nat.lt_or_ge i es.length with hlt | hge
  · rw [List.getElem?_append_left hlt] at hi
    obtain ⟨h1, B, c, h3, h4, h5⟩ := h i x hi
    exact ⟨by rw [List.getElem?_append_left (by omega)]; exact h1, B, c, by rw [List.getElem?_append_left (by omega)]; exact h3, h4, h5⟩
  · rw [List.getElem?_append_right hge] at hi
    have h0 : i - es.length = 0 := by
      have := (List.getElem?_eq_some_iff.1 hi).1
      simp at this; omega
    rw [h0] at hi
    obtain rfl : e = x := by simpa using hi
    obtain rfl : i = es.length := by omega
    refine ⟨?_, A, cap, ?_, hv, hb⟩
    · rw [List.getElem?_append_right (by omega), hl, Nat.sub_self]; rfl
    · rw [List.getElem?_append_right (by omega), hl, show es.length * 2 + 1 - es.length * 2 = 1 by omega]; rfl
structure EQ (w0 w : World) (v : Value) (xs : List Value) (es : List En) : Prop where
  row : w.ownsRow w0.heap.size 99 2 v es.length xs
  ents : EnsRow w xs es (fun b => v.ownBlock = some b)
  below : Below w0.heap.size w0 w
theorem EQ.start (w : World) : EQ w w (.slice none 0 0) [] [] := ⟨World.ownsRow_nil _ _ _ _, fun i e h => by simp at h, Below.refl _ _⟩
theorem EQ.keep {w0 w w' : World} {v : Value} {xs : List Value} {es : List En} (h : EQ w0 w v xs es) (hb : Below w.heap.size w w') : EQ w0 w' v xs es :=
  ⟨own_keep9 h.row hb, h.ents.still hb.size (fun b hlt _ => hb.block b hlt) (fun _ _ hn => hn), h.below.trans (hb.mono h.below.size)⟩
/-- An entry more. -/
theorem EQ.more {w0 w w' : World} {v v' : Value} {xs : List Value} {es : List En} {e : En} {A : Option Addr} {cap : Nat} (h : EQ w0 w v xs es)
    (hown : w'.ownsRow w0.heap.size 99 2 v' (es.length + 1) (xs ++ [.string e.word, .slice A e.flags.length cap])) (hgrow : w.grownBy w' v.ownBlock)
    (hwh : v'.ownBlock = v.ownBlock ∨ ∀ g, v'.ownBlock = some g → w.heap.size ≤ g) (hv : IntsAt w (.slice A e.flags.length cap) e.flags) (hb : ∀ b, (Value.slice A e.flags.length cap).ownBlock = some b → b < w.heap.size ∧ v.ownBlock ≠ some b) : EQ w0 w' v' (xs ++ [.string e.word, .slice A e.flags.length cap]) (es ++ [e]) := by
  have hlo : ∀ z, v.ownBlock = some z → w0.heap.size ≤ z := fun z hz => (h.row.lt z hz).1
  refine ⟨by rw [List.length_append]; exact hown, ?_, h.below.grown hgrow h.below.size hlo⟩
  have h1 : EnsRow w (xs ++ [.string e.word, .slice A e.flags.length cap]) (es ++ [e]) (fun b => v.ownBlock = some b) := h.ents.snoc h.row.1 hv fun b hvb => hb b hvb
  refine h1.still hgrow.size (fun b hlt hn => hgrow.block b hlt (fun e => hn e.symm)) (fun b hlt hn => ?_)
  rcases hwh with e | e
  · exact e ▸ hn
  · have := e b hn; omega
/-- A row of our own reads as entries. -/
theorem EQ.reads {w0 w : World} {v : Value} {xs : List Value} {es : List En} (h : EQ w0 w v xs es) : EntsAt w v es := by
  have hc := @World.ownsRow.cells _ _ _ _ _ _ _ h.row
  rcases h.row.2 with ⟨rfl, h0⟩ | ⟨g, cap, cur, rfl, hb, hg, hnc, hcm, _⟩
  · exact .inl ⟨List.eq_nil_of_length_eq_zero h0, _, _, rfl⟩
  · refine .inr ⟨g, 0, cap, rfl, (Array.getElem?_eq_some_iff.1 hg).1, hnc, hcm, fun i e hi => ?_⟩
    obtain ⟨h1, A, c, h3, h4, _⟩ := h.ents i e hi
    rw [Nat.zero_add]
    exact ⟨by rw [← add9]; exact hc (g := g) rfl _ _ h1, A, c, by rw [← add9]; exact hc (g := g) rfl _ _ h3, h4⟩
theorem en_one (W : ByteArray) (A : Option Addr) (n cp : Nat) : ∀ u ∈ [Value.string W, .slice A n cp], u.oneCell' = true := by
  intro u hu
  simp only [List.mem_cons, List.not_mem_nil, or_false] at hu
  rcases hu with rfl | rfl <;> rfl
theorem int_oneY (a : Int) : ∀ u ∈ [Value.int .i64 a], u.oneCell' = true := by
  intro u hu
  simp only [List.mem_cons, List.not_mem_nil, or_false] at hu
  subst hu; rfl
theorem Tryz.infosY99 : (Tryz.prog.info? 99).map (fun i => (i.zero, i.size, i.bytes)) = some (some (.agg #[.string ⟨#[]⟩, .slice none 0 0]), 2, 40) := by kernel_rfl
theorem Tryz.infosY3 : (Tryz.prog.info? 3).map (fun i => (i.zero, i.size, i.bytes)) = some (some (.int .i64 0), 1, 8) := by kernel_rfl
/-- What entry answers of a line: flags in a row of its own from B on. -/
def EntAns (B : Nat) (l : List UInt8) (e : Ending) (w' : World) : Prop :=
  ∃ W A n c b, e = .returned (.tuple #[.agg #[.string W, .slice A n c], .bool b]) ∧ b = (entryL l).isSome ∧ ∀ en, entryL l = some en → W = en.word ∧ n = en.flags.length ∧ w'.ownsRow B 3 1 (.slice A n c) n (en.flags.map (Value.int .i64))
theorem own_less {w : World} {B B' e s n : Nat} {v : Value} {xs : List Value} (h : w.ownsRow B e s v n xs) (hb : B' ≤ B) : w.ownsRow B' e s v n xs :=
  ⟨h.1, h.2.imp id fun ⟨g, cap, cur, h1, h2, h3⟩ => ⟨g, cap, cur, h1, Nat.le_trans hb h2, h3⟩⟩
theorem own_blk {w w' : World} {B e s n : Nat} {v : Value} {xs : List Value} (h : w.ownsRow B e s v n xs) (hb : ∀ g, v.ownBlock = some g → w'.heap[g]? = w.heap[g]?) : w'.ownsRow B e s v n xs := by
  refine ⟨h.1, ?_⟩
  rcases h.2 with h | ⟨g, cap, cur, h1, h2, h3, h4⟩
  · exact .inl h
  · subst h1
    exact .inr ⟨g, cap, cur, rfl, h2, (hb g rfl).trans h3, h4⟩
theorem set_other (w : World) (HA o : Nat) (v : Value) {k : Nat} (hk : k ≠ HA) : (w.setCell ⟨HA, o, none⟩ v).heap[k]? = w.heap[k]? := Below.heap_setCell _ _ _ _ hk
theorem set_size (w : World) (a : Addr) (v : Value) : (w.setCell a v).heap.size = w.heap.size := by simp [World.setCell]
theorem put2_below {B : Nat} {w w' : World} {H : Nat} (h : Below B w w') (hB : B ≤ H) (a b : Value) : Below B w ((w'.setCell ⟨H, 0, none⟩ a).setCell ⟨H, 1, none⟩ b) :=
  (h.setCell (p := ⟨H, 0, none⟩) hB _).setCell (p := ⟨H, 1, none⟩) hB _
/-- A row of numbers behind the box. -/
theorem own_put2 {w : World} {B H e s n : Nat} {v a b : Value} {xs : List Value} (h : w.ownsRow B e s v n xs) (hB : H < B) : ((w.setCell ⟨H, 0, none⟩ a).setCell ⟨H, 1, none⟩ b).ownsRow B e s v n xs :=
  own_blk h fun g hg => by
    have := (h.lt g hg).1
    exact (set_other _ _ _ _ (by omega)).trans (set_other _ _ _ _ (by omega))
/-- An entry more, its flags in a row of their own. -/
theorem EQ.push {w1 wr w2 w5 w6 : World} {v v' : Value} {xs : List Value} {es : List En} {e : En} {W : ByteArray} {A : Option Addr} {n c : Nat} (h : EQ w1 wr v xs es) (hb : Below wr.heap.size wr w2) (hW : W = e.word) (hn : n = e.flags.length)
    (hr : w2.ownsRow wr.heap.size 3 1 (.slice A n c) n (e.flags.map (Value.int .i64))) (hb5 : Below w2.heap.size w2 w5)
    (hown : w6.ownsRow w1.heap.size 99 2 v' (es.length + 1) (xs ++ [.string W, .slice A n c])) (hgrow : w5.grownBy w6 v.ownBlock)
    (hwh : v'.ownBlock = v.ownBlock ∨ ∀ g, v'.ownBlock = some g → w5.heap.size ≤ g) : EQ w1 w6 v' (xs ++ [.string W, .slice A n c]) (es ++ [e]) := by
  subst hW hn
  refine ((h.keep hb).keep hb5).more hown hgrow hwh (ints_own (own_keep9 hr hb5)) fun b hbb => ?_
  have h1 := hr.lt b hbb
  refine ⟨Nat.lt_of_lt_of_le h1.2 hb5.size, fun e => ?_⟩
  have := (h.row.lt b e).2
  omega
theorem EntAns.no {B : Nat} {l : List UInt8} {w' : World} {W : ByteArray} {A : Option Addr} {n c : Nat} (h : entryL l = none) : EntAns B l (.returned (.tuple #[.agg #[.string W, .slice A n c], .bool false])) w' :=
  ⟨W, A, n, c, false, rfl, by rw [h]; rfl, fun en he => by rw [h] at he; cases he⟩
theorem EntAns.yes {B : Nat} {l : List UInt8} {w' : World} {en : En} {A : Option Addr} {c : Nat} (h : entryL l = some en) (hr : w'.ownsRow B 3 1 (.slice A en.flags.length c) en.flags.length (en.flags.map (Value.int .i64))) : EntAns B l (.returned (.tuple #[.agg #[.string en.word, .slice A en.flags.length c], .bool true])) w' :=
  ⟨en.word, A, _, c, true, rfl, by rw [h]; rfl, fun e he => by rw [h] at he; obtain rfl := Option.some.inj he; exact ⟨rfl, rfl, hr⟩⟩
theorem own_shape {w : World} {B e s n : Nat} {v : Value} {xs : List Value} (h : w.ownsRow B e s v n xs) : ∃ A cap, v = .slice A n cap := by
  rcases h.2 with ⟨rfl, rfl⟩ | ⟨g, cap, cur, rfl, _⟩
  · exact ⟨_, _, rfl⟩
  · exact ⟨_, _, rfl⟩
/-- A box of two cells. -/
theorem ebox2 {w w' : World} {a b : Value} {t : TypeId} (hb : Below (w.alloc (.cells #[a, b] t)).heap.size (w.alloc (.cells #[a, b] t)) w') :
    w'.cell? ⟨w.heap.size, 0, none⟩ = some a ∧ w'.cell? ⟨w.heap.size, 1, none⟩ = some b ∧ ∀ o, w'.frozen? ⟨w.heap.size, o, none⟩ = false := by
  have h : w'.heap[w.heap.size]? = some (.cells #[a, b] t (0, 0)) := (hb.block w.heap.size (by rw [World.size_alloc]; omega)).trans (World.alloc_heap_new w _)
  refine ⟨?_, ?_, fun o => ?_⟩ <;> simp [World.cell?, World.frozen?, h]
end Go.Proofs.YtfehpcbmdancoaaGreatDoor
namespace Go.Proofs.YtfehpcbmdancoaaGreatDoor
open Go Go.RowKit Go.Lib Go.Maps

theorem Tryz.infosZ123 : (Tryz.prog.info? 123).map (fun i => (i.zero, i.size, i.bytes)) = some (some (.agg #[.bool false, .int .i64 0, .bool false, .string ⟨#[]⟩, .string ⟨#[]⟩, .slice none 0 0]), 6, 80) := by kernel_rfl
theorem zero_rules (w : World) : (zeroValue 55).run Tryz.prog w = .ok (.slice none 0 0) w := by kernel_rfl

def zCells (r : Ru) (A : Option Addr) (cap : Nat) : List Value := [.bool r.pre, .int .i64 r.flag, .bool r.cross, .string r.strip, .string r.add, .slice A r.cond.length cap]
/-- A row of rules, their conditions where Wb has them. -/
def ZRow (Wb : World) (xs : List Value) (rs : List Ru) : Prop :=
  ∀ (i : Nat) r, rs[i]? = some r → ∃ A cap, xs[i * 6]? = some (.bool r.pre) ∧ xs[i * 6 + 1]? = some (.int .i64 r.flag) ∧ xs[i * 6 + 2]? = some (.bool r.cross) ∧ xs[i * 6 + 3]? = some (.string r.strip) ∧ xs[i * 6 + 4]? = some (.string r.add) ∧ xs[i * 6 + 5]? = some (.slice A r.cond.length cap) ∧ ItemsAt Wb (.slice A r.cond.length cap) r.cond
theorem ZRow.nil (Wb : World) : ZRow Wb [] [] := fun i r h => by simp at h
theorem ZRow.snoc {Wb : World} {xs : List Value} {rs : List Ru} (h : ZRow Wb xs rs) (hl : xs.length = rs.length * 6) {r : Ru} {A : Option Addr} {cap : Nat} (hr : ItemsAt Wb (.slice A r.cond.length cap) r.cond) : ZRow Wb (xs ++ zCells r A cap) (rs ++ [r]) := by
  intro i x hi
  rcases Nat.lt_or_ge i rs.length with hlt | hge
  · rw [List.getElem?_append_left hlt] at hi
    obtain ⟨B, c, h0, h1, h2, h3, h4, h5, h6⟩ := h i x hi
    refine ⟨B, c, ?_, ?_, ?_, ?_, ?_, ?_, h6⟩ <;> rw [List.getElem?_append_left (by omega)] <;> assumption
  · rw [List.getElem?_append_right hge] at hi
    have h0 : i - rs.length = 0 := by
      have := (List.getElem?_eq_some_iff.1 hi).1
      simp at this; omega
    rw [h0] at hi
    obtain rfl : r = x := by simpa using hi
    obtain rfl : i = rs.length := by omega
    refine ⟨A, cap, ?_, ?_, ?_, ?_, ?_, ?_, hr⟩
    · rw [List.getElem?_append_right (by omega), hl, Nat.sub_self]; rfl
    · rw [List.getElem?_append_right (by omega), hl, show rs.length * 6 + 1 - rs.length * 6 = 1 by omega]; rfl
    · rw [List.getElem?_append_right (by omega), hl, show rs.length * 6 + 2 - rs.length * 6 = 2 by omega]; rfl
    · rw [List.getElem?_append_right (by omega), hl, show rs.length * 6 + 3 - rs.length * 6 = 3 by omega]; rfl
    · rw [List.getElem?_append_right (by omega), hl, show rs.length * 6 + 4 - rs.length * 6 = 4 by omega]; rfl
    · rw [List.getElem?_append_right (by omega), hl, show rs.length * 6 + 5 - rs.length * 6 = 5 by omega]; rfl
theorem ZRow.reads {Wb w : World} {B : Nat} {v : Value} {xs : List Value} {rs : List Ru} (h : ZRow Wb xs rs) (ho : w.ownsRow B 123 6 v rs.length xs) : RulesOn Wb w v rs := by
  have hc := @World.ownsRow.cells _ _ _ _ _ _ _ ho
  rcases ho.2 with ⟨rfl, h0⟩ | ⟨g, cap, cur, rfl, hb, hg, hnc, hcm, _⟩
  · exact .inl ⟨List.eq_nil_of_length_eq_zero h0, _, _, rfl⟩
  · refine .inr ⟨g, 0, cap, rfl, (Array.getElem?_eq_some_iff.1 hg).1, hnc, hcm, fun i r hi => ?_⟩
    obtain ⟨A, c, h0, h1, h2, h3, h4, h5, h6⟩ := h i r hi
    rw [Nat.zero_add]
    exact ⟨by rw [← add9]; exact hc (g := g) rfl _ _ h0, by rw [← add9]; exact hc (g := g) rfl _ _ h1, by rw [← add9]; exact hc (g := g) rfl _ _ h2, by rw [← add9]; exact hc (g := g) rfl _ _ h3, by rw [← add9]; exact hc (g := g) rfl _ _ h4, A, c, by rw [← add9]; exact hc (g := g) rfl _ _ h5, h6⟩
def ofFlag (rs : List Ru) (f : Int) : List Ru := rs.filter fun r => decide (r.flag = f)
theorem ofFlag_snoc (rs : List Ru) (r : Ru) (f : Int) : ofFlag (rs ++ [r]) f = if r.flag = f then ofFlag rs f ++ [r] else ofFlag rs f := by
  unfold ofFlag
  rw [List.filter_append]
  by_cases h : r.flag = f <;> simp [h]
theorem ofFlag_len (rs : List Ru) (f : Int) : (ofFlag rs f).length ≤ rs.length := List.length_filter_le _ _

/-- The table while it grows. -/
structure TQ (Wb w0 wr : World) (b : Nat) (D : DataW Value) (U : Int → Value) (X : Int → List Value) (rs : List Ru) : Prop where
  map : wr.ownsMap Tryz.prog 3 heldR b rs.length D
  at_ : ∀ f, D.atKey (.int .i64 f) (.held (.slice none 0 0)) = .held (U f)
  row : ∀ f, wr.ownsRow (b + 1) 123 6 (U f) (ofFlag rs f).length (X f)
  cells : ∀ f, ZRow Wb (X f) (ofFlag rs f)
  apart : ∀ f g, f ≠ g → (U f).ownBlock = none ∨ (U f).ownBlock ≠ (U g).ownBlock
  below : Below w0.heap.size w0 wr
  low : w0.heap.size ≤ b
theorem TQ.start (Wb w : World) : TQ Wb w (w.alloc (.map #[] 0)) w.heap.size (.map []) (fun _ => .slice none 0 0) (fun _ => []) [] :=
  ⟨World.ownsMap_made _ _ _ _, fun _ => rfl, fun _ => World.ownsRow_nil _ _ _ _, fun _ => ZRow.nil _, fun _ _ _ => .inl rfl, (Below.refl _ _).alloc (Nat.le_refl _) _, Nat.le_refl _⟩
theorem TQ.done {Wb w0 wr : World} {b : Nat} {D : DataW Value} {U : Int → Value} {X : Int → List Value} {rs : List Ru} (h : TQ Wb w0 wr b D U X rs) : TabAt Wb wr b rs :=
  ⟨_, D, U, h.map, h.at_, fun f => (h.cells f).reads (h.row f)⟩
theorem TQ.more {Wb w0 wr W1 w4 w5 : World} {b : Nat} {D : DataW Value} {U : Int → Value} {X : Int → List Value} {rs : List Ru} (h : TQ Wb w0 wr b D U X rs) {r : Ru} {A : Option Addr} {cap : Nat} {v' : Value} (hb1 : Below wr.heap.size wr W1)
    (hr : ItemsAt Wb (.slice A r.cond.length cap) r.cond) (hown : w4.ownsRow (b + 1) 123 6 v' ((ofFlag rs r.flag).length + 1) (X r.flag ++ zCells r A cap)) (hg4 : W1.grownBy w4 (U r.flag).ownBlock)
    (hat : v'.ownBlock = (U r.flag).ownBlock ∨ ∀ g, v'.ownBlock = some g → wr.heap.size ≤ g) (hm : w5.ownsMap Tryz.prog 3 heldR b (rs.length + 1) (D.put (.int .i64 r.flag) (.held v'))) (hg5 : w4.grownBy w5 (some b)) :
    TQ Wb w0 w5 b (D.put (.int .i64 r.flag) (.held v')) (fun f => if f = r.flag then v' else U f) (fun f => if f = r.flag then X r.flag ++ zCells r A cap else X f) (rs ++ [r]) := by
  have hne : (U r.flag).ownBlock ≠ some b := fun e => by have := ((h.row r.flag).lt b e).1; omega
  have hlo : ∀ z, (U r.flag).ownBlock = some z → w0.heap.size ≤ z := fun z hz => by have := ((h.row r.flag).lt z hz).1; have := h.low; omega
  refine ⟨by rw [List.length_append]; exact hm, fun f => ?_, fun f => ?_, fun f => ?_, fun f g hfg => ?_, ?_, h.low⟩
  · by_cases hf : f = r.flag
    · subst hf
      rw [if_pos rfl, atKey_put_same h.map.isMap (by unfold WideAt.IsKeyLit; trivial)]
    · rw [if_neg hf, atKey_put_other (fun e => hf (by injection e)), h.at_]
  · rw [ofFlag_snoc]
    by_cases hf : f = r.flag
    · subst hf
      rw [if_pos rfl, if_pos rfl, if_pos rfl, List.length_append]
      refine hown.kept hg5 (.inr fun e => ?_)
      rcases hat with h1 | h1
      · exact hne (h1 ▸ e)
      · have := h1 b e; have := h.map.lt; omega
    · rw [if_neg hf, if_neg hf, if_neg (fun e => hf e.symm)]
      refine ((own_keep9 (h.row f) hb1).kept hg4 (h.apart f r.flag hf)).kept hg5 ?_
      rcases Decidable.em ((U f).ownBlock = some b) with e | e
      · have := ((h.row f).lt b e).1; omega
      · exact .inr e
  · rw [ofFlag_snoc]
    by_cases hf : f = r.flag
    · subst hf
      rw [if_pos rfl, if_pos rfl]
      exact (h.cells r.flag).snoc (h.row r.flag).1 hr
    · rw [if_neg hf, if_neg (fun e => hf e.symm)]
      exact h.cells f
  · by_cases hf : f = r.flag
    · subst hf
      rw [if_pos rfl, if_neg (fun e => hfg e.symm)]
      rcases hat with h1 | h1
      · rw [h1]; exact h.apart r.flag g hfg
      · rcases hu : v'.ownBlock with _ | z
        · exact .inl rfl
        · refine .inr fun e => ?_
          have := ((h.row g).lt z e.symm).2
          have := h1 z hu
          omega
    · rw [if_neg hf]
      by_cases hg : g = r.flag
      · subst hg
        rw [if_pos rfl]
        rcases hat with h1 | h1
        · rw [h1]; exact h.apart f r.flag hf
        · rcases hu : (U f).ownBlock with _ | z
          · exact .inl rfl
          · refine .inr fun e => ?_
            have := ((h.row f).lt z hu).2
            have := h1 z e.symm
            omega
      · rw [if_neg hg]; exact h.apart f g hfg
  · have h1 := h.below.trans (hb1.mono h.below.size)
    have h2 := h1.grown hg4 h1.size hlo
    exact h2.grown hg5 h2.size (fun z hz => by cases hz; exact h.low)

theorem zrule_one (a : Bool) (b : Int) (c : Bool) (d e : ByteArray) (A : Option Addr) (n cp : Nat) : ∀ u ∈ [Value.bool a, .int .i64 b, .bool c, .string d, .string e, .slice A n cp], u.oneCell' = true := by
  intro u hu
  simp only [List.mem_cons, List.not_mem_nil, or_false] at hu
  rcases hu with rfl | rfl | rfl | rfl | rfl | rfl <;> rfl

theorem rules_form {w : World} {v : Value} {rs : List Ru} (h : RulesAt w v rs) : ∃ A cap, v = .slice A rs.length cap := by
  rcases h with ⟨rfl, a, c, e⟩ | ⟨b, off, c, e, _⟩
  · exact ⟨a, c, e⟩
  · exact ⟨_, c, e⟩
theorem rules_open {w : World} {A : Option Addr} {n cap : Nat} {rs : List Ru} (h : RulesAt w (.slice A n cap) rs) : ∀ (k : Nat) r, rs[k]? = some r → ∃ b off, A = some ⟨b, off, none⟩ ∧ b < w.heap.size ∧ n ≤ cap ∧ RuCells w b (off + k * 6) r := by
  intro k e hk
  rcases h with ⟨rfl, _⟩ | ⟨b, off, c, e', h1, h2, h3, h4⟩
  · simp at hk
  · injection e' with e1 e2 e3
    subst e1 e2 e3
    exact ⟨b, off, rfl, h1, h2, h4 k e hk⟩

theorem look_tab {W : World} {b n : Nat} {D : DataW Value} {f : Int} {u : Value} (hm : W.ownsMap Tryz.prog 3 heldR b n D) (hat : D.atKey (.int .i64 f) (.held (.slice none 0 0)) = .held u) (hf : In64 f) :
    (Instr.lookup 103 (.map (some b)) (.int .i64 f) false).run Tryz.prog W = .ok u W := by
  obtain ⟨v, ps, hr, hv⟩ := hm.lookup keyed_int Tryz.underlying103 (zero_rules W) (zd := .held (.slice none 0 0)) (zp := []) rfl (key_int hf)
  rw [hat] at hv
  have := heldR_inv hv
  simp only [Prod.mk.injEq, DataW.held.injEq] at this
  rw [hr, this.1]
theorem put_tab {W : World} {b n : Nat} {D : DataW Value} {f : Int} (u : Value) (hm : W.ownsMap Tryz.prog 3 heldR b n D) (hn : n < maxLen) (hf : In64 f) :
    ∃ w', (Instr.mapUpdate 103 (.map (some b)) (.int .i64 f) u).run Tryz.prog W = .ok () w' ∧ w'.ownsMap Tryz.prog 3 heldR b (n + 1) (D.put (.int .i64 f) (.held u)) ∧ W.grownBy w' (some b) :=
  hm.update keyed_int Tryz.underlying103 hn (key_int hf) (ps := []) rfl

theorem ruon_open {Wb w : World} {A : Option Addr} {n cap : Nat} {rs : List Ru} (h : RulesOn Wb w (.slice A n cap) rs) : ∀ (k : Nat) r, rs[k]? = some r → ∃ b off, A = some ⟨b, off, none⟩ ∧ b < w.heap.size ∧ n ≤ cap ∧ RuOn Wb w b (off + k * 6) r := by
  intro k e hk
  rcases h with ⟨rfl, _⟩ | ⟨b, off, c, e', h1, h2, h3, h4⟩
  · simp at hk
  · injection e' with e1 e2 e3
    subst e1 e2 e3
    exact ⟨b, off, rfl, h1, h2, h4 k e hk⟩
theorem ruon_form {Wb w : World} {v : Value} {rs : List Ru} (h : RulesOn Wb w v rs) : ∃ A cap, v = .slice A rs.length cap := by
  rcases h with ⟨rfl, a, c, e⟩ | ⟨b, off, c, e, _⟩
  · exact ⟨a, c, e⟩
  · exact ⟨_, c, e⟩
/-- Rules that read in Wb read in what has grown out of it. -/
theorem rules_on {Wb w : World} {v : Value} {rs : List Ru} (h : RulesAt Wb v rs) (hs : Sub Wb w) : RulesOn Wb w v rs := by
  rcases h with h | ⟨b, off, cap, rfl, h1, h2, h3, h4⟩
  · exact .inl h
  · refine .inr ⟨b, off, cap, rfl, Nat.lt_of_lt_of_le h1 hs.1, h2, h3, fun i r hr => ?_⟩
    obtain ⟨k0, k1, k2, k3, k4, A, c, k5, k6⟩ := h4 i r hr
    exact ⟨hs.2 _ _ k0, hs.2 _ _ k1, hs.2 _ _ k2, hs.2 _ _ k3, hs.2 _ _ k4, A, c, hs.2 _ _ k5, k6⟩
/-- A table's conditions read wherever what they lay in has grown to. -/
theorem TabAt.base {Wb Wc w : World} {b : Nat} {rs : List Ru} (h : TabAt Wb w b rs) (hs : Sub Wb Wc) : TabAt Wc w b rs := by
  obtain ⟨n, D, U, h1, h2, h3⟩ := h
  refine ⟨n, D, U, h1, h2, fun f => ?_⟩
  rcases h3 f with h | ⟨b, off, cap, e, k1, k2, k3, k4⟩
  · exact .inl h
  · refine .inr ⟨b, off, cap, e, k1, k2, k3, fun i r hr => ?_⟩
    obtain ⟨z0, z1, z2, z3, z4, A, c, z5, z6⟩ := k4 i r hr
    exact ⟨z0, z1, z2, z3, z4, A, c, z5, z6.sub hs⟩

set_option maxRecDepth 100000 in
set_option maxHeartbeats 4000000 in
theorem byflag_on (Wb w : World) (v : Value) (rs : List Ru) (h : RulesOn Wb w v rs) (hn : rs.length ≤ 100000) (hf : ∀ r ∈ rs, In64 r.flag) :
    Calls Tryz.prog 55 #[v] w fun e w' => e = .returned (.map (some w.heap.size)) ∧ TabAt Wb w' w.heap.size rs ∧ Below w.heap.size w w' := by
  obtain ⟨A, cap, rfl⟩ := ruon_form h
  obtain ⟨n, hnn⟩ : ∃ n, n = rs.length := ⟨_, rfl⟩
  rw [← hnn] at h ⊢
  have HO := Lib.hid (ruon_open h)
  have HF := Lib.hid hf
  have HN := Lib.hid hnn
  have hn' : n ≤ 100000 := by omega
  obtain ⟨i1, hi1, hz10, hz11, hz12⟩ := info_parts Tryz.infosZ123
  have hmm := @run_makeMap Tryz.prog
  have HQ0 := Lib.hid (TQ.start Wb w)
  clear h hf hnn hn
  go_enter Tryz.func55, Tryz.ntmps55
  go_wp2
  go_loopg [9] n (fun gh i wr => ∃ (k : Nat), k + gh = n ∧ i = .int .i64 k ∧ Hid (∃ D U X, TQ Wb w wr w.heap.size D U X (rs.take k)))
  case atStart => exact ⟨0, by omega, rfl, Lib.hid ⟨_, _, _, HQ0.out⟩⟩
  case round =>
    obtain ⟨k, hk, rfl, HQ⟩ := hrel
    by_cases hlt : k < n
    · obtain ⟨r, hr⟩ : ∃ r, rs[k]? = some r := ⟨rs[k]'(by have := HN.out; omega), List.getElem?_eq_getElem _⟩
      obtain ⟨D, U, X, hq⟩ := HQ.out
      obtain ⟨b, off, rfl, hb, hnc, hcells⟩ := HO.out k r hr
      have HR := Lib.hid hr
      have HQ1 := Lib.hid hq
      have hbw : b < wr.heap.size := Nat.lt_of_lt_of_le hb hq.below.size
      have hin : In64 r.flag := HF.out r (List.mem_of_getElem? hr)
      obtain ⟨c0, c1, c2, c3, c4, B, bc, c5, hits⟩ := hcells
      have e0 := (hq.below.cell (p := ⟨b, off + k * 6, none⟩) hb).trans c0
      have e1 := (hq.below.cell (p := ⟨b, off + k * 6 + 1, none⟩) hb).trans c1
      have e2 := (hq.below.cell (p := ⟨b, off + k * 6 + 2, none⟩) hb).trans c2
      have e3 := (hq.below.cell (p := ⟨b, off + k * 6 + 3, none⟩) hb).trans c3
      have e4 := (hq.below.cell (p := ⟨b, off + k * 6 + 4, none⟩) hb).trans c4
      have e5 := (hq.below.cell (p := ⟨b, off + k * 6 + 5, none⟩) hb).trans c5
      have HIT := Lib.hid hits
      have HIN := Lib.hid hin
      clear c0 c1 c2 c3 c4 c5 hits hr hq HQ hin
      go_upto_region 5 with fail
      obtain ⟨Wd, hWd⟩ : ∃ Wd, Wd = wr.alloc (.cells #[.bool r.pre, .int .i64 r.flag, .bool r.cross, .string r.strip, .string r.add, .slice B r.cond.length bc] 123) := ⟨_, rfl⟩
      obtain ⟨x0, x1, x2, x3, x4, x5⟩ := box6 (Below.refl (wr.alloc (.cells #[.bool r.pre, .int .i64 r.flag, .bool r.cross, .string r.strip, .string r.add, .slice B r.cond.length bc] 123)).heap.size _)
      rw [← hWd] at x0 x1 x2 x3 x4 x5
      have hbd : Below wr.heap.size wr Wd := by rw [hWd]; exact (Below.refl _ _).alloc (Nat.le_refl _) _
      have hsd : Wd.heap.size = wr.heap.size + 1 := by rw [hWd, World.size_alloc]
      rw [← hWd]
      clear hWd e0 e1 e2 e3 e4 e5
      obtain ⟨UA, uc, hU⟩ := own_shape (HQ1.out.row r.flag)
      obtain ⟨m, hm⟩ : ∃ m, m = (ofFlag (rs.take k) r.flag).length := ⟨_, rfl⟩
      have hml : m ≤ k := by have := ofFlag_len (rs.take k) r.flag; rw [List.length_take] at this; omega
      rw [← hm] at hU
      have hrow : Wd.ownsRow (w.heap.size + 1) 123 6 (.slice UA m uc) m (X r.flag) := by rw [← hU, hm]; exact own_keep9 (HQ1.out.row r.flag) hbd
      have hat : D.atKey (.int .i64 r.flag) (.held (.slice none 0 0)) = .held (.slice UA m uc) := by rw [← hU]; exact HQ1.out.at_ r.flag
      have hmp : Wd.ownsMap Tryz.prog 3 heldR w.heap.size k D := by
        have := omap_below HQ1.out.map hbd
        rwa [List.length_take, Nat.min_eq_left (by have := HN.out; omega)] at this
      have l1 := look_tab (W := Wd.drew) hmp hat HIN.out
      have l2 := look_tab (W := (Wd.alloc (.cells #[.bool r.pre, .int .i64 r.flag, .bool r.cross, .string r.strip, .string r.add, .slice B r.cond.length bc] 123)).drew) (hmp.alloc _) hat HIN.out
      obtain ⟨Bx, hBx⟩ : ∃ Bx, Bx = wr.heap.size := ⟨_, rfl⟩
      rw [← hBx] at x0 x1 x2 x3 x4 x5 hsd ⊢
      have HW := Lib.hid (And.intro hrow (And.intro hmp hsd))
      have HB := Lib.hid (And.intro hbd (And.intro hm (And.intro hU hBx)))
      have hwb : w.heap.size < Bx := by rw [hBx]; exact HQ1.out.map.lt
      have HWB := Lib.hid hwb
      have h1c := zrule_one r.pre r.flag r.cross r.strip r.add B r.cond.length bc
      have hup : ∀ (w4 : World) (g c : Nat), ((Wd.alloc (.cells #[.bool r.pre, .int .i64 r.flag, .bool r.cross, .string r.strip, .string r.add, .slice B r.cond.length bc] 123)).drew).grownBy w4 (Value.slice UA m uc).ownBlock →
          w4.cell? ⟨Bx, 1, none⟩ = some (.int .i64 r.flag) ∧ ∃ w5, (Instr.mapUpdate 103 (.map (some w.heap.size)) (.int .i64 r.flag) (.slice (some ⟨g, 0, none⟩) (m + 1) c)).run Tryz.prog w4 = .ok () w5 ∧
          w5.ownsMap Tryz.prog 3 heldR w.heap.size (k + 1) (D.put (.int .i64 r.flag) (.held (.slice (some ⟨g, 0, none⟩) (m + 1) c))) ∧ w4.grownBy w5 (some w.heap.size) := by
        intro w4 g c hg
        have hne : ∀ z, (Value.slice UA m uc).ownBlock = some z → w.heap.size < z ∧ z ≠ Bx := fun z hz => by
          have h1 := (hrow.lt z hz).1
          rw [← hU] at hz
          have h2 := ((HQ1.out.row r.flag).lt z hz).2
          omega
        refine ⟨?_, put_tab _ ((hmp.alloc _).drew.kept hg (fun e => ?_)) (by unfold maxLen; omega) HIN.out⟩
        · have hxb := World.block_lt_of_cell? _ _ x1
          refine (World.grownBy.cell_far hg ⟨Bx, 1, none⟩ (by show Bx < (Wd.alloc _).heap.size; rw [World.size_alloc]; omega) (fun e => (hne _ e.symm).2 rfl)).trans ?_
          exact (((Below.refl Wd.heap.size Wd).alloc (Nat.le_refl _) _).cell (p := ⟨Bx, 1, none⟩) hxb).trans x1
        · have := (hne _ e.symm).1; omega
      have HUP := Lib.hid hup
      have y1 : (Wd.alloc (.cells #[.bool r.pre, .int .i64 r.flag, .bool r.cross, .string r.strip, .string r.add, .slice B r.cond.length bc] 123)).cell? ⟨Bx, 1, none⟩ = some (.int .i64 r.flag) := (((Below.refl Wd.heap.size Wd).alloc (Nat.le_refl _) _).cell (p := ⟨Bx, 1, none⟩) (World.block_lt_of_cell? _ _ x1)).trans x1
      clear hup hrow hmp hbd hat hwb hm hU hBx hsd
      go_region_law ((refine step_append_lies _ (by rfl) _ _ _ (by rfl) (w.heap.size + 1) 123 i1 _ 6 80 Tryz.underlying55 hi1 hz10 hz11 hz12 rfl (by omega) (.slice UA m uc) m (X r.flag) (by rfl) ((HW.out.1.alloc _).drew) ⟨Wd.heap.size, 0, none⟩ 1 1 [.bool r.pre, .int .i64 r.flag, .bool r.cross, .string r.strip, .string r.add, .slice B r.cond.length bc] (by rfl) (by rfl) (World.news_of_block (cs := #[.bool r.pre, .int .i64 r.flag, .bool r.cross, .string r.strip, .string r.add, .slice B r.cond.length bc]) (t := 123) (fr := (0, 0)) (World.alloc_heap_new Wd _)) h1c (by omega) (by unfold maxLen; omega) (by omega) (by have := HW.out.2.2; have := HWB.out; simp; omega) (Wd.heap.size + 1) (by simp) ?_; intro gg cap4 w4 hown4 hgrow4 hat4 hlt4; obtain ⟨m4, w5, hrun5, hown5, hgr5⟩ := HUP.out w4 gg cap4 hgrow4; have H5 := Lib.hid (And.intro hown5 hgr5); clear hown5 hgr5))
      all_goals
        have hbK : Below wr.heap.size wr ((Wd.alloc (.cells #[.bool r.pre, .int .i64 r.flag, .bool r.cross, .string r.strip, .string r.add, .slice B r.cond.length bc] 123)).drew) := (HB.out.1.alloc HB.out.1.size _).drew
        have ht : (rs.take k).length = k := by rw [List.length_take]; have := HN.out; omega
        have HN2 : Hid (∃ D' U' X', TQ Wb w w5 w.heap.size D' U' X' (rs.take (k + 1))) := by
          clear l1 l2 x0 x1 x2 x3 x4 x5 y1 m4 hrun5
          have hT : rs.take (k + 1) = rs.take k ++ [r] := by rw [List.take_add_one, HR.out]; rfl
          rw [hT]
          have hm0 := HB.out.2.1
          have hU0 := HB.out.2.2.1
          refine Lib.hid ⟨_, _, _, HQ1.out.more hbK HIT.out (v' := .slice (some ⟨gg, 0, none⟩) (m + 1) cap4) ?_ ?_ ?_ ?_ H5.out.2⟩
          · rw [← hm0]; exact hown4
          · rw [hU0]; exact hgrow4
          · rw [hU0]
            rcases hat4 with e | e
            · exact .inl e.symm
            · refine .inr fun g hg => ?_
              simp only [Value.ownBlock, Option.some.injEq] at hg
              have := HW.out.2.2
              have := HB.out.2.2.2
              omega
          · rw [ht]; exact H5.out.1
        clear l1 l2 x0 x1 x2 x3 x4 x5 y1 m4 hrun5 hown4 hgrow4 hat4 hlt4 hbK ht H5
        go_wp2_with fail
        go_roundg (gk - 1)
        case measure => omega
        case rel => exact ⟨k + 1, by omega, by go_num, HN2⟩
    · obtain rfl : k = n := by omega
      obtain ⟨D, U, X, hq⟩ := HQ.out
      rw [List.take_of_length_le (by have := HN.out; omega)] at hq
      have HX := Lib.hid hq
      clear hq HQ
      go_wp2_with fail
      go_ret
      exact ⟨rfl, HX.out.done, HX.out.below⟩
end Go.Proofs.YtfehpcbmdancoaaGreatDoor
namespace Go.Proofs.YtfehpcbmdancoaaGreatDoor
open Go Go.RowKit

theorem ints_bd {w : World} {v : Value} {cs : List Int} (h : IntsAt w v cs) : cs.length ≤ 9223372036854775807 := by
  rcases h with ⟨rfl, _⟩ | ⟨b, off, cap, rfl, h1, h2, h3, h4⟩
  · exact Nat.zero_le _
  · unfold maxLen at h3; omega

set_option maxHeartbeats 1000000 in
theorem index_any (w : World) (v : Value) (cs : List Int) (x : Int) (h : IntsAt w v cs) :
    Calls Tryz.prog 204 #[v, .int .i64 x] w fun e w' => ∃ r : Int, e = .returned (.int .i64 r) ∧ w' = w ∧ ((r = -1 ∧ ∀ c ∈ cs, c ≠ x) ∨ ∃ k : Nat, r = k ∧ cs[k]? = some x ∧ ∀ j, j < k → cs[j]? ≠ some x) := by
  have hbig := ints_bd h
  obtain ⟨A, cap, rfl, hA⟩ := ints_open h
  clear h
  have HA := Lib.hid hA
  clear hA
  obtain ⟨n, hn⟩ : ∃ n, n = cs.length := ⟨_, rfl⟩
  rw [← hn] at hbig ⊢
  have HN := Lib.hid hn
  clear hn
  go_enter Tryz.func204, Tryz.ntmps204
  go_wp2
  go_loopg [5, 8] n (fun g _s5 s8 wr => ∃ k : Nat, k + g = n ∧ s8 = .int .i64 k ∧ wr = w ∧ Hid (∀ j, j < k → cs[j]? ≠ some x))
  case atStart => exact ⟨0, by omega, rfl, rfl, Lib.hid fun j hj => absurd hj (Nat.not_lt_zero _)⟩
  case round =>
    obtain ⟨k, hk, rfl, rfl, HP⟩ := hrel
    rcases Nat.eq_zero_or_pos gk with h0 | h0
    · have hkn : k = n := by omega
      subst hkn
      go_wp2
      go_ret
      refine ⟨_, rfl, rfl, .inl ⟨rfl, fun c hc e => ?_⟩⟩
      obtain ⟨j, hj, hjc⟩ := List.getElem_of_mem hc
      exact HP.out j (by have := HN.out; omega) (by rw [List.getElem?_eq_getElem hj, hjc, e])
    · have hkn : (k : Int) < n := by omega
      obtain ⟨c, hc⟩ : ∃ c, cs[k]? = some c := ⟨_, List.getElem?_eq_getElem (by have := HN.out; omega)⟩
      obtain ⟨q, o, rfl, hq, hqc, cq⟩ := HA.out k c hc
      have HC := Lib.hid hc
      clear hc hqc
      have tk1 : (0 : Int) ≤ k := by omega
      by_cases hx : x = c
      · subst hx
        have d : (x == x) = true := by simp
        go_wp2_with fail
        go_ret
        exact ⟨_, rfl, rfl, .inr ⟨k, rfl, HC.out, HP.out⟩⟩
      · have d : (x == c) = false := by simpa using hx
        have HX := Lib.hid hx
        clear hx
        go_wp2_with fail
        go_roundg (gk - 1)
        case measure => omega
        case rel =>
          refine ⟨k + 1, by omega, by go_num, rfl, Lib.hid fun j hj => ?_⟩
          rcases Nat.lt_or_ge j k with hjk | hjk
          · exact HP.out j hjk
          · obtain rfl : j = k := by omega
            rw [HC.out]
            intro e
            exact HX.out (Option.some.inj e).symm

theorem contains_any (w : World) (v : Value) (cs : List Int) (x : Int) (h : IntsAt w v cs) :
    Calls Tryz.prog 153 #[v, .int .i64 x] w fun e w' => e = .returned (.bool (cs.contains x)) ∧ w' = w := by
  have C := Lib.hid (index_any w v cs x h)
  obtain ⟨A, cap, rfl, hA⟩ := ints_open h
  clear h hA
  go_enter Tryz.func153, Tryz.ntmps153
  go_wp2_with (go_at_call 204; refine C.out.mono ?_; rintro e w1 ⟨r, rfl, rfl, hi⟩; rcases hi with ⟨rfl, hno⟩ | ⟨k, rfl, hk, -⟩)
  · have hb : cs.contains x = false := by
      rw [Bool.eq_false_iff]
      intro hc
      exact hno x (List.contains_iff_mem.1 hc) rfl
    rw [hb]
    go_ret
    exact ⟨rfl, rfl⟩
  · have hb : cs.contains x = true := List.contains_iff_mem.2 (List.mem_of_getElem? hk)
    rw [hb]
    go_ret
    exact ⟨rfl, rfl⟩

theorem ret_bool {a b : Bool} (h : a = b) : Ending.returned (.bool a) = .returned (.bool b) := by rw [h]
set_option maxRecDepth 100000 in
theorem int_info : ∃ i0 : TypeInfo, Tryz.prog.info? 3 = some i0 ∧ i0.zero = some (.int .i64 0) ∧ i0.size = 1 ∧ i0.bytes = 8 := ⟨_, rfl, rfl, rfl, rfl⟩

set_option maxHeartbeats 2000000 in
theorem clone_any (w : World) (v : Value) (cs : List Int) (h : IntsAt w v cs) (h0 : 0 < cs.length) (hn : cs.length ≤ 1000000000000) :
    Calls Tryz.prog 252 #[v] w fun e w' => ∃ v', e = .returned v' ∧ w'.ownsRow w.heap.size 3 1 v' cs.length (cs.map (Value.int .i64)) ∧ Below w.heap.size w w' := by
  obtain ⟨i0, hi, hz0, hz1, hz2⟩ := int_info
  obtain ⟨rfl, _⟩ | ⟨b, off, cap, rfl, h1, h2, h3, h4⟩ := h
  · simp at h0
  have HC := Lib.hid h4
  clear h4
  obtain ⟨n, hN⟩ : ∃ n, n = cs.length := ⟨_, rfl⟩
  rw [← hN] at h0 hn h2 ⊢
  have hq : ∀ W, (binOp .eql 42 (.slice (some ⟨b, off, none⟩) n cap) (.slice none 0 0)).run Tryz.prog W = .ok (.bool false) W := fun W => Lib.run_eql_slice_nil W _ _ _ _ _ _ _ Tryz.underlying42
  have hcell : ∀ o j u, (cs.map (Value.int .i64))[j]? = some u → (w.alloc o).cell? ((⟨b, off, none⟩ : Addr).add j) = some u := by
    intro o j u hj
    rw [Addr.add_lit]
    rw [List.getElem?_map, Option.map_eq_some_iff] at hj
    obtain ⟨c, hc, rfl⟩ := hj
    exact (cell_old (p := ⟨b, off + j, none⟩) ((Below.refl _ w).alloc (Nat.le_refl _) o) h1).trans (HC.out j c hc)
  have hone : ∀ u ∈ cs.map (Value.int .i64), u.oneCell' = true := by
    intro u hu; obtain ⟨x, _, rfl⟩ := List.mem_map.1 hu; rfl
  have hlen : (cs.map (Value.int .i64)).length = n * 1 := by simp [hN]
  have HL := Lib.hid (And.intro hcell (And.intro hone hlen))
  clear hcell hone hlen hN
  go_enter Tryz.func252, Tryz.ntmps252
  go_wp2_with (at_builtin; refine wpList_append_own _ rfl _ _ 42 rfl w.heap.size 3 i0 (.int .i64 0) 1 8 Tryz.underlying42 hi hz0 hz1 hz2 rfl (by decide) _ _ _ rfl (World.ownsRow_made w #[] 0 (Nat.le_refl _) (Nat.zero_le _) rfl) ⟨b, off, none⟩ n cap (cs.map (Value.int .i64)) rfl HL.out.2.2 (HL.out.1 _) HL.out.2.1 (by unfold maxLen; omega) (by omega) (by simp) ?_)
  intro v' w1 hown hgrow _
  go_wp2
  go_ret
  refine ⟨v', rfl, by simpa using hown, ?_⟩
  exact ((Below.refl _ w).alloc (Nat.le_refl _) _).grown hgrow (by simp) (by intro k hk; simp [Value.ownBlock] at hk; omega)

end Go.Proofs.YtfehpcbmdancoaaGreatDoor
namespace Go.Proofs.YtfehpcbmdancoaaGreatDoor
open Go Go.RowKit

theorem items_bd {w : World} {v : Value} {l : List It} (h : ItemsAt w v l) : l.length ≤ 9223372036854775807 := by
  rcases h with ⟨rfl, _⟩ | ⟨b, off, cap, rfl, h1, h2, h3, h4⟩
  · exact Nat.zero_le _
  · unfold maxLen at h3; omega
theorem items_openO {w : World} {v : Value} {l : List It} (h : ItemsAt w v l) : ∃ A cap, v = .slice A l.length cap ∧ ∀ (i : Nat) it, l[i]? = some it → ∃ q o, A = some ⟨q, o, none⟩ ∧ q < w.heap.size ∧ l.length ≤ cap ∧ w.cell? ⟨q, o + i * 3, none⟩ = some (.bool it.any) ∧ w.cell? ⟨q, o + i * 3 + 1, none⟩ = some (.bool it.not) ∧ ∃ a m c, w.cell? ⟨q, o + i * 3 + 2, none⟩ = some (.slice a m c) ∧ IntsAt w (.slice a m c) it.set := by
  obtain ⟨rfl, a, cap, rfl⟩ | ⟨b, off, cap, rfl, hlt, hcap, hm, hc⟩ := h
  · exact ⟨a, cap, rfl, fun i c hi => by simp at hi⟩
  · refine ⟨_, cap, rfl, fun i it hi => ?_⟩
    obtain ⟨k1, k2, sv, k3, k4⟩ := hc i it hi
    obtain ⟨A, cp, rfl, -⟩ := ints_open k4
    exact ⟨b, off, rfl, hlt, hcap, k1, k2, _, _, _, k3, k4⟩

end Go.Proofs.YtfehpcbmdancoaaGreatDoor
namespace Go.Proofs.YtfehpcbmdancoaaGreatDoor.Af
open Go Go.RowKit Go.Lib

set_option maxRecDepth 100000 in
set_option maxHeartbeats 1000000 in
theorem wt1_any (w : World) (q : Nat) (c g s : Int) (hq : w.heap[q]? = some (.cells #[.int .i64 c] 3 (0, 0))) :
    Calls Tryz.prog 197 #[.agg #[.int .i64 g, .int .i64 s], .pointer (some ⟨q, 0, none⟩)] w fun e w' => e = .returned (.bool (g == c || s == c)) ∧ Below w.heap.size w w' := by
  have hlt : q < w.heap.size := (Array.getElem?_eq_some_iff.1 hq).1
  have HB := Lib.hid ((Below.refl w.heap.size w).alloc (Nat.le_refl _) (.cells #[.int .i64 g, .int .i64 s] 118))
  have z0 : (w.alloc (.cells #[.int .i64 g, .int .i64 s] 118)).cell? ⟨q, 0, none⟩ = some (.int .i64 c) := by
    refine (HB.out.cell (p := ⟨q, 0, none⟩) hlt).trans ?_
    simp [World.cell?, hq]
  clear hq
  by_cases h1 : c = g
  · subst h1
    have d1 : (c == c) = true := by simp
    rw [d1, Bool.true_or]
    go_enter Tryz.func197, Tryz.ntmps197
    go_wp2_with fail
    go_ret
    exact ⟨rfl, HB.out⟩
  · have d1 : (g == c) = false := by simpa using fun e => h1 e.symm
    have d2 : (c == g) = false := by simpa using h1
    have d3 : decide (c = g) = false := decide_eq_false h1
    rw [d1, Bool.false_or]
    by_cases h2 : c = s
    · subst h2
      have e1 : (c == c) = true := by simp
      rw [e1]
      clear d1 h1
      go_enter Tryz.func197, Tryz.ntmps197
      go_wp2_with fail
      go_ret
      exact ⟨rfl, HB.out⟩
    · have e1 : (s == c) = false := by simpa using fun e => h2 e.symm
      have e2 : (c == s) = false := by simpa using h2
      have e3 : decide (c = s) = false := decide_eq_false h2
      rw [e1]
      clear d1 h1 e1 h2
      go_enter Tryz.func197, Tryz.ntmps197
      go_wp2_with fail
      go_ret
      exact ⟨rfl, HB.out⟩

set_option maxRecDepth 100000 in
set_option maxHeartbeats 1000000 in
theorem wip_any (w : World) (v : Value) (ps : List (Int × Int)) (q : Nat) (c : Int) (h : PairsAt w v ps) (hq : w.heap[q]? = some (.cells #[.int .i64 c] 3 (0, 0))) :
    Calls Tryz.prog 238 #[v, .func (.func 197) #[] #[.pointer (some ⟨q, 0, none⟩)]] w fun e w' => (∃ r : Int, e = .returned (.int .i64 r) ∧ decide (0 ≤ r) = usedP ps c) ∧ Below w.heap.size w w' := by
  have hlt : q < w.heap.size := (Array.getElem?_eq_some_iff.1 hq).1
  obtain ⟨B, m, cB, rfl, hm⟩ : ∃ B m cB, v = .slice B m cB ∧ m = ps.length := by
    rcases h with ⟨rfl, a, c, rfl⟩ | ⟨b, off, c, rfl, _⟩
    · exact ⟨_, _, _, rfl, rfl⟩
    · exact ⟨_, _, _, rfl, rfl⟩
  have l2 := h.bd.1
  unfold maxLen at l2
  rw [← hm] at l2
  have HP := Lib.hid (pairs_open h)
  have HM := Lib.hid hm
  have CT := Lib.hid (fun wx (hb : Below w.heap.size w wx) g s => wt1_any wx q c g s ((hb.block q hlt).trans hq))
  clear h hm hq hlt
  go_enter Tryz.func238, Tryz.ntmps238
  go_wp2_with fail
  go_loopg [5, 8] m (fun g _s5 i wr => ∃ k : Nat, k + g = m ∧ i = .int .i64 k ∧ Hid (Below w.heap.size w wr ∧ usedP (ps.take k) c = false))
  case atStart => exact ⟨0, by omega, rfl, Lib.hid ⟨Below.refl _ _, by simp [usedP]⟩⟩
  case round =>
    obtain ⟨k, hk, rfl, HK⟩ := hrel
    have hk0 : (0 : Int) ≤ k := by omega
    rcases Nat.eq_zero_or_pos gk with h0 | h0
    · have hkm : ¬ (k : Int) < m := by omega
      have HF := Lib.hid (show usedP ps c = false by
        have h := HK.out.2
        rwa [List.take_of_length_le (by have := HM.out; omega)] at h)
      go_wp2_with fail
      go_ret
      exact ⟨⟨_, rfl, by rw [HF.out]; rfl⟩, HK.out.1⟩
    · have hkm : (k : Int) < m := by omega
      obtain ⟨p, hp⟩ : ∃ p, ps[k]? = some p := ⟨_, List.getElem?_eq_getElem (by have := HM.out; omega)⟩
      obtain ⟨b, off, rfl, hb, hc, e0, e1⟩ := HP.out k p hp
      have f0 := (HK.out.1.cell (p := ⟨b, off + k * 2, none⟩) hb).trans e0
      have f1 := (HK.out.1.cell (p := ⟨b, off + k * 2 + 1, none⟩) hb).trans e1
      have hm1 : (m : Int) ≤ cB := by omega
      have C1 := Lib.hid (CT.out wr HK.out.1 p.1 p.2)
      have HU := Lib.hid (used_take1 (c := c) hp)
      have HI := Lib.hid (used_in1 (c := c) hp)
      clear e0 e1 hb hc hp
      obtain ⟨g1, g2⟩ := p
      dsimp only at f0 f1 C1 HU HI
      cases hz : (g1 == c || g2 == c) with
      | true =>
        rw [hz] at C1 HI
        have HI2 := Lib.hid (HI.out rfl)
        clear hz HU HI
        go_wp2_with (go_at_call 197; refine C1.out.mono ?_)
        rintro e w2 ⟨rfl, hb2⟩
        have HB2 := Lib.hid (HK.out.1.trans (hb2.mono HK.out.1.size))
        clear hb2
        go_wp2_with fail
        go_ret
        exact ⟨⟨_, rfl, by rw [HI2.out]; exact decide_eq_true (by omega)⟩, HB2.out⟩
      | false =>
        rw [hz] at C1 HU
        have HU2 := Lib.hid (show usedP (ps.take (k + 1)) c = false by rw [HU.out, HK.out.2]; rfl)
        clear hz HU HI
        go_wp2_with (go_at_call 197; refine C1.out.mono ?_)
        rintro e w2 ⟨rfl, hb2⟩
        have HB2 := Lib.hid (HK.out.1.trans (hb2.mono HK.out.1.size))
        clear hb2
        go_wp2_with fail
        go_roundg (gk - 1)
        case measure => omega
        case rel => exact ⟨k + 1, by omega, by go_num, Lib.hid ⟨HB2.out, HU2.out⟩⟩

set_option maxHeartbeats 1000000 in
theorem wcp_any (w : World) (v : Value) (ps : List (Int × Int)) (q : Nat) (c : Int) (h : PairsAt w v ps) (hq : w.heap[q]? = some (.cells #[.int .i64 c] 3 (0, 0))) :
    Calls Tryz.prog 196 #[v, .func (.func 197) #[] #[.pointer (some ⟨q, 0, none⟩)]] w fun e w' => e = .returned (.bool (usedP ps c)) ∧ Below w.heap.size w w' := by
  have C := Lib.hid (wip_any w v ps q c h hq)
  obtain ⟨B, m, cB, rfl, hm⟩ : ∃ B m cB, v = .slice B m cB ∧ m = ps.length := by
    rcases h with ⟨rfl, a, c, rfl⟩ | ⟨b, off, c, rfl, _⟩
    · exact ⟨_, _, _, rfl, rfl⟩
    · exact ⟨_, _, _, rfl, rfl⟩
  clear h hq hm
  go_enter Tryz.func196, Tryz.ntmps196
  go_wp2_with (go_at_call 238; refine C.out.mono ?_; rintro e w1 ⟨⟨r, rfl, hr⟩, hb⟩; have HR := Lib.hid hr; have HB := Lib.hid hb; clear hr hb)
  go_ret
  exact ⟨ret_bool HR.out, HB.out⟩

/-- A code that is in a pair already, or a plain letter. -/
def takenP (ps : List (Int × Int)) (c : Int) : Bool := plainC c || usedP ps c

set_option maxRecDepth 100000 in
set_option maxHeartbeats 1000000 in
theorem wtaken_any (w : World) (H : Nat) (v : Value) (ps : List (Int × Int)) (c : Int) (hv : w.cell? ⟨H, 1, none⟩ = some v) (hH : H < w.heap.size) (h : PairsAt w v ps) :
    Calls Tryz.prog 145 #[.pointer (some ⟨H, 0, none⟩), .int .i64 c] w fun e w' => e = .returned (.bool (takenP ps c)) ∧ Below w.heap.size w w' := by
  have hb0 := (Below.refl w.heap.size w).alloc (Nat.le_refl _) (.cells #[.int .i64 c] 3)
  have HB := Lib.hid hb0
  have C := Lib.hid (wcp_any (w.alloc (.cells #[.int .i64 c] 3)) v ps w.heap.size c (h.keep hb0) (World.alloc_heap_new w _))
  have hv1 := (hb0.cell (p := ⟨H, 1, none⟩) hH).trans hv
  obtain ⟨B, m, cB, rfl⟩ : ∃ B m cB, v = .slice B m cB := by
    rcases h with ⟨rfl, a, c, rfl⟩ | ⟨b, off, c, rfl, _⟩
    · exact ⟨_, _, _, rfl⟩
    · exact ⟨_, _, _, rfl⟩
  clear h hb0 hv
  unfold takenP plainC
  by_cases c1 : 65 ≤ c
  · by_cases c2 : c ≤ 90
    · rw [decide_eq_true (.inl ⟨c1, c2⟩), Bool.true_or]
      clear C
      go_enter Tryz.func145, Tryz.ntmps145
      go_wp2_with fail
      go_ret
      exact ⟨rfl, HB.out⟩
    · by_cases c3 : 97 ≤ c
      · by_cases c4 : c ≤ 122
        · rw [decide_eq_true (.inr ⟨c3, c4⟩), Bool.true_or]
          clear C
          go_enter Tryz.func145, Tryz.ntmps145
          go_wp2_with fail
          go_ret
          exact ⟨rfl, HB.out⟩
        · rw [decide_eq_false (by omega), Bool.false_or]
          go_enter Tryz.func145, Tryz.ntmps145
          go_wp2_with (go_at_call 196; refine C.out.mono ?_; rintro e w1 ⟨rfl, hb⟩; have HB1 := Lib.hid (HB.out.trans (hb.mono HB.out.size)); clear hb)
          go_ret
          exact ⟨rfl, HB1.out⟩
      · rw [decide_eq_false (by omega), Bool.false_or]
        go_enter Tryz.func145, Tryz.ntmps145
        go_wp2_with (go_at_call 196; refine C.out.mono ?_; rintro e w1 ⟨rfl, hb⟩; have HB1 := Lib.hid (HB.out.trans (hb.mono HB.out.size)); clear hb)
        go_ret
        exact ⟨rfl, HB1.out⟩
  · rw [decide_eq_false (by omega), Bool.false_or]
    have c3 : ¬ 97 ≤ c := by omega
    go_enter Tryz.func145, Tryz.ntmps145
    go_wp2_with (go_at_call 196; refine C.out.mono ?_; rintro e w1 ⟨rfl, hb⟩; have HB1 := Lib.hid (HB.out.trans (hb.mono HB.out.size)); clear hb)
    go_ret
    exact ⟨rfl, HB1.out⟩

set_option maxRecDepth 100000 in
set_option maxHeartbeats 1000000 in
theorem wii_any (w : World) (H : Nat) (v u : Value) (ps : List (Int × Int)) (cs : List Int) (hv : w.cell? ⟨H, 1, none⟩ = some v) (hH : H < w.heap.size) (h : PairsAt w v ps) (hc : IntsAt w u cs) :
    Calls Tryz.prog 195 #[u, .func (.func 145) #[.pointer (some ⟨H, 0, none⟩)] #[]] w fun e w' => (∃ r : Int, e = .returned (.int .i64 r) ∧ decide (0 ≤ r) = cs.any (takenP ps)) ∧ Below w.heap.size w w' := by
  have hbig := ints_bd hc
  obtain ⟨A, cap, rfl, hA⟩ := ints_open hc
  have HA := Lib.hid hA
  have CT := Lib.hid (fun wx (hb : Below w.heap.size w wx) c => wtaken_any wx H v ps c ((hb.cell (p := ⟨H, 1, none⟩) hH).trans hv) (Nat.lt_of_lt_of_le hH hb.size) (h.keep hb))
  obtain ⟨n, hn⟩ : ∃ n, n = cs.length := ⟨_, rfl⟩
  rw [← hn] at hbig ⊢
  have HN := Lib.hid hn
  clear hn hc hA h hv hH
  go_enter Tryz.func195, Tryz.ntmps195
  go_wp2_with fail
  go_loopg [5, 8] n (fun g _s5 i wr => ∃ k : Nat, k + g = n ∧ i = .int .i64 k ∧ Hid (Below w.heap.size w wr ∧ (cs.take k).any (takenP ps) = false))
  case atStart => exact ⟨0, by omega, rfl, Lib.hid ⟨Below.refl _ _, by simp⟩⟩
  case round =>
    obtain ⟨k, hk, rfl, HK⟩ := hrel
    have hk0 : (0 : Int) ≤ k := by omega
    rcases Nat.eq_zero_or_pos gk with h0 | h0
    · have hkm : ¬ (k : Int) < n := by omega
      have HF := Lib.hid (show cs.any (takenP ps) = false by
        have h := HK.out.2
        rwa [List.take_of_length_le (by have := HN.out; omega)] at h)
      go_wp2_with fail
      go_ret
      exact ⟨⟨_, rfl, by rw [HF.out]; rfl⟩, HK.out.1⟩
    · have hkm : (k : Int) < n := by omega
      obtain ⟨c, hc⟩ : ∃ c, cs[k]? = some c := ⟨_, List.getElem?_eq_getElem (by have := HN.out; omega)⟩
      obtain ⟨q, o, rfl, hq, hqc, cq⟩ := HA.out k c hc
      have f0 := (HK.out.1.cell (p := ⟨q, o + k, none⟩) hq).trans cq
      have hm1 : (n : Int) ≤ cap := by have := HN.out; omega
      have C1 := Lib.hid (CT.out wr HK.out.1 c)
      obtain ⟨hlt, hce⟩ := List.getElem?_eq_some_iff.1 hc
      have HU := Lib.hid (show (cs.take (k + 1)).any (takenP ps) = ((cs.take k).any (takenP ps) || takenP ps c) by rw [List.take_succ_eq_append_getElem hlt, hce, List.any_append]; simp)
      have HI := Lib.hid (show takenP ps c = true → cs.any (takenP ps) = true from fun ht => List.any_eq_true.2 ⟨c, List.mem_of_getElem? hc, ht⟩)
      clear cq hqc hc hq hlt hce
      cases hz : takenP ps c with
      | true =>
        rw [hz] at C1 HI
        have HI2 := Lib.hid (HI.out rfl)
        clear hz HU HI
        go_wp2_with (go_at_call 145; refine C1.out.mono ?_)
        rintro e w2 ⟨rfl, hb2⟩
        have HB2 := Lib.hid (HK.out.1.trans (hb2.mono HK.out.1.size))
        clear hb2
        go_wp2_with fail
        go_ret
        exact ⟨⟨_, rfl, by rw [HI2.out]; exact decide_eq_true (by omega)⟩, HB2.out⟩
      | false =>
        rw [hz] at C1 HU
        have HU2 := Lib.hid (show (cs.take (k + 1)).any (takenP ps) = false by rw [HU.out, HK.out.2]; rfl)
        clear hz HU HI
        go_wp2_with (go_at_call 145; refine C1.out.mono ?_)
        rintro e w2 ⟨rfl, hb2⟩
        have HB2 := Lib.hid (HK.out.1.trans (hb2.mono HK.out.1.size))
        clear hb2
        go_wp2_with fail
        go_roundg (gk - 1)
        case measure => omega
        case rel => exact ⟨k + 1, by omega, by go_num, Lib.hid ⟨HB2.out, HU2.out⟩⟩

set_option maxHeartbeats 1000000 in
theorem wci_any (w : World) (H : Nat) (v u : Value) (ps : List (Int × Int)) (cs : List Int) (hv : w.cell? ⟨H, 1, none⟩ = some v) (hH : H < w.heap.size) (h : PairsAt w v ps) (hc : IntsAt w u cs) :
    Calls Tryz.prog 144 #[u, .func (.func 145) #[.pointer (some ⟨H, 0, none⟩)] #[]] w fun e w' => e = .returned (.bool (cs.any (takenP ps))) ∧ Below w.heap.size w w' := by
  have C := Lib.hid (wii_any w H v u ps cs hv hH h hc)
  obtain ⟨A, cap, rfl, -⟩ := ints_open hc
  clear h hc hv hH
  go_enter Tryz.func144, Tryz.ntmps144
  go_wp2_with (go_at_call 195; refine C.out.mono ?_; rintro e w1 ⟨⟨r, rfl, hr⟩, hb⟩; have HR := Lib.hid hr; have HB := Lib.hid hb; clear hr hb)
  go_ret
  exact ⟨ret_bool HR.out, HB.out⟩
end Go.Proofs.YtfehpcbmdancoaaGreatDoor.Af
namespace Go.Proofs.YtfehpcbmdancoaaGreatDoor
open Go Go.RowKit Go.Lib

theorem ext_list (s : ByteArray) (a b : Nat) : (s.extract a b).data.toList = (s.data.toList.drop a).take (b - a) := by
  rw [ByteArray.data_extract, Array.toList_extract]
theorem ba_list (s : ByteArray) : (⟨s.data.toList.toArray⟩ : ByteArray) = s := by
  cases s; simp
/-- What is cut off so far: words done, the next one begins at a. -/
def CutAt (L : List UInt8) (done : List (List UInt8)) (a i : Nat) : Prop := a ≤ i ∧ i ≤ L.length ∧ wordsL L = done ++ wordsL (L.drop a) ∧ ∀ j, a ≤ j → j < i → L[j]? ≠ some 32
theorem CutAt.start (L : List UInt8) : CutAt L [] 0 0 := ⟨Nat.le_refl _, Nat.zero_le _, by simp, fun j _ h => absurd h (Nat.not_lt_zero _)⟩
theorem part_noblank {L : List UInt8} {a i : Nat} (h : ∀ j, a ≤ j → j < i → L[j]? ≠ some 32) : (32 : UInt8) ∉ (L.drop a).take (i - a) := by
  intro hm
  obtain ⟨j, hj, he⟩ := List.getElem_of_mem hm
  rw [List.length_take, List.length_drop] at hj
  refine h (a + j) (by omega) (by omega) ?_
  rw [List.getElem_take, List.getElem_drop] at he
  rw [List.getElem?_eq_getElem (by omega), he]
theorem CutAt.on {L : List UInt8} {done : List (List UInt8)} {a i : Nat} (h : CutAt L done a i) (hi : i < L.length) (hne : L[i]? ≠ some 32) : CutAt L done a (i + 1) :=
  ⟨by have := h.1; omega, hi, h.2.2.1, fun j h1 h2 => by
    rcases Nat.lt_or_ge j i with hj | hj
    · exact h.2.2.2 j h1 hj
    · obtain rfl : j = i := by omega
      exact hne⟩
theorem CutAt.cut {L : List UInt8} {done : List (List UInt8)} {a i : Nat} (h : CutAt L done a i) (hi : i < L.length) (he : L[i]? = some 32) : CutAt L (done ++ [(L.drop a).take (i - a)]) (i + 1) (i + 1) := by
  obtain ⟨h1, h2, h3, h4⟩ := h
  refine ⟨Nat.le_refl _, hi, ?_, fun j h5 h6 => by omega⟩
  have hs : L.drop a = (L.drop a).take (i - a) ++ 32 :: L.drop (i + 1) := by
    obtain ⟨_, hc⟩ := List.getElem?_eq_some_iff.1 he
    have hd : L.drop i = 32 :: L.drop (i + 1) := by rw [List.drop_eq_getElem_cons hi, hc]
    have := (List.take_append_drop (i - a) (L.drop a)).symm
    rwa [List.drop_drop, show a + (i - a) = i by omega, hd] at this
  rw [h3]
  conv => lhs; rw [hs]
  rw [wordsL_app _ _ (part_noblank h4), List.append_assoc]
  rfl
theorem CutAt.fin {L : List UInt8} {done : List (List UInt8)} {a : Nat} (h : CutAt L done a L.length) : wordsL L = done ++ [(L.drop a).take (L.length - a)] := by
  obtain ⟨h1, h2, h3, h4⟩ := h
  have hn := part_noblank h4
  rw [List.take_of_length_le (by rw [List.length_drop]; omega)] at hn ⊢
  rw [h3, wordsL_one _ hn]

end Go.Proofs.YtfehpcbmdancoaaGreatDoor
