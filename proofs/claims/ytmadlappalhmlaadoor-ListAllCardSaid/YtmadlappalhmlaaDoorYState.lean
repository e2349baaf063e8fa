/- A row of entries that grows. -/
import Derived.Test.YtmadlappalhmlaaDoorYLaws
namespace Go.Proofs.YtmadlappalhmlaaDoor
open Go Go.RowKit Go.Lib

/-- A row's entries, their flags in blocks outside N. -/
def EnsRow (w : World) (xs : List Value) (es : List En) (N : Nat → Prop) : Prop :=
  ∀ (i : Nat) e, es[i]? = some e → xs[i * 2]? = some (.string e.word) ∧ ∃ A cap, xs[i * 2 + 1]? = some (.slice A e.flags.length cap) ∧ IntsAt w (.slice A e.flags.length cap) e.flags ∧ ∀ b, (Value.slice A e.flags.length cap).ownBlock = some b → b < w.heap.size ∧ ¬ N b
theorem EnsRow.still {w w' : World} {xs : List Value} {es : List En} {N N' : Nat → Prop} (h : EnsRow w xs es N) (hs : w.heap.size ≤ w'.heap.size) (hb : ∀ b, b < w.heap.size → ¬ N b → w'.heap[b]? = w.heap[b]?) (hN : ∀ b, b < w.heap.size → N' b → N b) : EnsRow w' xs es N' := by
  intro i e hi
  obtain ⟨h1, A, cap, h3, h4, h5⟩ := h i e hi
  exact ⟨h1, A, cap, h3, h4.still hs fun b hv hlt => hb b hlt (h5 b hv).2, fun b hv => ⟨Nat.lt_of_lt_of_le (h5 b hv).1 hs, fun hn => (h5 b hv).2 (hN b (h5 b hv).1 hn)⟩⟩
theorem EnsRow.snoc {w : World} {xs : List Value} {es : List En} {N : Nat → Prop} (h : EnsRow w xs es N) (hl : xs.length = es.length * 2) {e : En} {A : Option Addr} {cap : Nat} (hv : IntsAt w (.slice A e.flags.length cap) e.flags) (hb : ∀ b, (Value.slice A e.flags.length cap).ownBlock = some b → b < w.heap.size ∧ ¬ N b) : EnsRow w (xs ++ [.string e.word, .slice A e.flags.length cap]) (es ++ [e]) N := by
  intro i x hi
  rcases Nat.lt_or_ge i es.length with hlt | hge
  · rw [List.getElem?_append_left hlt] at hi
    obtain ⟨h1, B, c, h3, h4, h5⟩ := h i x hi
    exact ⟨by rw [List.getElem?_append_left (by omega)]; exact h1, B, c, by rw [List.getElem?_append_left (by omega)]; exact h3, h4, h5⟩
  · rw [List.getElem?_append_right hge] at hi
    have h0 : i - es.length = 0 := by
      have := (List.getElem?_eq_some_iff.1 hi).1
      simp at this; omega
    rw [h0] at hi
    obtain rfl : e = x := by simpa using hi
    obtain rfl : i = es.length := by omega
    refine ⟨?_, A, cap, ?_, hv, hb⟩
    · rw [List.getElem?_append_right (by omega), hl, Nat.sub_self]; rfl
    · rw [List.getElem?_append_right (by omega), hl, show es.length * 2 + 1 - es.length * 2 = 1 by omega]; rfl
structure EQ (w0 w : World) (v : Value) (xs : List Value) (es : List En) : Prop where
  row : w.ownsRow w0.heap.size 43 2 v es.length xs
  ents : EnsRow w xs es (fun b => v.ownBlock = some b)
  below : Below w0.heap.size w0 w
theorem EQ.start (w : World) : EQ w w (.slice none 0 0) [] [] := ⟨World.ownsRow_nil _ _ _ _, fun i e h => by simp at h, Below.refl _ _⟩
theorem EQ.keep {w0 w w' : World} {v : Value} {xs : List Value} {es : List En} (h : EQ w0 w v xs es) (hb : Below w.heap.size w w') : EQ w0 w' v xs es :=
  ⟨own_keep9 h.row hb, h.ents.still hb.size (fun b hlt _ => hb.block b hlt) (fun _ _ hn => hn), h.below.trans (hb.mono h.below.size)⟩
/-- An entry more. -/
theorem EQ.more {w0 w w' : World} {v v' : Value} {xs : List Value} {es : List En} {e : En} {A : Option Addr} {cap : Nat} (h : EQ w0 w v xs es)
    (hown : w'.ownsRow w0.heap.size 43 2 v' (es.length + 1) (xs ++ [.string e.word, .slice A e.flags.length cap])) (hgrow : w.grownBy w' v.ownBlock)
    (hwh : v'.ownBlock = v.ownBlock ∨ ∀ g, v'.ownBlock = some g → w.heap.size ≤ g) (hv : IntsAt w (.slice A e.flags.length cap) e.flags) (hb : ∀ b, (Value.slice A e.flags.length cap).ownBlock = some b → b < w.heap.size ∧ v.ownBlock ≠ some b) : EQ w0 w' v' (xs ++ [.string e.word, .slice A e.flags.length cap]) (es ++ [e]) := by
  have hlo : ∀ z, v.ownBlock = some z → w0.heap.size ≤ z := fun z hz => (h.row.lt z hz).1
  refine ⟨by rw [List.length_append]; exact hown, ?_, h.below.grown hgrow h.below.size hlo⟩
  have h1 : EnsRow w (xs ++ [.string e.word, .slice A e.flags.length cap]) (es ++ [e]) (fun b => v.ownBlock = some b) := h.ents.snoc h.row.1 hv fun b hvb => hb b hvb
  refine h1.still hgrow.size (fun b hlt hn => hgrow.block b hlt (fun e => hn e.symm)) (fun b hlt hn => ?_)
  rcases hwh with e | e
  · exact e ▸ hn
  · have := e b hn; omega
/-- A row of our own reads as entries. -/
theorem EQ.reads {w0 w : World} {v : Value} {xs : List Value} {es : List En} (h : EQ w0 w v xs es) : EntsAt w v es := by
  have hc := @World.ownsRow.cells _ _ _ _ _ _ _ h.row
  rcases h.row.2 with ⟨rfl, h0⟩ | ⟨g, cap, cur, rfl, hb, hg, hnc, hcm, _⟩
  · exact .inl ⟨List.eq_nil_of_length_eq_zero h0, _, _, rfl⟩
  · refine .inr ⟨g, 0, cap, rfl, (Array.getElem?_eq_some_iff.1 hg).1, hnc, hcm, fun i e hi => ?_⟩
    obtain ⟨h1, A, c, h3, h4, _⟩ := h.ents i e hi
    rw [Nat.zero_add]
    exact ⟨by rw [← add9]; exact hc (g := g) rfl _ _ h1, A, c, by rw [← add9]; exact hc (g := g) rfl _ _ h3, h4⟩
theorem en_one (W : ByteArray) (A : Option Addr) (n cp : Nat) : ∀ u ∈ [Value.string W, .slice A n cp], u.oneCell' = true := by
  intro u hu
  simp only [List.mem_cons, List.not_mem_nil, or_false] at hu
  rcases hu with rfl | rfl <;> rfl
theorem int_oneY (a : Int) : ∀ u ∈ [Value.int .i64 a], u.oneCell' = true := by
  intro u hu
  simp only [List.mem_cons, List.not_mem_nil, or_false] at hu
  subst hu; rfl
theorem Tryd.infosY43 : (Tryd.prog.info? 43).map (fun i => (i.zero, i.size, i.bytes)) = some (some (.agg #[.string ⟨#[]⟩, .slice none 0 0]), 2, 40) := by kernel_rfl
theorem Tryd.infosY3 : (Tryd.prog.info? 3).map (fun i => (i.zero, i.size, i.bytes)) = some (some (.int .i64 0), 1, 8) := by kernel_rfl
/-- What entry answers of a line: flags in a row of its own from B on. -/
def EntAns (B : Nat) (l : List UInt8) (e : Ending) (w' : World) : Prop :=
  ∃ W A n c b, e = .returned (.tuple #[.agg #[.string W, .slice A n c], .bool b]) ∧ b = (entryL l).isSome ∧ ∀ en, entryL l = some en → W = en.word ∧ n = en.flags.length ∧ w'.ownsRow B 3 1 (.slice A n c) n (en.flags.map (Value.int .i64))
theorem own_less {w : World} {B B' e s n : Nat} {v : Value} {xs : List Value} (h : w.ownsRow B e s v n xs) (hb : B' ≤ B) : w.ownsRow B' e s v n xs :=
  ⟨h.1, h.2.imp id fun ⟨g, cap, cur, h1, h2, h3⟩ => ⟨g, cap, cur, h1, Nat.le_trans hb h2, h3⟩⟩
theorem own_blk {w w' : World} {B e s n : Nat} {v : Value} {xs : List Value} (h : w.ownsRow B e s v n xs) (hb : ∀ g, v.ownBlock = some g → w'.heap[g]? = w.heap[g]?) : w'.ownsRow B e s v n xs := by
  refine ⟨h.1, ?_⟩
  rcases h.2 with h | ⟨g, cap, cur, h1, h2, h3, h4⟩
  · exact .inl h
  · subst h1
    exact .inr ⟨g, cap, cur, rfl, h2, (hb g rfl).trans h3, h4⟩
theorem set_other (w : World) (HA o : Nat) (v : Value) {k : Nat} (hk : k ≠ HA) : (w.setCell ⟨HA, o, none⟩ v).heap[k]? = w.heap[k]? := Below.heap_setCell _ _ _ _ hk
theorem set_size (w : World) (a : Addr) (v : Value) : (w.setCell a v).heap.size = w.heap.size := by simp [World.setCell]
theorem put2_below {B : Nat} {w w' : World} {H : Nat} (h : Below B w w') (hB : B ≤ H) (a b : Value) : Below B w ((w'.setCell ⟨H, 0, none⟩ a).setCell ⟨H, 1, none⟩ b) :=
  (h.setCell (p := ⟨H, 0, none⟩) hB _).setCell (p := ⟨H, 1, none⟩) hB _
/-- A row of numbers behind the box. -/
theorem own_put2 {w : World} {B H e s n : Nat} {v a b : Value} {xs : List Value} (h : w.ownsRow B e s v n xs) (hB : H < B) : ((w.setCell ⟨H, 0, none⟩ a).setCell ⟨H, 1, none⟩ b).ownsRow B e s v n xs :=
  own_blk h fun g hg => by
    have := (h.lt g hg).1
    exact (set_other _ _ _ _ (by omega)).trans (set_other _ _ _ _ (by omega))
/-- An entry more, its flags in a row of their own. -/
theorem EQ.push {w1 wr w2 w5 w6 : World} {v v' : Value} {xs : List Value} {es : List En} {e : En} {W : ByteArray} {A : Option Addr} {n c : Nat} (h : EQ w1 wr v xs es) (hb : Below wr.heap.size wr w2) (hW : W = e.word) (hn : n = e.flags.length)
    (hr : w2.ownsRow wr.heap.size 3 1 (.slice A n c) n (e.flags.map (Value.int .i64))) (hb5 : Below w2.heap.size w2 w5)
    (hown : w6.ownsRow w1.heap.size 43 2 v' (es.length + 1) (xs ++ [.string W, .slice A n c])) (hgrow : w5.grownBy w6 v.ownBlock)
    (hwh : v'.ownBlock = v.ownBlock ∨ ∀ g, v'.ownBlock = some g → w5.heap.size ≤ g) : EQ w1 w6 v' (xs ++ [.string W, .slice A n c]) (es ++ [e]) := by
  subst hW hn
  refine ((h.keep hb).keep hb5).more hown hgrow hwh (ints_own (own_keep9 hr hb5)) fun b hbb => ?_
  have h1 := hr.lt b hbb
  refine ⟨Nat.lt_of_lt_of_le h1.2 hb5.size, fun e => ?_⟩
  have := (h.row.lt b e).2
  omega
theorem EntAns.no {B : Nat} {l : List UInt8} {w' : World} {W : ByteArray} {A : Option Addr} {n c : Nat} (h : entryL l = none) : EntAns B l (.returned (.tuple #[.agg #[.string W, .slice A n c], .bool false])) w' :=
  ⟨W, A, n, c, false, rfl, by rw [h]; rfl, fun en he => by rw [h] at he; cases he⟩
theorem EntAns.yes {B : Nat} {l : List UInt8} {w' : World} {en : En} {A : Option Addr} {c : Nat} (h : entryL l = some en) (hr : w'.ownsRow B 3 1 (.slice A en.flags.length c) en.flags.length (en.flags.map (Value.int .i64))) : EntAns B l (.returned (.tuple #[.agg #[.string en.word, .slice A en.flags.length c], .bool true])) w' :=
  ⟨en.word, A, _, c, true, rfl, by rw [h]; rfl, fun e he => by rw [h] at he; obtain rfl := Option.some.inj he; exact ⟨rfl, rfl, hr⟩⟩
theorem own_shape {w : World} {B e s n : Nat} {v : Value} {xs : List Value} (h : w.ownsRow B e s v n xs) : ∃ A cap, v = .slice A n cap := by
  rcases h.2 with ⟨rfl, rfl⟩ | ⟨g, cap, cur, rfl, _⟩
  · exact ⟨_, _, rfl⟩
  · exact ⟨_, _, rfl⟩
theorem put2_cell {w : World} {H HB o : Nat} {a b : Value} (h : HB ≠ H) : ((w.setCell ⟨H, 0, none⟩ a).setCell ⟨H, 1, none⟩ b).cell? ⟨HB, o, none⟩ = w.cell? ⟨HB, o, none⟩ := by
  unfold World.cell?
  show (match ((w.setCell ⟨H, 0, none⟩ a).setCell ⟨H, 1, none⟩ b).heap[HB]? with | _ => _) = _
  rw [set_other _ _ _ _ h, set_other _ _ _ _ h]
/-- A box of two cells. -/
theorem ebox2 {w w' : World} {a b : Value} {t : TypeId} (hb : Below (w.alloc (.cells #[a, b] t)).heap.size (w.alloc (.cells #[a, b] t)) w') :
    w'.cell? ⟨w.heap.size, 0, none⟩ = some a ∧ w'.cell? ⟨w.heap.size, 1, none⟩ = some b ∧ ∀ o, w'.frozen? ⟨w.heap.size, o, none⟩ = false := by
  have h : w'.heap[w.heap.size]? = some (.cells #[a, b] t (0, 0)) := (hb.block w.heap.size (by rw [World.size_alloc]; omega)).trans (World.alloc_heap_new w _)
  refine ⟨?_, ?_, fun o => ?_⟩ <;> simp [World.cell?, World.frozen?, h]
end Go.Proofs.YtmadlappalhmlaaDoor
