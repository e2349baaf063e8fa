/- EditBack: what its rows hold, and how an edit goes back. -/
import Derived.Test.YtfdnlbeancdajaaEDoes
import Derived.Test.YtfdnlbeancdajaaEWords
import Derived.Test.YtfdnlbeancdajaaWhere
import Derived.Deep.AppendLies
namespace Go.Proofs.Ytfdnlbeancdajaa.Cl
open Go Go.RowKit

/-- One edit done: the text before, where, what went, what came. -/
structure ItE where
  T : ByteArray
  k : Nat
  d : ByteArray
  t : ByteArray
def nextT (x : ItE) : ByteArray := putT x.T x.k x.d.size x.t
structure Good (x : ItE) : Prop where
  fit : x.k + x.d.size ≤ x.T.size
  cut : x.T.extract x.k (x.k + x.d.size) = x.d
  cT : Clean x.T
  ct : Clean x.t
  small : x.T.size ≤ 2000
  short : x.t.size ≤ 13
theorem Good.clean {x : ItE} (h : Good x) : Clean (nextT x) := ((h.cT.extract _ _).append h.ct).append (h.cT.extract _ _)
theorem Good.size {x : ItE} (h : Good x) : (nextT x).size = x.T.size - x.d.size + x.t.size := putT_size _ _ _ _ h.fit
theorem Good.back {x : ItE} (h : Good x) : undoE (nextT x) 5000 x.k x.d x.t = 0 ∧ undoS (nextT x) 5000 x.k x.d x.t = x.T := by
  have hs := h.size
  have h1 := h.fit
  have h2 := h.small
  have ha : (x.T.extract 0 x.k).size = x.k := by rw [ByteArray.size_extract]; omega
  have hf : fitsE (nextT x) x.k x.t := by
    have := fits_mid (x.T.extract 0 x.k) x.t (x.T.extract (x.k + x.d.size) x.T.size)
    rwa [ha] at this
  have hp : putT (nextT x) x.k x.t.size x.d = x.T := by
    have := put_mid (x.T.extract 0 x.k) x.t (x.T.extract (x.k + x.d.size) x.T.size) x.d
    rw [ha] at this
    refine this.trans ?_
    rw [← h.cut]
    have e1 : (x.T.extract x.k (x.k + x.d.size)).size = x.d.size := by rw [h.cut]
    rw [e1]
    apply ByteArray.ext
    rw [ByteArray.data_append, ByteArray.data_append, ByteArray.data_extract, ByteArray.data_extract, ByteArray.data_extract, Array.extract_append_extract]
    rw [show min 0 x.k = 0 by omega, show max x.k (x.k + x.d.size) = x.k + x.d.size by omega, Array.extract_append_extract]
    have e2 : x.T.data.size = x.T.size := rfl
    rw [show min 0 (x.k + x.d.size) = 0 by omega, show max (x.k + x.d.size) x.T.size = x.T.size by omega, ← e2, Array.extract_size]
  have he : undoE (nextT x) 5000 x.k x.d x.t = 0 := by unfold undoE; rw [if_pos hf, if_neg (by omega)]
  refine ⟨he, ?_⟩
  unfold undoS
  rw [if_pos he]
  exact hp
theorem Good.sizes {x : ItE} (h : Good x) : x.d.size ≤ 2000 ∧ x.k ≤ 2000 ∧ x.t.size ≤ 13 := by
  have h1 := h.fit
  have h2 := h.small
  have h3 := h.short
  exact ⟨by omega, by omega, h3⟩
theorem Good.next {x : ItE} (h : Good x) : ∃ N, nextT x = N ∧ N.size ≤ 2013 ∧ undoE N 5000 x.k x.d x.t = 0 ∧ undoS N 5000 x.k x.d x.t = x.T ∧ Clean N := by
  have h1 := h.small
  have h2 := h.short
  have h3 := h.size
  refine ⟨_, rfl, ?_, h.back.1, h.back.2, h.clean⟩
  rw [h3]
  omega
theorem not_fits {s i : ByteArray} (k : Int) (hs : Clean s) (hi : ¬ Clean i) : ¬ fitsE s k i := fun h => hi (h.2.2.2 ▸ hs.extract _ _)
theorem undo_bad {s i : ByteArray} (m : Nat) (k : Int) (d : ByteArray) (hs : Clean s) (hi : ¬ Clean i) : undoE s m k d i = 2 ∧ undoS s m k d i = s := by
  have he : undoE s m k d i = 2 := by unfold undoE; rw [if_neg (not_fits k hs hi)]
  exact ⟨he, by unfold undoS; rw [if_neg (by rw [he]; decide)]⟩
theorem not_clean (t g : ByteArray) : ¬ Clean (t ++ ⟨#[0]⟩ ++ g) := by
  unfold Clean
  rw [ByteArray.data_append, ByteArray.data_append, Array.toList_append, Array.toList_append, List.all_append, List.all_append]
  simp

theorem do_good (T S : ByteArray) (P Z : Nat) (h : P + Z ≤ T.size) (hs : T.size ≤ 2000) (hS : S.size ≤ 13) :
    doE T 5000 P Z S = 0 ∧ doV T 5000 P Z S = EdV P (T.extract P (P + Z)) S ∧ doS T 5000 P Z S = nextT ⟨T, P, T.extract P (P + Z), S⟩ ∧ (T.extract P (P + Z)).size = Z := by
  have hi : isIn T P Z := ⟨by omega, by omega, by omega, by omega⟩
  have he : doE T 5000 P Z S = 0 := by unfold doE; rw [if_pos hi, if_neg (by omega)]
  have hz : (T.extract P (P + Z)).size = Z := by rw [ByteArray.size_extract]; omega
  refine ⟨he, ?_, ?_, hz⟩
  · unfold doV; rw [if_pos he]; rfl
  · unfold doS nextT; rw [if_pos he]; dsimp only; rw [hz]; rfl
theorem good_of {T S : ByteArray} {P Z : Nat} (h : P + Z ≤ T.size) (hs : T.size ≤ 2000) (hS : S.size ≤ 13) (cT : Clean T) (cS : Clean S) : Good ⟨T, P, T.extract P (P + Z), S⟩ := by
  have hz : (T.extract P (P + Z)).size = Z := by rw [ByteArray.size_extract]; omega
  exact ⟨by show P + (T.extract P (P + Z)).size ≤ T.size; omega, by show T.extract P (P + (T.extract P (P + Z)).size) = _; rw [hz], cT, cS, hs, hS⟩

/-- The text when so many edits are done. -/
def txt (L : List ItE) (cur : ByteArray) (i : Nat) : ByteArray := (L[i]?.map (·.T)).getD cur
structure Steps (s : ByteArray) (L : List ItE) (cur : ByteArray) : Prop where
  good : ∀ (i : Nat) x, L[i]? = some x → Good x
  link : ∀ (i : Nat) x, L[i]? = some x → nextT x = txt L cur (i + 1)
  first : txt L cur 0 = s
theorem txt_end (L : List ItE) (cur : ByteArray) : txt L cur L.length = cur := by unfold txt; rw [List.getElem?_eq_none (Nat.le_refl _)]; rfl
theorem txt_in {L : List ItE} {cur : ByteArray} {i : Nat} {x : ItE} (h : L[i]? = some x) : txt L cur i = x.T := by unfold txt; rw [h]; rfl
theorem txt_snoc (L : List ItE) (x : ItE) (c : ByteArray) (i : Nat) (h : i ≤ L.length) : txt (L ++ [x]) c i = txt L x.T i := by
  rcases Nat.lt_or_ge i L.length with h1 | h1
  · unfold txt; rw [List.getElem?_append_left h1, List.getElem?_eq_getElem h1]; rfl
  · obtain rfl : i = L.length := by omega
    rw [txt_end, txt_in (x := x) (by simp)]
theorem Steps.nil (s : ByteArray) : Steps s [] s := ⟨fun i x h => by simp at h, fun i x h => by simp at h, rfl⟩
theorem Steps.snoc {s : ByteArray} {L : List ItE} {x : ItE} (h : Steps s L x.T) (hx : Good x) : Steps s (L ++ [x]) (nextT x) := by
  have hc : ∀ (i : Nat) y, (L ++ [x])[i]? = some y → L[i]? = some y ∧ i < L.length ∨ y = x ∧ i = L.length := fun i y hy => by
    rcases Nat.lt_or_ge i L.length with h1 | h1
    · rw [List.getElem?_append_left h1] at hy; exact .inl ⟨hy, h1⟩
    · rw [List.getElem?_append_right h1] at hy
      rcases Nat.eq_or_lt_of_le h1 with h2 | h2
      · rw [← h2, Nat.sub_self] at hy; exact .inr ⟨by simpa using hy.symm, h2.symm⟩
      · rw [List.getElem?_eq_none (by simp; omega)] at hy; cases hy
  refine ⟨fun i y hy => ?_, fun i y hy => ?_, ?_⟩
  · rcases hc i y hy with ⟨h1, _⟩ | ⟨rfl, _⟩
    · exact h.good i y h1
    · exact hx
  · rcases hc i y hy with ⟨h1, h2⟩ | ⟨rfl, h2⟩
    · rw [txt_snoc _ _ _ _ (by omega)]; exact h.link i y h1
    · rw [h2]
      have := txt_end (L ++ [y]) (nextT y)
      rw [List.length_append] at this
      exact this.symm
  · rw [txt_snoc _ _ _ _ (Nat.zero_le _)]; exact h.first
def sCells (L : List ItE) : List Value := L.map fun x => .string x.T
def eCells (L : List ItE) : List Value := L.flatMap fun x => [.int .i64 x.k, .string x.d, .string x.t]
theorem sCells_at {L : List ItE} {i : Nat} {x : ItE} (h : L[i]? = some x) : (sCells L)[i]? = some (.string x.T) := by unfold sCells; rw [List.getElem?_map, h]; rfl
theorem eCells_at : ∀ {L : List ItE} {i : Nat} {x : ItE}, L[i]? = some x → (eCells L)[i * 3]? = some (.int .i64 x.k) ∧ (eCells L)[i * 3 + 1]? = some (.string x.d) ∧ (eCells L)[i * 3 + 2]? = some (.string x.t)
  | [], i, x, h => by simp at h
  | y :: L, 0, x, h => by
    obtain rfl : y = x := by simpa using h
    exact ⟨rfl, rfl, rfl⟩
  | y :: L, i + 1, x, h => by
    have ih := eCells_at (L := L) (i := i) (x := x) (by simpa using h)
    rw [show (i + 1) * 3 = i * 3 + 3 by omega]
    exact ih

theorem own_keep {w w' : World} {B e size n : Nat} {v : Value} {xs : List Value} (h : w.ownsRow B e size v n xs) (hk : ∀ g, v.ownBlock = some g → w'.heap[g]? = w.heap[g]?) : w'.ownsRow B e size v n xs := by
  refine ⟨h.1, ?_⟩
  rcases h.2 with hn | ⟨g, cap, cur, rfl, hgb, hgg, rest⟩
  · exact .inl hn
  · exact .inr ⟨g, cap, cur, rfl, hgb, (hk g rfl).trans hgg, rest⟩
variable {R : Nat → (Nat → Prop) → World → Addr → ByteArray → Nat → Nat → Nat → Prop} {u u' : Nat}
/-- A buffer, two rows of the law's own, and blocks beside them. -/
structure R2 (R : (Nat → Prop) → World → Addr → ByteArray → Nat → Nat → Nat → Prop) (X : Nat → Prop) (w : World) (a : Addr) (T : ByteArray) (v1 : Value) (n1 : Nat) (x1 : List Value) (v2 : Value) (n2 : Nat) (x2 : List Value) (wr : World) : Prop where
  buf : Holds R (fun j => (v1.ownBlock = some j ∨ v2.ownBlock = some j) ∨ X j) w a T 5000 AnyP wr
  one : wr.ownsRow w.heap.size 9 1 v1 n1 x1
  two : wr.ownsRow w.heap.size 23 3 v2 n2 x2
  sep : ∀ g, v1.ownBlock = some g → v2.ownBlock ≠ some g
section
variable {X : Nat → Prop} {w wr w' : World} {a : Addr} {T T' : ByteArray} {v1 v2 : Value} {n1 n2 : Nat} {x1 x2 : List Value}
theorem R2.below (h : R2 (R u) X w a T v1 n1 x1 v2 n2 x2 wr) : Below w.heap.size w wr := h.buf.2
theorem R2.start (h : HoldsN (R u) w a T 5000 wr) : R2 (R u) (fun _ => False) w a T (.slice none 0 0) 0 [] (.slice none 0 0) 0 [] wr := by
  obtain ⟨⟨F, p, hh, hr, hp, hF⟩, hb⟩ := h
  exact ⟨⟨⟨F, p, hh, hr, hp, fun k hk => ⟨(hF k hk).1, by rintro ((e | e) | e); cases e; cases e; exact e⟩⟩, hb⟩, World.ownsRow_nil _ _ _ _, World.ownsRow_nil _ _ _ _, fun g hg => by cases hg⟩
/-- Under a call that writes nothing of ours. -/
theorem R2.on (B : SaysB R) (h : R2 (R u) X w a T v1 n1 x1 v2 n2 x2 wr) (hb : Below wr.heap.size wr w') : R2 (R u) X w a T v1 n1 x1 v2 n2 x2 w' :=
  ⟨Holds.keepX B h.buf hb, own_keep h.one fun g hg => hb.block g (h.one.lt g hg).2, own_keep h.two fun g hg => hb.block g (h.two.lt g hg).2, h.sep⟩
/-- Under a call of the buffer's. -/
theorem R2.call {f : Nat} {args : Array Value} {r : Value} (h : R2 (R u) X w a T v1 n1 x1 v2 n2 x2 wr) (hX : ∀ j, X j → j < wr.heap.size)
    (hc : ∀ F p hh, R u F wr a T 5000 p hh → Calls Try.prog f args wr fun e w' => e = .returned r ∧ Goes (R u') F wr w' a T' 5000 (fun _ _ => True)) :
    Calls Try.prog f args wr fun e w' => e = .returned r ∧ R2 (R u') X w a T' v1 n1 x1 v2 n2 x2 w' ∧ KeepsAt X wr w' := by
  have hl : ∀ j, ((v1.ownBlock = some j ∨ v2.ownBlock = some j) ∨ X j) → j < wr.heap.size := by
    rintro j ((e | e) | e)
    · exact (h.one.lt j e).2
    · exact (h.two.lt j e).2
    · exact hX j e
  refine (Holds.call (r := fun _ _ => r) (Q := fun _ _ _ _ => True) h.buf hl (fun F p hh hr _ => hc F p hh hr)).mono fun _ w' ⟨_, _, _, he, h1, h2⟩ => ⟨he, ⟨?_, ?_, ?_, h.sep⟩, h2.out.mono fun k hk => .inr hk⟩
  · obtain ⟨⟨F, p, hh, hr, _, hF⟩, hb⟩ := h1.out
    exact ⟨⟨F, p, hh, hr, trivial, hF⟩, hb⟩
  · exact own_keep h.one fun g hg => h2.out.block g (h.one.lt g hg).2 (.inl (.inl hg))
  · exact own_keep h.two fun g hg => h2.out.block g (h.two.lt g hg).2 (.inl (.inr hg))
/-- A block of ours beside. -/
theorem R2.beside (B : SaysB R) (h : R2 (R u) (fun _ => False) w a T v1 n1 x1 v2 n2 x2 wr) (o : Obj) : R2 (R u) (fun j => j = wr.heap.size) w a T v1 n1 x1 v2 n2 x2 (wr.alloc o) := by
  have h2 := R2.on B h ((Below.refl wr.heap.size wr).alloc (Nat.le_refl _) o)
  refine ⟨⟨?_, h2.buf.2⟩, h2.one, h2.two, h2.sep⟩
  obtain ⟨⟨F, p, hh, hr, hp, hF⟩, hb⟩ := h.buf
  refine ⟨F, p, hh, B.frame F wr _ a _ _ p hh hr ⟨by simp, fun k hk _ => ((Below.refl wr.heap.size wr).alloc (Nat.le_refl _) o).block k hk⟩, hp, fun j hj => ⟨(hF j hj).1, ?_⟩⟩
  rintro ((e | e) | e)
  · exact (hF j hj).2 (.inl (.inl e))
  · exact (hF j hj).2 (.inl (.inr e))
  · have := B.lt F wr a _ _ p hh hr j hj; omega
theorem R2.forget (h : R2 (R u) X w a T v1 n1 x1 v2 n2 x2 wr) : R2 (R u) (fun _ => False) w a T v1 n1 x1 v2 n2 x2 wr := by
  obtain ⟨⟨F, p, hh, hr, hp, hF⟩, hb⟩ := h.buf
  exact ⟨⟨⟨F, p, hh, hr, hp, fun j hj => ⟨(hF j hj).1, by rintro (e | e); exact (hF j hj).2 (.inl e); exact e⟩⟩, hb⟩, h.one, h.two, h.sep⟩
/-- The first row has grown. -/
theorem R2.grow1 (B : SaysB R) {v' : Value} {o : Obj} {y : List Value} {m : Nat} (h : R2 (R u) (fun _ => False) w a T v1 n1 x1 v2 n2 x2 wr)
    (hown : w'.ownsRow w.heap.size 9 1 v' m y) (hg : (wr.alloc o).grownBy w' v1.ownBlock) (hwh : v'.ownBlock = v1.ownBlock ∨ ∀ g, v'.ownBlock = some g → (wr.alloc o).heap.size ≤ g) :
    R2 (R u) (fun _ => False) w a T v' m y v2 n2 x2 w' := by
  have hz := hg.size
  rw [World.size_alloc] at hz
  have hk : ∀ k, k < wr.heap.size → v1.ownBlock ≠ some k → w'.heap[k]? = wr.heap[k]? := fun k hk hne => (hg.block k (by simp; omega) (fun e => hne e.symm)).trans (Below.heap_alloc _ _ _ hk)
  have hsep : ∀ g, v'.ownBlock = some g → v2.ownBlock ≠ some g := fun g hgv h2 => by
    rcases hwh with e | e
    · exact h.sep g (e ▸ hgv) h2
    · have := e g hgv; have := (h.two.lt g h2).2; rw [World.size_alloc] at *; omega
  have hbel : Below w.heap.size w w' := (h.below.alloc h.below.size o).grown hg (by have := h.below.size; simp; omega) (fun k hk => (h.one.lt k hk).1)
  obtain ⟨⟨F, p, hh, hr, hp, hF⟩, hb⟩ := h.buf
  refine ⟨⟨⟨F, p, hh, B.frame F wr w' a _ _ p hh hr ⟨by omega, fun k hkl hFk => hk k hkl fun e => (hF k hFk).2 (.inl (.inl e))⟩, hp, fun j hj => ⟨(hF j hj).1, ?_⟩⟩, hbel⟩, hown, own_keep h.two fun g hgv => hk g (h.two.lt g hgv).2 (fun e => h.sep g e hgv), hsep⟩
  rintro ((e | e) | e)
  · rcases hwh with e' | e'
    · exact (hF j hj).2 (.inl (.inl (e' ▸ e)))
    · have h1 := e' j e; have h2 := B.lt F wr a _ _ p hh hr j hj; rw [World.size_alloc] at h1; omega
  · exact (hF j hj).2 (.inl (.inr e))
  · exact e
/-- The second row has grown. -/
theorem R2.grow2 (B : SaysB R) {v' : Value} {o : Obj} {y : List Value} {m : Nat} (h : R2 (R u) (fun _ => False) w a T v1 n1 x1 v2 n2 x2 wr)
    (hown : w'.ownsRow w.heap.size 23 3 v' m y) (hg : (wr.alloc o).grownBy w' v2.ownBlock) (hwh : v'.ownBlock = v2.ownBlock ∨ ∀ g, v'.ownBlock = some g → (wr.alloc o).heap.size ≤ g) :
    R2 (R u) (fun _ => False) w a T v1 n1 x1 v' m y w' := by
  have hz := hg.size
  rw [World.size_alloc] at hz
  have hk : ∀ k, k < wr.heap.size → v2.ownBlock ≠ some k → w'.heap[k]? = wr.heap[k]? := fun k hk hne => (hg.block k (by simp; omega) (fun e => hne e.symm)).trans (Below.heap_alloc _ _ _ hk)
  have hsep : ∀ g, v1.ownBlock = some g → v'.ownBlock ≠ some g := fun g h1 hgv => by
    rcases hwh with e | e
    · exact h.sep g h1 (e ▸ hgv)
    · have := e g hgv; have := (h.one.lt g h1).2; rw [World.size_alloc] at *; omega
  have hbel : Below w.heap.size w w' := (h.below.alloc h.below.size o).grown hg (by have := h.below.size; simp; omega) (fun k hk => (h.two.lt k hk).1)
  obtain ⟨⟨F, p, hh, hr, hp, hF⟩, hb⟩ := h.buf
  refine ⟨⟨⟨F, p, hh, B.frame F wr w' a _ _ p hh hr ⟨by omega, fun k hkl hFk => hk k hkl fun e => (hF k hFk).2 (.inl (.inr e))⟩, hp, fun j hj => ⟨(hF j hj).1, ?_⟩⟩, hbel⟩, own_keep h.one fun g hgv => hk g (h.one.lt g hgv).2 (fun e => h.sep g hgv e), hown, hsep⟩
  rintro ((e | e) | e)
  · exact (hF j hj).2 (.inl (.inl e))
  · rcases hwh with e' | e'
    · exact (hF j hj).2 (.inl (.inr (e' ▸ e)))
    · have h1 := e' j e; have h2 := B.lt F wr a _ _ p hh hr j hj; rw [World.size_alloc] at h1; omega
  · exact e
end
theorem cells_new (w : World) (cs : List Value) (t : TypeId) : ∀ j u, cs[j]? = some u → (w.alloc (.cells cs.toArray t)).cell? ((⟨w.heap.size, 0, none⟩ : Addr).add j) = some u := by
  intro j u hu
  have hadd : (⟨w.heap.size, 0, none⟩ : Addr).add j = ⟨w.heap.size, j, none⟩ := by unfold Addr.add; split <;> simp_all
  rw [hadd, cell_of_row _ w.heap.size j cs.toArray t (0, 0) (World.alloc_heap_new w _)]
  simpa using hu
theorem own_open {w : World} {B e size n : Nat} {v : Value} {xs : List Value} (h : w.ownsRow B e size v n xs) (hn : 0 < n) :
    ∃ g cap, v = .slice (some ⟨g, 0, none⟩) n cap ∧ g < w.heap.size ∧ n ≤ cap ∧ cap ≤ maxLen ∧ ∀ j u, xs[j]? = some u → w.cell? ⟨g, j, none⟩ = some u := by
  have hc := @World.ownsRow.cells _ _ _ _ _ _ _ h
  rcases h.2 with ⟨_, rfl⟩ | ⟨g, cap, cur, rfl, hb, hg, hnc, hcm, _⟩
  · omega
  · refine ⟨g, cap, rfl, (Array.getElem?_eq_some_iff.1 hg).1, hnc, hcm, fun j u hu => ?_⟩
    have hadd : (⟨g, 0, none⟩ : Addr).add j = ⟨g, j, none⟩ := by unfold Addr.add; split <;> simp_all
    rw [← hadd]
    exact hc (g := g) rfl j u hu
theorem Try.infos9 : (Try.prog.info? 9).map (fun i => (i.zero, i.size, i.bytes)) = some (some (.string ⟨#[]⟩), 1, 16) := by kernel_rfl
theorem Try.infos23 : (Try.prog.info? 23).map (fun i => (i.zero, i.size, i.bytes)) = some (some (.agg #[.int .i64 0, .string ⟨#[]⟩, .string ⟨#[]⟩]), 3, 40) := by kernel_rfl

section
variable {w W W' : World} {a : Addr} {T : ByteArray} {v1 v2 : Value} {n1 n2 : Nat} {x1 x2 : List Value}
theorem R2.grown1 (B : SaysB R) {v' : Value} {y : List Value} {m : Nat} (h : R2 (R u) (fun _ => False) w a T v1 n1 x1 v2 n2 x2 W)
    (hown : W'.ownsRow w.heap.size 9 1 v' m y) (hg : W.grownBy W' v1.ownBlock) (hwh : ∀ g, v'.ownBlock = some g → v1.ownBlock = some g ∨ g = W.heap.size) :
    R2 (R u) (fun _ => False) w a T v' m y v2 n2 x2 W' ∧ W.heap.size ≤ W'.heap.size ∧ ∀ k, k < W.heap.size → v1.ownBlock ≠ some k → W'.heap[k]? = W.heap[k]? := by
  have hz := hg.size
  have hk : ∀ k, k < W.heap.size → v1.ownBlock ≠ some k → W'.heap[k]? = W.heap[k]? := fun k hk hne => hg.block k hk (fun e => hne e.symm)
  have hsep : ∀ g, v'.ownBlock = some g → v2.ownBlock ≠ some g := fun g hgv h2 => by
    rcases hwh g hgv with e | e
    · exact h.sep g e h2
    · have := (h.two.lt g h2).2; omega
  have hbel : Below w.heap.size w W' := h.below.grown hg h.below.size (fun k hk => (h.one.lt k hk).1)
  obtain ⟨⟨F, p, hh, hr, hp, hF⟩, hb⟩ := h.buf
  refine ⟨⟨⟨⟨F, p, hh, B.frame F W W' a _ _ p hh hr ⟨hz, fun k hkl hFk => hk k hkl fun e => (hF k hFk).2 (.inl (.inl e))⟩, hp, fun j hj => ⟨(hF j hj).1, ?_⟩⟩, hbel⟩, hown, own_keep h.two fun g hgv => hk g (h.two.lt g hgv).2 (fun e => h.sep g e hgv), hsep⟩, hz, hk⟩
  rintro ((e | e) | e)
  · rcases hwh j e with e' | e'
    · exact (hF j hj).2 (.inl (.inl e'))
    · have h2 := B.lt F W a _ _ p hh hr j hj; omega
  · exact (hF j hj).2 (.inl (.inr e))
  · exact e
theorem R2.grown2 (B : SaysB R) {v' : Value} {y : List Value} {m : Nat} (h : R2 (R u) (fun _ => False) w a T v1 n1 x1 v2 n2 x2 W)
    (hown : W'.ownsRow w.heap.size 23 3 v' m y) (hg : W.grownBy W' v2.ownBlock) (hwh : ∀ g, v'.ownBlock = some g → v2.ownBlock = some g ∨ g = W.heap.size) :
    R2 (R u) (fun _ => False) w a T v1 n1 x1 v' m y W' := by
  have hz := hg.size
  have hk : ∀ k, k < W.heap.size → v2.ownBlock ≠ some k → W'.heap[k]? = W.heap[k]? := fun k hk hne => hg.block k hk (fun e => hne e.symm)
  have hsep : ∀ g, v1.ownBlock = some g → v'.ownBlock ≠ some g := fun g h1 hgv => by
    rcases hwh g hgv with e | e
    · exact h.sep g h1 e
    · have := (h.one.lt g h1).2; omega
  have hbel : Below w.heap.size w W' := h.below.grown hg h.below.size (fun k hk => (h.two.lt k hk).1)
  obtain ⟨⟨F, p, hh, hr, hp, hF⟩, hb⟩ := h.buf
  refine ⟨⟨⟨F, p, hh, B.frame F W W' a _ _ p hh hr ⟨hz, fun k hkl hFk => hk k hkl fun e => (hF k hFk).2 (.inl (.inr e))⟩, hp, fun j hj => ⟨(hF j hj).1, ?_⟩⟩, hbel⟩, own_keep h.one fun g hgv => hk g (h.one.lt g hgv).2 (fun e => h.sep g hgv e), hown, hsep⟩
  rintro ((e | e) | e)
  · exact (hF j hj).2 (.inl (.inl e))
  · rcases hwh j e with e' | e'
    · exact (hF j hj).2 (.inl (.inr e'))
    · have h2 := B.lt F W a _ _ p hh hr j hj; omega
  · exact e

theorem step_one (B : SaysB R) {ops : Array Oper} {o : Oper} {ac : Act} {K : Act → World → Prop} {Q : Exit → Act → World → Prop} {E : Prop} (hgd : o.guard = none) (s x : Operand)
    (ho : o.op = .call { callee := .builtin .append, args := #[s, x], argTypes := #[42, 42] })
    (hR : R2 (R u) (fun _ => False) w a T v1 n1 x1 v2 n2 x2 W) (hs : ac.eval s = v1) (q c : Nat) (t : ByteArray) (hx : ac.eval x = .slice (some ⟨q, 0, none⟩) 1 c)
    (hq : W.heap[q]? = some (.cells #[.string t] 9 (0, 0))) (hn : n1 ≤ 100)
    (h : ∀ v' W', (R2 (R u) (fun _ => False) w a T v' (n1 + 1) (x1 ++ [.string t]) v2 n2 x2 W' ∧ W.heap.size ≤ W'.heap.size ∧ ∀ k, k < W.heap.size → v1.ownBlock ≠ some k → W'.heap[k]? = W.heap[k]?) → K (ac.put o.dst v') W') :
    if Region.wanted o (yielded ops ac.tmps) = true then Oper.wp Try.prog o ac W K Q else E := by
  obtain ⟨i1, hi1, hz10, hz11, hz12⟩ := info_parts Try.infos9
  refine step_append_lies W hgd s x _ ho w.heap.size 9 i1 _ 1 16 Try.underlying42 hi1 hz10 hz11 hz12 rfl (by decide) v1 n1 x1 hs hR.one ⟨q, 0, none⟩ 1 c [.string t] hx rfl (World.news_of_block (cs := #[.string t]) hq) (by simp [Value.oneCell']) (by decide) (by unfold maxLen; omega) (by omega) hR.below.size W.heap.size rfl ?_
  intro g cap W' h1 h2 h3 _
  exact h _ _ (R2.grown1 B hR h1 h2 (fun g' e => by cases e; exact h3))
theorem step_two (B : SaysB R) {ops : Array Oper} {o : Oper} {ac : Act} {K : Act → World → Prop} {Q : Exit → Act → World → Prop} {E : Prop} (hgd : o.guard = none) (s x : Operand)
    (ho : o.op = .call { callee := .builtin .append, args := #[s, x], argTypes := #[43, 43] })
    (hR : R2 (R u) (fun _ => False) w a T v1 n1 x1 v2 n2 x2 W) (hs : ac.eval s = v2) (q c : Nat) (k : Int) (d t : ByteArray) (hx : ac.eval x = .slice (some ⟨q, 0, none⟩) 1 c)
    (hq : W.heap[q]? = some (.cells #[.int .i64 k, .string d, .string t] 23 (0, 0))) (hn : n2 ≤ 100)
    (h : ∀ v' W', R2 (R u) (fun _ => False) w a T v1 n1 x1 v' (n2 + 1) (x2 ++ [.int .i64 k, .string d, .string t]) W' → K (ac.put o.dst v') W') :
    if Region.wanted o (yielded ops ac.tmps) = true then Oper.wp Try.prog o ac W K Q else E := by
  obtain ⟨i1, hi1, hz10, hz11, hz12⟩ := info_parts Try.infos23
  refine step_append_lies W hgd s x _ ho w.heap.size 23 i1 _ 3 40 Try.underlying43 hi1 hz10 hz11 hz12 rfl (by decide) v2 n2 x2 hs hR.two ⟨q, 0, none⟩ 1 c [.int .i64 k, .string d, .string t] hx rfl (World.news_of_block (cs := #[.int .i64 k, .string d, .string t]) hq) (by simp [Value.oneCell']) (by decide) (by unfold maxLen; omega) (by omega) hR.below.size W.heap.size rfl ?_
  intro g cap W' h1 h2 h3 _
  exact h _ _ (R2.grown2 B hR h1 h2 (fun g' e => by cases e; exact h3))
end

/-- On the way back: the buffer, the two rows, and a copy of one edit, turned. -/
structure P2 (R : (Nat → Prop) → World → Addr → ByteArray → Nat → Nat → Nat → Prop) (w : World) (a : Addr) (T : ByteArray) (g1 c1 g2 c2 n : Nat) (L : List ItE) (gb : Nat) (k : Int) (d i : ByteArray) (wx : World) : Prop where
  r : R2 R (fun j => j = gb) w a T (.slice (some ⟨g1, 0, none⟩) n c1) n (sCells L) (.slice (some ⟨g2, 0, none⟩) n c2) n (eCells L) wx
  e : HasE gb k d i wx
section
variable {w wx w' : World} {a : Addr} {T : ByteArray} {g1 c1 g2 c2 n : Nat} {L : List ItE} {gb : Nat} {k : Int} {d i : ByteArray}
theorem rows_at {X : Nat → Prop} (h : R2 (R u) X w a T (.slice (some ⟨g1, 0, none⟩) n c1) n (sCells L) (.slice (some ⟨g2, 0, none⟩) n c2) n (eCells L) wx) (hn : 0 < n) {q : Nat} {x : ItE} (hx : L[q]? = some x) :
    wx.cell? ⟨g1, q, none⟩ = some (.string x.T) ∧ wx.cell? ⟨g2, q * 3, none⟩ = some (.int .i64 x.k) ∧ wx.cell? ⟨g2, q * 3 + 1, none⟩ = some (.string x.d) ∧ wx.cell? ⟨g2, q * 3 + 2, none⟩ = some (.string x.t) := by
  obtain ⟨_, _, e1, _, _, _, h1⟩ := own_open h.one hn
  cases e1
  obtain ⟨_, _, e2, _, _, _, h2⟩ := own_open h.two hn
  cases e2
  obtain ⟨y1, y2, y3⟩ := eCells_at hx
  exact ⟨h1 _ _ (sCells_at hx), h2 _ _ y1, h2 _ _ y2, h2 _ _ y3⟩
theorem P2.text (B : SaysB R) (h : P2 (R u) w a T g1 c1 g2 c2 n L gb k d i wx) :
    Calls Try.prog 16 #[.pointer (some a)] wx fun e w' => e = .returned (.string T) ∧ Hid (P2 (R u) w a T g1 c1 g2 c2 n L gb k d i w') :=
  (R2.call h.r (by rintro j rfl; exact h.e.lt) (fun F p hh hr => B.text F wx a T 5000 p hh hr)).mono fun _ w' ⟨he, h1, h2⟩ => ⟨he, Lib.hid ⟨h1, h.e.keep (h2.block gb h.e.lt rfl)⟩⟩
theorem P2.undo (U : SaysUndo R) (h : P2 (R u) w a T g1 c1 g2 c2 n L gb k d i wx) (k' : Int) (d' i' : ByteArray) (hu : u + d'.size + T.size ≤ 1000000) (hi : i'.size ≤ 100000) (k1 : -9223372036854775808 ≤ k') (k2 : k' ≤ 9223372036854775807) :
    Calls Try.prog 21 #[.pointer (some a), EdV k' d' i'] wx fun e w' => e = .returned (.int .i64 (undoE T 5000 k' d' i')) ∧ Hid (P2 (R (u + d'.size + T.size)) w a (undoS T 5000 k' d' i') g1 c1 g2 c2 n L gb k d i w') :=
  (R2.call h.r (by rintro j rfl; exact h.e.lt) (fun F p hh hr => U.undo F wx a T 5000 p hh k' d' i' hr hu hi k1 k2)).mono fun _ w' ⟨he, h1, h2⟩ => ⟨he, Lib.hid ⟨h1, h.e.keep (h2.block gb h.e.lt rfl)⟩⟩
/-- A copy of an edit is laid, digits are made, the copy is turned. -/
theorem P2.begin (B : SaysB R) {i' : ByteArray} {wr w1 : World} (h : R2 (R u) (fun _ => False) w a T (.slice (some ⟨g1, 0, none⟩) n c1) n (sCells L) (.slice (some ⟨g2, 0, none⟩) n c2) n (eCells L) wr)
    (hb : Below (wr.alloc (.cells #[.int .i64 k, .string d, .string i] /-t-/23)).heap.size (wr.alloc (.cells #[.int .i64 k, .string d, .string i] /-t-/23)) w1) :
    P2 (R u) w a T g1 c1 g2 c2 n L wr.heap.size k d i' (w1.setCell ⟨wr.heap.size, 2, none⟩ (.string i')) := by
  have h1 := R2.on B (R2.beside B h (.cells #[.int .i64 k, .string d, .string i] /-t-/23)) hb
  have hlt : wr.heap.size < (wr.alloc (.cells #[.int .i64 k, .string d, .string i] /-t-/23)).heap.size := by simp
  have hc : w1.heap[wr.heap.size]? = some (.cells #[.int .i64 k, .string d, .string i] /-t-/23 (0, 0)) := (hb.block _ hlt).trans (World.alloc_heap_new _ _)
  have hs := cells_set w1 wr.heap.size 2 (.string i') _ _ hc
  have ho : OnlyAt (fun j => j = wr.heap.size) w1 (w1.setCell ⟨wr.heap.size, 2, none⟩ (.string i')) := OnlyAt.setCell _ _ _ rfl
  refine ⟨⟨⟨?_, h1.below.trans (OnlyAt.below (Below.refl _ _) ho h1.below.size (by rintro j rfl; exact h.below.size))⟩, ?_, ?_, h1.sep⟩, ?_⟩
  · obtain ⟨⟨F, p, hh, hr, hp, hF⟩, _⟩ := h1.buf
    exact ⟨F, p, hh, B.frame F w1 _ a _ _ p hh hr (KeepsAt.of_only ho (fun j hj e => (hF j hj).2 (.inr e))), hp, hF⟩
  · exact own_keep h1.one fun g hg => ho.block g (h1.one.lt g hg).2 (fun e => by have := (h.one.lt g hg).2; omega)
  · exact own_keep h1.two fun g hg => ho.block g (h1.two.lt g hg).2 (fun e => by have := (h.two.lt g hg).2; omega)
  · refine ⟨?_, ?_, ?_⟩ <;> simp [World.cell?, hs]
theorem P2.cells {wx : World} (h : Hid (P2 (R u) w a T g1 c1 g2 c2 n L gb k d i wx)) (hn : Hid (0 < n)) {q : Nat} {x : ItE} (hx : Hid (L[q]? = some x)) :
    (wx.cell? ⟨gb, 0, none⟩ = some (.int .i64 k) ∧ wx.cell? ⟨gb, 1, none⟩ = some (.string d) ∧ wx.cell? ⟨gb, 2, none⟩ = some (.string i)) ∧
    (wx.cell? ⟨g1, q, none⟩ = some (.string x.T) ∧ wx.cell? ⟨g2, q * 3, none⟩ = some (.int .i64 x.k) ∧ wx.cell? ⟨g2, q * 3 + 1, none⟩ = some (.string x.d) ∧ wx.cell? ⟨g2, q * 3 + 2, none⟩ = some (.string x.t)) :=
  ⟨h.out.e, rows_at h.out.r hn.out hx.out⟩
theorem P2.drew (B : SaysB R) {wx : World} (h : P2 (R u) w a T g1 c1 g2 c2 n L gb k d i wx) : P2 (R u) w a T g1 c1 g2 c2 n L gb k d i wx.drew :=
  ⟨R2.on B h.r (below_drewN (Below.refl _ _) 1), h.e⟩
end
end Go.Proofs.Ytfdnlbeancdajaa.Cl
