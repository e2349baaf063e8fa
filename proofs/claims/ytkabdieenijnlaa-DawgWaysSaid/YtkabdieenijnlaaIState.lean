/- What the making of a state has in memory: the builder, its own variables, its words. -/
import Derived.Test.YtkabdieenijnlaaIMem
import Derived.Test.YtkabdieenijnlaaIGroup
import Derived.Test.YtkabdieenijnlaaISearch
namespace Go.Proofs.Ytkabdieenijnlaa
open Go Go.RowKit Go.Lib

/-- A call's words. -/
def TxAt (w : World) (T : Nat → Prop) (A : Option Addr) (n cap : Nat) (ws : List ByteArray) : Prop :=
  n = ws.length ∧ (n = 0 ∨ ∃ q off, A = some ⟨q, off, none⟩ ∧ ¬ T q ∧ q < w.heap.size ∧ n ≤ cap ∧ cap ≤ maxLen ∧ ∀ (i : Nat) s, ws[i]? = some s → w.cell? ⟨q, off + i, none⟩ = some (.string s))
/-- What a call answers. -/
def StPost (w : World) (T : Nat → Prop) (pb pa ms mp : Nat) (g : GA) (V : List Bs) (e : Ending) (w' : World) : Prop :=
  ∃ (T' : Nat → Prop) (g' : GA) (n : Nat), e = .returned (.int .i32 n) ∧ BM w' T' pb pa ms mp g' ∧ Fr T T' w w' ∧ g.Le g' ∧ g'.N[n]? = some V ∧ Made g g' (SetS V) ∧ g'.nodes.length ≤ g.nodes.length + wt V + 1 ∧ g'.arcs.length ≤ g.arcs.length + wt V
def StSays (h : Nat) : Prop := ∀ (w : World) (T : Nat → Prop) (pb pa ms mp : Nat) (g : GA) (A : Option Addr) (n cap : Nat) (ws : List ByteArray) (d : Nat), BM w T pb pa ms mp g → TxAt w T A n cap ws → (ws.map (tailD d)).Pairwise (· < ·) →
  (∀ s ∈ ws, d ≤ s.size ∧ s.size ≤ d + h) → d + h ≤ 1000000 → n ≤ 1000000 → g.nodes.length + wt (ws.map (tailD d)) + 1 ≤ 1000000000 → g.arcs.length + wt (ws.map (tailD d)) ≤ 1000000000 →
  Calls Try.prog 39 #[.pointer (some ⟨pb, 0, none⟩), .slice A n cap, .int .i64 d] w (StPost w T pb pa ms mp g (ws.map (tailD d)))

theorem BM.other {w w' : World} {T : Nat → Prop} {pb pa ms mp : Nat} {g : GA} {b : Nat} (h : BM w T pb pa ms mp g) (ho : OnlyAt (fun z => z = b) w w') (hb : ¬ T b) (hp : b ≠ pb) : BM w' T pb pa ms mp g := by
  have key : ∀ k, k < w.heap.size → (T k ∨ k = pb) → w'.heap[k]? = w.heap[k]? := fun k hk ht => ho.block k hk (by
    rintro rfl
    rcases ht with ht | ht
    · exact hb ht
    · exact hp ht)
  obtain ⟨A, c, A', c', h1, h2, h3, h4, h5⟩ := h.rows
  refine ⟨h.ok, (key _ h.pb_lt (.inr rfl)).trans h.box, ⟨A, c, A', c', (key _ (h.lt _ h.inT.1) (.inl h.inT.1)).trans h1, row_frame h2 fun z hz => key z (h.lt z (h4 z hz)) (.inl (h4 z hz)), row_frame h3 fun z hz => key z (h.lt z (h5 z hz)) (.inl (h5 z hz)), h4, h5⟩,
    h.sm.same (key _ (h.lt _ h.inT.2.1) (.inl h.inT.2.1)), h.pm.same (key _ (h.lt _ h.inT.2.2) (.inl h.inT.2.2)), h.inT, fun k hk => Nat.lt_of_lt_of_le (h.lt k hk) ho.size, h.ne⟩

/-- What lies in memory while a state is made. -/
structure LM (w0 w : World) (T0 T : Nat → Prop) (pb pa ms mp : Nat) (g : GA) (bw bd nb : Nat) (A : Option Addr) (m cap d : Nat) (f : Bool) (i : Nat) (rs : List ByteArray) : Prop where
  bm : BM w T pb pa ms mp g
  fr : Fr T0 T w0 w
  cw : w.heap[bw]? = some (.cells #[.slice A m cap] 22 (0, 0))
  cd : w.heap[bd]? = some (.cells #[.int .i64 d] 3 (0, 0))
  cn : w.heap[nb]? = some (.cells #[.bool f, .int .i32 ((i : Int) - 1)] 64 (0, 0))
  nt : ¬ T bw ∧ ¬ T bd ∧ ¬ T nb
  lo : w0.heap.size ≤ bw ∧ w0.heap.size ≤ bd ∧ w0.heap.size ≤ nb
  ne : bw ≠ bd ∧ bw ≠ nb ∧ bd ≠ nb
  pb0 : pb < w0.heap.size
  tx : m = 0 ∨ ∃ q off, A = some ⟨q, off, none⟩ ∧ ¬ T q ∧ q < w0.heap.size ∧ m ≤ cap ∧ cap ≤ maxLen ∧ ∀ (j : Nat) s, j < m → rs[j]? = some s → w.cell? ⟨q, off + j, none⟩ = some (.string s)
variable {w0 w w' : World} {T0 T T' : Nat → Prop} {pb pa ms mp : Nat} {g g' : GA} {bw bd nb : Nat} {A : Option Addr} {m cap d : Nat} {f : Bool} {i : Nat} {rs : List ByteArray}
theorem LM.call (h : LM w0 w T0 T pb pa ms mp g bw bd nb A m cap d f i rs) (hf : Fr T T' w w') (hb : BM w' T' pb pa ms mp g') : LM w0 w' T0 T' pb pa ms mp g' bw bd nb A m cap d f i rs := by
  obtain ⟨n1, n2, n3⟩ := h.nt
  refine ⟨hb, h.fr.trans hf, hf.block h.cw n1, hf.block h.cd n2, hf.block h.cn n3, ⟨hf.out (Array.getElem?_eq_some_iff.1 h.cw).1 n1, hf.out (Array.getElem?_eq_some_iff.1 h.cd).1 n2, hf.out (Array.getElem?_eq_some_iff.1 h.cn).1 n3⟩, h.lo, h.ne, h.pb0, ?_⟩
  rcases h.tx with h0 | ⟨q, off, e, k1, k2, k3, k4, k5⟩
  · exact .inl h0
  · exact .inr ⟨q, off, e, hf.out (Nat.lt_of_lt_of_le k2 h.fr.only.size) k1, k2, k3, k4, fun j s hj hs => hf.cell (k5 j s hj hs) k1⟩
theorem LM.keep (h : LM w0 w T0 T pb pa ms mp g bw bd nb A m cap d f i rs) (hb : Below w.heap.size w w') : LM w0 w' T0 T pb pa ms mp g bw bd nb A m cap d f i rs := h.call (Fr.of_below hb) (h.bm.keep hb)
theorem Fr.other (h : Fr T0 T w0 w) {b : Nat} (ho : OnlyAt (fun z => z = b) w w') (hb : w0.heap.size ≤ b) : Fr T0 T w0 w' := by
  have hs := h.only.size
  refine ⟨⟨ho.os.trans h.only.os, ho.tape.trans h.only.tape, ho.output.trans h.only.output, Nat.le_trans hs ho.size, fun k hk hn => ?_⟩, h.new⟩
  exact (ho.block k (Nat.lt_of_lt_of_le hk hs) (fun e => by omega)).trans (h.only.block k hk hn)
theorem heap_other {w : World} {k : Nat} (p : Addr) (v : Value) (h : k < w.heap.size) (hn : k ≠ p.block) : (w.setCell p v).heap[k]? = w.heap[k]? := (only1 w p v).block k h hn
theorem LM.setW (h : LM w0 w T0 T pb pa ms mp g bw bd nb A m cap d f i rs) {m' : Nat} (hm : m' ≤ m) : LM w0 (w.setCell ⟨bw, 0, none⟩ (.slice A m' cap)) T0 T pb pa ms mp g bw bd nb A m' cap d f i rs := by
  obtain ⟨n1, n2, n3⟩ := h.nt
  have ho := only1 w ⟨bw, 0, none⟩ (.slice A m' cap)
  refine ⟨h.bm.other ho n1 (by have := h.lo; have := h.pb0; simp only; omega), h.fr.other ho h.lo.1, by have := heap_set (o := 0) h.cw (.slice A m' cap); simpa using this, (heap_other _ _ (Array.getElem?_eq_some_iff.1 h.cd).1 (fun e => h.ne.1 e.symm)).trans h.cd, (heap_other _ _ (Array.getElem?_eq_some_iff.1 h.cn).1 (fun e => h.ne.2.1 e.symm)).trans h.cn, h.nt, h.lo, h.ne, h.pb0, ?_⟩
  rcases h.tx with h0 | ⟨q, off, e, k1, k2, k3, k4, k5⟩
  · exact .inl (by omega)
  · refine .inr ⟨q, off, e, k1, k2, by omega, k4, fun j s hj hs => ?_⟩
    have h1 := k5 j s (by omega) hs
    refine Eq.trans ?_ h1
    unfold World.cell?
    dsimp only
    rw [heap_other _ _ (by have := h.fr.only.size; omega) (by have := h.lo; simp only; omega)]
theorem LM.setN (h : LM w0 w T0 T pb pa ms mp g bw bd nb A m cap d f i rs) (i' : Nat) (v : Value) (hv : v = .int .i32 ((i' : Int) - 1)) : LM w0 (w.setCell ⟨nb, 1, none⟩ v) T0 T pb pa ms mp g bw bd nb A m cap d f i' rs := by
  subst hv
  obtain ⟨n1, n2, n3⟩ := h.nt
  have ho := only1 w ⟨nb, 1, none⟩ (.int .i32 ((i' : Int) - 1))
  refine ⟨h.bm.other ho n3 (by have := h.lo; have := h.pb0; simp only; omega), h.fr.other ho h.lo.2.2, (heap_other _ _ (Array.getElem?_eq_some_iff.1 h.cw).1 h.ne.2.1).trans h.cw, (heap_other _ _ (Array.getElem?_eq_some_iff.1 h.cd).1 h.ne.2.2).trans h.cd, by have := heap_set (o := 1) h.cn (.int .i32 ((i' : Int) - 1)); simpa using this, h.nt, h.lo, h.ne, h.pb0, ?_⟩
  rcases h.tx with h0 | ⟨q, off, e, k1, k2, k3, k4, k5⟩
  · exact .inl h0
  · refine .inr ⟨q, off, e, k1, k2, k3, k4, fun j s hj hs => ?_⟩
    refine Eq.trans ?_ (k5 j s hj hs)
    unfold World.cell?
    dsimp only
    rw [heap_other _ _ (by have := h.fr.only.size; omega) (by have := h.lo; simp only; omega)]
theorem LM.setF (h : LM w0 w T0 T pb pa ms mp g bw bd nb A m cap d f i rs) (f' : Bool) : LM w0 (w.setCell ⟨nb, 0, none⟩ (.bool f')) T0 T pb pa ms mp g bw bd nb A m cap d f' i rs := by
  obtain ⟨n1, n2, n3⟩ := h.nt
  have ho := only1 w ⟨nb, 0, none⟩ (.bool f')
  refine ⟨h.bm.other ho n3 (by have := h.lo; have := h.pb0; simp only; omega), h.fr.other ho h.lo.2.2, (heap_other _ _ (Array.getElem?_eq_some_iff.1 h.cw).1 h.ne.2.1).trans h.cw, (heap_other _ _ (Array.getElem?_eq_some_iff.1 h.cd).1 h.ne.2.2).trans h.cd, by have := heap_set (o := 0) h.cn (.bool f'); simpa using this, h.nt, h.lo, h.ne, h.pb0, ?_⟩
  rcases h.tx with h0 | ⟨q, off, e, k1, k2, k3, k4, k5⟩
  · exact .inl h0
  · refine .inr ⟨q, off, e, k1, k2, k3, k4, fun j s hj hs => ?_⟩
    refine Eq.trans ?_ (k5 j s hj hs)
    unfold World.cell?
    dsimp only
    rw [heap_other _ _ (by have := h.fr.only.size; omega) (by have := h.lo; simp only; omega)]
theorem LM.skip {q off : Nat} {s : ByteArray} (h : LM w0 w T0 T pb pa ms mp g bw bd nb (some ⟨q, off, none⟩) (m + 1) cap d f i (s :: rs)) : LM w0 (w.setCell ⟨bw, 0, none⟩ (.slice (some ⟨q, off + 1, none⟩) m (cap - 1))) T0 T pb pa ms mp g bw bd nb (some ⟨q, off + 1, none⟩) m (cap - 1) d f i rs := by
  obtain ⟨n1, n2, n3⟩ := h.nt
  have ho := only1 w ⟨bw, 0, none⟩ (.slice (some ⟨q, off + 1, none⟩) m (cap - 1))
  refine ⟨h.bm.other ho n1 (by have := h.lo; have := h.pb0; simp only; omega), h.fr.other ho h.lo.1, by have := heap_set (o := 0) h.cw (.slice (some ⟨q, off + 1, none⟩) m (cap - 1)); simpa using this, (heap_other _ _ (Array.getElem?_eq_some_iff.1 h.cd).1 (fun e => h.ne.1 e.symm)).trans h.cd, (heap_other _ _ (Array.getElem?_eq_some_iff.1 h.cn).1 (fun e => h.ne.2.1 e.symm)).trans h.cn, h.nt, h.lo, h.ne, h.pb0, ?_⟩
  rcases h.tx with h0 | ⟨q', off', e, k1, k2, k3, k4, k5⟩
  · omega
  · cases e
    refine .inr ⟨q, off + 1, rfl, k1, k2, by omega, by omega, fun j t hj ht => ?_⟩
    have h1 := k5 (j + 1) t (by omega) (by simpa using ht)
    rw [show off + 1 + j = off + (j + 1) by omega]
    refine Eq.trans ?_ h1
    unfold World.cell?
    dsimp only
    rw [heap_other _ _ (by have := h.fr.only.size; omega) (by have := h.lo; simp only; omega)]
theorem LM.skip0 {s : ByteArray} {A' : Option Addr} {cap' : Nat} (h : LM w0 w T0 T pb pa ms mp g bw bd nb A m cap d f i (s :: rs)) : LM w0 (w.setCell ⟨bw, 0, none⟩ (.slice A' 0 cap')) T0 T pb pa ms mp g bw bd nb A' 0 cap' d f i rs := by
  obtain ⟨n1, n2, n3⟩ := h.nt
  have ho := only1 w ⟨bw, 0, none⟩ (.slice A' 0 cap')
  exact ⟨h.bm.other ho n1 (by have := h.lo; have := h.pb0; simp only; omega), h.fr.other ho h.lo.1, by have := heap_set (o := 0) h.cw (.slice A' 0 cap'); simpa using this, (heap_other _ _ (Array.getElem?_eq_some_iff.1 h.cd).1 (fun e => h.ne.1 e.symm)).trans h.cd, (heap_other _ _ (Array.getElem?_eq_some_iff.1 h.cn).1 (fun e => h.ne.2.1 e.symm)).trans h.cn, h.nt, h.lo, h.ne, h.pb0, .inl rfl⟩
theorem LM.other {b : Nat} (h : LM w0 w T0 T pb pa ms mp g bw bd nb A m cap d f i rs) (ho : OnlyAt (fun z => z = b) w w') (hb : w0.heap.size ≤ b) (hn : ¬ T b) (h3 : b ≠ bw ∧ b ≠ bd ∧ b ≠ nb) : LM w0 w' T0 T pb pa ms mp g bw bd nb A m cap d f i rs := by
  have key : ∀ k o, w.heap[k]? = some o → k ≠ b → w'.heap[k]? = some o := fun k o hk hne => (ho.block k (Array.getElem?_eq_some_iff.1 hk).1 hne).trans hk
  refine ⟨h.bm.other ho hn (by have := h.pb0; omega), h.fr.other ho hb, key _ _ h.cw (fun e => h3.1 e.symm), key _ _ h.cd (fun e => h3.2.1 e.symm), key _ _ h.cn (fun e => h3.2.2 e.symm), h.nt, h.lo, h.ne, h.pb0, ?_⟩
  rcases h.tx with h0 | ⟨q, off, e, k1, k2, k3, k4, k5⟩
  · exact .inl h0
  · refine .inr ⟨q, off, e, k1, k2, k3, k4, fun j s hj hs => ?_⟩
    refine Eq.trans ?_ (k5 j s hj hs)
    unfold World.cell?
    dsimp only
    rw [ho.block q (by have := h.fr.only.size; omega) (by omega)]
theorem LM.cells (h : LM w0 w T0 T pb pa ms mp g bw bd nb A m cap d f i rs) : w.cell? ⟨bw, 0, none⟩ = some (.slice A m cap) ∧ w.cell? ⟨bd, 0, none⟩ = some (.int .i64 d) ∧ w.cell? ⟨nb, 0, none⟩ = some (.bool f) ∧ w.cell? ⟨nb, 1, none⟩ = some (.int .i32 ((i : Int) - 1)) ∧
    w.cell? ⟨pb, 0, none⟩ = some (.pointer (some ⟨pa, 0, none⟩)) ∧ w.cell? ⟨pb, 1, none⟩ = some (.map (some ms)) ∧ w.cell? ⟨pb, 2, none⟩ = some (.map (some mp)) ∧ w.frozen? ⟨bw, 0, none⟩ = false ∧ w.frozen? ⟨nb, 1, none⟩ = false ∧ w.frozen? ⟨nb, 0, none⟩ = false := by
  have h1 := h.cw
  have h2 := h.cd
  have h3 := h.cn
  have h4 := h.bm.box
  refine ⟨?_, ?_, ?_, ?_, ?_, ?_, ?_, ?_, ?_, ?_⟩ <;> simp [World.cell?, World.frozen?, h1, h2, h3, h4]
/-- What a state's arcs are, so far. -/
structure LP (g0 g : GA) (i : Nat) (R : List Bs) : Prop where
  le : g0.Le g
  ar : ([] :: g.A)[i]? = some R
  md : Made g0 g (SetR R)
  nn : g.nodes.length ≤ g0.nodes.length + wt R
  na : g.arcs.length ≤ g0.arcs.length + wt R
end Go.Proofs.Ytkabdieenijnlaa
