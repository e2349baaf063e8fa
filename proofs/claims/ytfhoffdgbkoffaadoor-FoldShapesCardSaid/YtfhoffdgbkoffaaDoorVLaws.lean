/- Affix files in memory; what is asked of affix's calls; stage 11's laws' awake. -/
import Derived.Test.YtfhoffdgbkoffaaDoorQLaws
import Derived.Test.YtfhoffdgbkoffaaDoorVPlain
namespace Go.Proofs.YtfhoffdgbkoffaaDoor
open Go Go.RowKit Go.Lib

/-- Six cells that read as a rule. -/
def RuCells (w : World) (b o : Nat) (r : Ru) : Prop :=
  w.cell? ⟨b, o, none⟩ = some (.bool r.pre) ∧ w.cell? ⟨b, o + 1, none⟩ = some (.int .i64 r.flag) ∧ w.cell? ⟨b, o + 2, none⟩ = some (.bool r.cross) ∧ w.cell? ⟨b, o + 3, none⟩ = some (.string r.strip) ∧ w.cell? ⟨b, o + 4, none⟩ = some (.string r.add) ∧
    ∃ A cap, w.cell? ⟨b, o + 5, none⟩ = some (.slice A r.cond.length cap) ∧ ItemsAt w (.slice A r.cond.length cap) r.cond
/-- A slice that reads as these rules. -/
def RulesAt (w : World) (v : Value) (rs : List Ru) : Prop :=
  (rs = [] ∧ ∃ a cap, v = .slice a 0 cap) ∨ ∃ b off cap, v = .slice (some ⟨b, off, none⟩) rs.length cap ∧ b < w.heap.size ∧ rs.length ≤ cap ∧ cap ≤ maxLen ∧ ∀ (i : Nat) r, rs[i]? = some r → RuCells w b (off + i * 6) r
/-- A slice that reads as these pairs. -/
def PairsAt (w : World) (v : Value) (ps : List (Int × Int)) : Prop :=
  (ps = [] ∧ ∃ a cap, v = .slice a 0 cap) ∨ ∃ b off cap, v = .slice (some ⟨b, off, none⟩) ps.length cap ∧ b < w.heap.size ∧ ps.length ≤ cap ∧ cap ≤ maxLen ∧
    ∀ (i : Nat) p, ps[i]? = some p → w.cell? ⟨b, off + i * 2, none⟩ = some (.int .i64 p.1) ∧ w.cell? ⟨b, off + i * 2 + 1, none⟩ = some (.int .i64 p.2)
def AffAt (w : World) (v : Value) (a : Af) : Prop :=
  ∃ A cap B cap', v = .agg #[.slice A a.rules.length cap, .slice B a.pairs.length cap'] ∧ RulesAt w (.slice A a.rules.length cap) a.rules ∧ PairsAt w (.slice B a.pairs.length cap') a.pairs
theorem RuCells.keep {w w' : World} {b o : Nat} {r : Ru} (h : RuCells w b o r) (hb : Below w.heap.size w w') (hlt : b < w.heap.size) : RuCells w' b o r := by
  obtain ⟨h0, h1, h2, h3, h4, A, cap, h5, h6⟩ := h
  exact ⟨(cell_old (p := ⟨b, o, none⟩) hb hlt).trans h0, (cell_old (p := ⟨b, o + 1, none⟩) hb hlt).trans h1, (cell_old (p := ⟨b, o + 2, none⟩) hb hlt).trans h2, (cell_old (p := ⟨b, o + 3, none⟩) hb hlt).trans h3, (cell_old (p := ⟨b, o + 4, none⟩) hb hlt).trans h4, A, cap, (cell_old (p := ⟨b, o + 5, none⟩) hb hlt).trans h5, h6.keep hb⟩
theorem RulesAt.keep {w w' : World} {v : Value} {rs : List Ru} (h : RulesAt w v rs) (hb : Below w.heap.size w w') : RulesAt w' v rs := by
  rcases h with h | ⟨b, off, cap, rfl, h1, h2, h3, h4⟩
  · exact .inl h
  · exact .inr ⟨b, off, cap, rfl, Nat.lt_of_lt_of_le h1 hb.size, h2, h3, fun i r hr => (h4 i r hr).keep hb h1⟩
theorem PairsAt.keep {w w' : World} {v : Value} {ps : List (Int × Int)} (h : PairsAt w v ps) (hb : Below w.heap.size w w') : PairsAt w' v ps := by
  rcases h with h | ⟨b, off, cap, rfl, h1, h2, h3, h4⟩
  · exact .inl h
  · exact .inr ⟨b, off, cap, rfl, Nat.lt_of_lt_of_le h1 hb.size, h2, h3, fun i p hp => ⟨(cell_old (p := ⟨b, off + i * 2, none⟩) hb h1).trans (h4 i p hp).1, (cell_old (p := ⟨b, off + i * 2 + 1, none⟩) hb h1).trans (h4 i p hp).2⟩⟩
theorem AffAt.keep {w w' : World} {v : Value} {a : Af} (h : AffAt w v a) (hb : Below w.heap.size w w') : AffAt w' v a := by
  obtain ⟨A, cap, B, cap', rfl, h1, h2⟩ := h
  exact ⟨A, cap, B, cap', rfl, h1.keep hb, h2.keep hb⟩
theorem RulesAt.bd {w : World} {A : Option Addr} {n cap : Nat} {rs : List Ru} (h : RulesAt w (.slice A n cap) rs) : rs.length ≤ maxLen ∧ n = rs.length := by
  rcases h with ⟨rfl, a, c, e⟩ | ⟨b, off, c, e, _, h2, h3, _⟩
  · injection e with _ e2 _; exact ⟨Nat.zero_le _, e2⟩
  · injection e with _ e2 _; exact ⟨Nat.le_trans h2 h3, e2⟩
theorem PairsAt.bd {w : World} {A : Option Addr} {n cap : Nat} {ps : List (Int × Int)} (h : PairsAt w (.slice A n cap) ps) : ps.length ≤ maxLen ∧ n = ps.length := by
  rcases h with ⟨rfl, a, c, e⟩ | ⟨b, off, c, e, _, h2, h3, _⟩
  · injection e with _ e2 _; exact ⟨Nat.zero_le _, e2⟩
  · injection e with _ e2 _; exact ⟨Nat.le_trans h2 h3, e2⟩
/-- Not too much. -/
structure FewA (a : Af) : Prop where
  rules : a.rules.length ≤ 200
  pairs : a.pairs.length ≤ 200
  items : ∀ r ∈ a.rules, r.cond.length ≤ 12
  sets : ∀ r ∈ a.rules, ∀ it ∈ r.cond, it.set.length ≤ 2000
  strip : ∀ r ∈ a.rules, r.strip.size ≤ 200
  add : ∀ r ∈ a.rules, r.add.size ≤ 200

/-! ### What is asked of affix's calls -/
def ex1 : ByteArray := ⟨#[83, 70, 88, 32, 83, 32, 89, 32, 48, 32, 115, 32, 46, 10, 67, 65, 83, 69, 32, 195, 150, 195, 182, 10]⟩
def ex2 : ByteArray := ⟨#[10, 104, 111, 112, 10]⟩
def exA : Af := ⟨[⟨false, 83, true, ⟨#[]⟩, ⟨#[115]⟩, [⟨true, false, []⟩]⟩], [(214, 246)]⟩
theorem ex0_parse : parseA ⟨#[]⟩ = (af0, 0, 0) := by decide +kernel
theorem ex1_parse : parseA ex1 = (exA, 0, 0) := by decide +kernel
theorem ex2_parse : parseA ex2 = (af0, 2, 5) := by decide +kernel

/-- A box of two cells. -/
theorem box2 {w w' : World} {a b : Value} {t : TypeId} (hb : Below (w.alloc (.cells #[a, b] t)).heap.size (w.alloc (.cells #[a, b] t)) w') :
    w'.cell? ⟨w.heap.size, 0, none⟩ = some a ∧ w'.cell? ⟨w.heap.size, 1, none⟩ = some b := by
  have h : w'.heap[w.heap.size]? = some (.cells #[a, b] t (0, 0)) := (hb.block w.heap.size (by rw [World.size_alloc]; omega)).trans (World.alloc_heap_new w _)
  refine ⟨?_, ?_⟩ <;> simp [World.cell?, h]
theorem af0_at {w : World} {v : Value} (h : AffAt w v af0) : ∃ A cap B cap', v = .agg #[.slice A 0 cap, .slice B 0 cap'] := by
  obtain ⟨A, cap, B, cap', e, _, _⟩ := h
  exact ⟨A, cap, B, cap', e⟩
theorem exA_at {w : World} {v : Value} (h : AffAt w v exA) : ∃ A cap B cap', v = .agg #[.slice A 1 cap, .slice B 1 cap'] := by
  obtain ⟨A, cap, B, cap', e, _, _⟩ := h
  exact ⟨A, cap, B, cap', e⟩
theorem af_at {w : World} {v : Value} {a : Af} (h : AffAt w v a) : ∃ A n cap B m cap', v = .agg #[.slice A n cap, .slice B m cap'] ∧ n = a.rules.length ∧ m = a.pairs.length := by
  obtain ⟨A, cap, B, cap', e, _, _⟩ := h
  exact ⟨A, _, cap, B, _, cap', e, rfl, rfl⟩
variable {T : World → Prop}

end Go.Proofs.YtfhoffdgbkoffaaDoor
