/- Word lists in memory; what is asked of list's calls; stage 12's laws' awake. -/
import Derived.Test.YtmadlappalhmlaaDoorNGrow
import Derived.Test.YtmadlappalhmlaaDoorYPlain
namespace Go.Proofs.YtmadlappalhmlaaDoor
open Go Go.RowKit Go.Lib

/-- Two cells that read as an entry. -/
def EnCells (w : World) (b o : Nat) (e : En) : Prop :=
  w.cell? ⟨b, o, none⟩ = some (.string e.word) ∧ ∃ A cap, w.cell? ⟨b, o + 1, none⟩ = some (.slice A e.flags.length cap) ∧ IntsAt w (.slice A e.flags.length cap) e.flags
/-- A slice that reads as these entries. -/
def EntsAt (w : World) (v : Value) (es : List En) : Prop :=
  (es = [] ∧ ∃ a cap, v = .slice a 0 cap) ∨ ∃ b off cap, v = .slice (some ⟨b, off, none⟩) es.length cap ∧ b < w.heap.size ∧ es.length ≤ cap ∧ cap ≤ maxLen ∧ ∀ (i : Nat) e, es[i]? = some e → EnCells w b (off + i * 2) e
theorem EnCells.keep {w w' : World} {b o : Nat} {e : En} (h : EnCells w b o e) (hb : Below w.heap.size w w') (hlt : b < w.heap.size) : EnCells w' b o e := by
  obtain ⟨h0, A, cap, h1, h2⟩ := h
  exact ⟨(cell_old (p := ⟨b, o, none⟩) hb hlt).trans h0, A, cap, (cell_old (p := ⟨b, o + 1, none⟩) hb hlt).trans h1, h2.keep hb⟩
theorem EntsAt.keep {w w' : World} {v : Value} {es : List En} (h : EntsAt w v es) (hb : Below w.heap.size w w') : EntsAt w' v es := by
  rcases h with h | ⟨b, off, cap, rfl, h1, h2, h3, h4⟩
  · exact .inl h
  · exact .inr ⟨b, off, cap, rfl, Nat.lt_of_lt_of_le h1 hb.size, h2, h3, fun i r hr => (h4 i r hr).keep hb h1⟩
theorem EntsAt.bd {w : World} {A : Option Addr} {n cap : Nat} {es : List En} (h : EntsAt w (.slice A n cap) es) : es.length ≤ maxLen ∧ n = es.length := by
  rcases h with ⟨rfl, a, c, e⟩ | ⟨b, off, c, e, _, h2, h3, _⟩
  · injection e with _ e2 _; exact ⟨Nat.zero_le _, e2⟩
  · injection e with _ e2 _; exact ⟨Nat.le_trans h2 h3, e2⟩
theorem ents_form {w : World} {v : Value} {es : List En} (h : EntsAt w v es) : ∃ A cap, v = .slice A es.length cap := by
  rcases h with ⟨rfl, a, c, e⟩ | ⟨b, off, c, e, _⟩
  · exact ⟨a, c, e⟩
  · exact ⟨_, c, e⟩
theorem ents_nil {w : World} {v : Value} (h : EntsAt w v []) : ∃ A cap, v = .slice A 0 cap := by
  obtain ⟨A, c, e⟩ := ents_form h
  exact ⟨A, c, e⟩
theorem ents_open {w : World} {A : Option Addr} {n cap : Nat} {es : List En} (h : EntsAt w (.slice A n cap) es) : ∀ (k : Nat) e, es[k]? = some e → ∃ b off, A = some ⟨b, off, none⟩ ∧ b < w.heap.size ∧ n ≤ cap ∧ EnCells w b (off + k * 2) e := by
  intro k e hk
  rcases h with ⟨rfl, _⟩ | ⟨b, off, c, e', h1, h2, h3, h4⟩
  · simp at hk
  · injection e' with e1 e2 e3
    subst e1 e2 e3
    exact ⟨b, off, rfl, h1, h2, h4 k e hk⟩

/-! ### What is asked of list's calls -/
structure SaysL (T : World → Prop) : Prop where
  kept : ∀ w w', T w → Below w.heap.size w w' → T w'
  parse : ∀ w (s : ByteArray), T w → s.size ≤ 100000 →
    Calls Tryd.prog 10 #[.string s] w fun e w' => ∃ v, e = .returned (.tuple #[v, .int .i64 ((parseE s).2.1 : Nat), .int .i64 (parseE s).2.2]) ∧ EntsAt w' v (parseE s).1 ∧ Below w.heap.size w w'
  text : ∀ w v es, T w → EntsAt w v es → FewE es →
    Calls Tryd.prog 13 #[v] w fun e w' => e = .returned (.string (textE es)) ∧ Below w.heap.size w w'

def ex1 : ByteArray := ⟨#[99, 105, 116, 121, 47, 83]⟩
def ex2 : ByteArray := ⟨#[97, 10, 98, 32, 99, 10]⟩
def exE : List En := [⟨⟨#[99, 105, 116, 121]⟩, [83]⟩]
theorem ex1_parse : parseE ex1 = (exE, 0, 0) := by decide +kernel
theorem ex2_parse : parseE ex2 = ([], 2, 5) := by decide +kernel
theorem exE_at {w : World} {v : Value} (h : EntsAt w v exE) : ∃ b off cap B o c', v = .slice (some ⟨b, off, none⟩) 1 cap ∧ b < w.heap.size ∧ B < w.heap.size ∧ 1 ≤ cap ∧ 1 ≤ c' ∧ w.cell? ⟨b, off, none⟩ = some (.string ⟨#[99, 105, 116, 121]⟩) ∧ w.cell? ⟨b, off + 1, none⟩ = some (.slice (some ⟨B, o, none⟩) 1 c') ∧ w.cell? ⟨B, o, none⟩ = some (.int .i64 83) := by
  obtain ⟨A, cap, rfl⟩ := ents_form h
  obtain ⟨b, off, rfl, hb, hc, h1, B, c', h2, h3⟩ := ents_open h 0 _ rfl
  obtain ⟨A', c2, e, h4⟩ := ints_open h3
  injection e with e1 e2 e3
  subst e1 e3
  obtain ⟨q, o, rfl, hq, hc', h5⟩ := h4 0 83 rfl
  exact ⟨b, off, cap, q, o, _, rfl, hb, hq, hc, hc', h1, h2, h5⟩
variable {T : World → Prop}

set_option maxRecDepth 100000 in
set_option maxHeartbeats 1000000 in
theorem eawake_any (S : SaysL T) (w : World) (hT : T w) : Calls Tryd.prog 9 #[] w fun e w' => e = .returned (.bool true) ∧ Below w.heap.size w w' := by
  have C1 := Lib.hid (S.parse w ex1 hT (by decide))
  rw [ex1_parse] at C1
  have C2 := Lib.hid (fun wx (hb : Below w.heap.size w wx) => S.parse wx ex2 (S.kept w wx hT hb) (by decide))
  rw [ex2_parse] at C2
  clear S hT
  go_enter Tryd.func9, Tryd.ntmps9
  go_wp2_with fail
  refine C1.out.mono ?_
  rintro e w1 ⟨v, rfl, ha, hb1⟩
  obtain ⟨b, off, cap, B, o, c', rfl, hlt, hlt2, hcap, hc2, h0, h1, h2⟩ := exE_at ha
  have HB1 := Lib.hid hb1
  have HX := Lib.hid (And.intro (And.intro hlt hlt2) (And.intro h0 (And.intro h1 h2)))
  clear ha hb1 C1 h0 h1 h2 hlt hlt2
  go_wp2_with fail
  refine (C2.out _ HB1.out).mono ?_
  rintro e w2 ⟨v, rfl, ha, hb2⟩
  obtain ⟨A2, c2, rfl⟩ := ents_nil ha
  have h0 := (cell_old (p := ⟨b, off, none⟩) hb2 HX.out.1.1).trans HX.out.2.1
  have h1 := (cell_old (p := ⟨b, off + 1, none⟩) hb2 HX.out.1.1).trans HX.out.2.2.1
  have h2 := (cell_old (p := ⟨B, o, none⟩) hb2 HX.out.1.2).trans HX.out.2.2.2
  have HB2 := Lib.hid (HB1.out.trans (hb2.mono HB1.out.size))
  clear ha hb2 C2 HX
  go_wp2_with fail
  go_ret
  exact ⟨rfl, HB2.out⟩
end Go.Proofs.YtmadlappalhmlaaDoor
