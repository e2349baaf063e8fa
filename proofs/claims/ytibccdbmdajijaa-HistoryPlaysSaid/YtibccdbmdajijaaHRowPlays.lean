/- The row of HistoryPlays out of what is asked of a history's calls; an argument that is a slice of slices of edits. Conditions: the row's own. -/
import Derived.Test.YtibccdbmdajijaaHLawPlays
import Derived.Test.YtibccdbmdajijaaRows
import Derived.ProofKit
import Derived.Deep.Slices
import Derived.Carry
import Derived.SliceStrings
import Derived.OpenShut
namespace Go.Proofs.Ytibccdbmdajijaa
open Go Go.ChangeShapes Go.WideShapes Go.ChangeAt Go.RowKit Go.Deep
variable {R : (Nat → Prop) → World → Addr → Nat → List (List Ed) → List (List Ed) → Prop}

theorem Try.own : ownKnob Try.prog.godebug = none := by kernel_rfl
theorem Try.laidOut : laidOutB Try.prog = true := by kernel_rfl
theorem Try.cells31 : Try.prog.cellsOf /-t-/31 = 3 := by kernel_rfl
theorem Try.cells32 : Try.prog.cellsOf /-t-/32 = 1 := by kernel_rfl
theorem Try.cells3 : Try.prog.cellsOf /-t-/3 = 1 := by kernel_rfl
theorem Try.cells9 : Try.prog.cellsOf /-t-/9 = 1 := by kernel_rfl

instance : Inhabited Ed := ⟨⟨0, ⟨#[]⟩, ⟨#[]⟩⟩⟩
theorem eCells_all : ∀ (L : List Ed) (P : Nat → Value → Prop), (∀ (i : Nat) e, L[i]? = some e → P (i * 3) (.int .i64 e.k) ∧ P (i * 3 + 1) (.string e.d) ∧ P (i * 3 + 2) (.string e.i)) → ∀ (j : Nat) u, (eCells L)[j]? = some u → P j u
  | [], P, _, j, u, h => by simp [eCells] at h
  | y :: L, P, hP, j, u, h => by
    obtain ⟨p0, p1, p2⟩ := hP 0 y rfl
    match j, h with
    | 0, h => have e : Value.int .i64 y.k = u := by simpa [eCells] using h
              subst e; exact p0
    | 1, h => have e : Value.string y.d = u := by simpa [eCells] using h
              subst e; exact p1
    | 2, h => have e : Value.string y.i = u := by simpa [eCells] using h
              subst e; exact p2
    | j + 3, h =>
      refine eCells_all L (fun j u => P (j + 3) u) (fun i e he => ?_) j u h
      have := hP (i + 1) e (by simpa using he)
      rw [show (i + 1) * 3 = i * 3 + 3 by omega] at this
      exact this

set_option maxRecDepth 100000 in
theorem open_group {H : Type} {enc : TypeId × Value → H} {W : World} {fuel : Nat} {v : Value} {x : DataW H × List MemPlace}
    (hf : DataW.trod enc Try.prog W 0 (fun _ => true) true fuel /-t-/32 [v] = some x) : ∃ g : List Ed, RowAt W v g := by
  rcases open_slice Try.underlying32 hf with ⟨hcs, _⟩ | ⟨a, len, cap', m, k, D, Pl, hcs, _, hl, hm, hmm, _, hi⟩
  · obtain rfl : v = .slice none 0 0 := by simpa using hcs
    exact ⟨[], RowAt.nil W⟩
  · obtain rfl : v = .slice (some a) len cap' := by simpa using hcs
    simp only [if_true] at hmm
    have each : ∀ i, i < len → ∃ o : Ed, W.cell? (a.add (i * 3)) = some (.int .i64 o.k) ∧ W.cell? (a.add (i * 3 + 1)) = some (.string o.d) ∧ W.cell? (a.add (i * 3 + 2)) = some (.string o.i) := by
      intro i hin
      obtain ⟨cs', h1, h2⟩ := hi i (by omega)
      rw [Try.cells31] at h1
      obtain ⟨_, hlen, hcell⟩ := World.cells?_some h1
      obtain ⟨xs, k', _, _, _, hxl, hfd⟩ := DataW.trod_struct Try.underlying31 h2
      match cs', hlen, xs, hxl with
      | [x0, x1, x2], _, [y0, y1, y2], _ =>
        have g0 := hfd 0 _ rfl
        have g1 := hfd 1 _ rfl
        have g2 := hfd 2 _ rfl
        simp [Try.cells3, Try.cells9] at g0 g1 g2
        obtain ⟨n0, e0, _, _⟩ := DataW.trod_int Try.underlying3 g0
        obtain ⟨s1, e1, _, _⟩ := DataW.trod_string Try.underlying9 g1
        obtain ⟨s2, e2, _, _⟩ := DataW.trod_string Try.underlying9 g2
        simp at e0 e1 e2
        subst e0 e1 e2
        have w0 := hcell 0 (by omega)
        have w1 := hcell 1 (by omega)
        have w2 := hcell 2 (by omega)
        rw [add_add] at w0 w1 w2
        exact ⟨⟨n0, s1, s2⟩, by simpa using w0, by simpa using w1, by simpa using w2⟩
    obtain ⟨f, hfc⟩ := choose_lt each
    obtain ⟨g, hg⟩ : ∃ g, g = (List.range len).map f := ⟨_, rfl⟩
    have hgl : g.length = len := by rw [hg]; simp
    have hgc : ∀ (i : Nat) e, g[i]? = some e → W.cell? (a.add (i * 3)) = some (.int .i64 e.k) ∧ W.cell? (a.add (i * 3 + 1)) = some (.string e.d) ∧ W.cell? (a.add (i * 3 + 2)) = some (.string e.i) := fun i e he => by
      have hin : i < len := by rw [← hgl]; exact (List.getElem?_eq_some_iff.1 he).1
      have hfi : e = f i := by
        rw [hg, List.getElem?_map, List.getElem?_range hin] at he
        simpa using he.symm
      rw [hfi]
      exact hfc i hin
    refine ⟨g, ⟨eCells_len g, .inr ⟨a, cap', by rw [hgl], by omega, hm, eCells_all g (fun j u => W.cell? (a.add j) = some u) hgc⟩⟩, fun h0 b hb => ?_⟩
    cases hb
    obtain ⟨e0, he0⟩ : ∃ e0, g[0]? = some e0 := ⟨_, List.getElem?_eq_getElem h0⟩
    have := World.block_lt_of_cell? W _ (hgc 0 e0 he0).1
    rwa [add_block] at this

set_option maxRecDepth 100000 in
theorem open_grps {H : Type} {enc : TypeId × Value → H} {W : World} {base : Nat} {v : Value} {d : DataW H} {ps : List MemPlace}
    (hval : Value.okWide Try.prog W .any base /-t-/22 v) (h : DataW.Trod enc Try.prog W 0 (fun _ => true) true /-t-/22 v d ps) :
    ∃ (A : Option Addr) (n cap : Nat) (gs : List (List Ed)), v = .slice A n cap ∧ GrpsU W A n cap gs := by
  obtain ⟨A, n, cap, rfl⟩ := okWide_slice Try.underlying22 hval
  obtain ⟨fuel, hf⟩ := h
  rcases open_slice Try.underlying22 hf with ⟨hcs, _⟩ | ⟨a, len, cap', m, k, D, Pl, hcs, _, hl, hm, hmm, _, hi⟩
  · simp [Value.cells] at hcs
    obtain ⟨rfl, rfl, rfl⟩ := hcs
    exact ⟨none, 0, 0, [], rfl, rfl, Nat.le_refl _, Nat.zero_le _, fun i z hi => by simp at hi⟩
  · simp [Value.cells] at hcs
    obtain ⟨rfl, rfl, rfl⟩ := hcs
    simp only [if_true] at hmm
    have each : ∀ i, i < n → ∃ o : List Ed, ∃ x0, W.cell? (a.add i) = some x0 ∧ RowAt W x0 o := by
      intro i hin
      obtain ⟨cs', h1, h2⟩ := hi i (by omega)
      rw [Try.cells32, Nat.mul_one] at h1
      obtain ⟨_, hlen, hcell⟩ := World.cells?_some h1
      match cs', hlen with
      | [x0], _ =>
        obtain ⟨g, hg⟩ := open_group h2
        have w0 := hcell 0 (by omega)
        exact ⟨g, x0, by simpa [Addr.add] using w0, hg⟩
    obtain ⟨f, hfc⟩ := choose_lt each
    refine ⟨some a, n, cap, (List.range n).map f, rfl, by simp, hl, hm, fun i g hig => ?_⟩
    have hin : i < n := by
      have := (List.getElem?_eq_some_iff.1 hig).1
      simpa using this
    have hfi : g = f i := by
      rw [List.getElem?_map, List.getElem?_range hin] at hig
      simpa using hig.symm
    obtain ⟨b, off, spot⟩ := a
    obtain ⟨y0, hy0, _⟩ := hfc 0 (by omega)
    have hspot : spot = none := by simpa [Addr.add] using World.cell?_spot hy0
    subst hspot
    have hadd : ∀ j, (⟨b, off, none⟩ : Addr).add j = ⟨b, off + j, none⟩ := fun j => by unfold Addr.add; split <;> simp_all
    obtain ⟨x0, hx0, hr⟩ := hfc i hin
    have hblt := World.block_lt_of_cell? W _ hx0
    rw [hadd] at hblt hx0
    exact ⟨b, off, x0, rfl, hblt, hx0, by rw [hfi]; exact hr⟩

set_option maxRecDepth 100000 in
theorem open_nums {H : Type} {enc : TypeId × Value → H} {W : World} {base : Nat} {v : Value} {d : DataW H} {ps : List MemPlace}
    (hval : Value.okWide Try.prog W .any base /-t-/23 v) (h : DataW.Trod enc Try.prog W 0 (fun _ => true) true /-t-/23 v d ps) :
    ∃ (A : Option Addr) (n cap : Nat) (zs : List Int), v = .slice A n cap ∧ NumsU W A n cap zs := by
  obtain ⟨A, n, cap, rfl⟩ := okWide_slice Try.underlying23 hval
  obtain ⟨fuel, hf⟩ := h
  rcases open_ints Try.underlying23 Try.underlying3 Try.cells3 hf with ⟨hcs, _⟩ | ⟨a, len, cap', zs, hcs, _, hl, hm, hz, _, hcell, _⟩
  · simp [Value.cells] at hcs
    obtain ⟨rfl, rfl, rfl⟩ := hcs
    exact ⟨none, 0, 0, [], rfl, rfl, Nat.le_refl _, Nat.zero_le _, fun i z hi => by simp at hi⟩
  · simp [Value.cells] at hcs
    obtain ⟨rfl, rfl, rfl⟩ := hcs
    simp only [if_true] at hz
    refine ⟨some a, n, cap, zs.take n, rfl, by rw [List.length_take]; omega, hl, hm, fun i z hi => ?_⟩
    rw [List.getElem?_take] at hi
    split at hi
    · rename_i hin
      obtain ⟨b, off, spot⟩ := a
      have hspot : spot = none := by simpa [Addr.add] using World.cell?_spot (hcell 0 (by omega))
      subst hspot
      have hil := (List.getElem?_eq_some_iff.1 hi).1
      have hw0 := hcell i hil
      have hadd : ∀ j, (⟨b, off, none⟩ : Addr).add j = ⟨b, off + j, none⟩ := fun j => by unfold Addr.add; split <;> simp_all
      have hblt := World.block_lt_of_cell? W _ hw0
      rw [hadd] at hblt hw0
      refine ⟨b, off, rfl, hblt, ?_⟩
      rw [hw0, List.getD, hi]
      rfl
    · cases hi

theorem plays_law (S : SaysH R) (d : Int) (AG A : Option Addr) (nG capG n cap : Nat) (gs : List (List Ed)) (zs : List Int) (w : World) (hg : GrpsU w AG nG capG gs) (hz : NumsU w A n cap zs) (b1 : -9223372036854775808 ≤ d) (b2 : d ≤ 9223372036854775807) :
    Calls Try.prog 3 #[.int .i64 d, .slice AG nG capG, .slice A n cap] w fun e w' => e = .returned (.bool true) ∧ Below w.heap.size w w' := by
  by_cases h : 60 < nG ∨ 150 < n
  · exact plays_out S d AG A nG capG n cap w h (by have h1 := hg.2.1; have h2 := hg.2.2.1; unfold maxLen at h2; omega) (by have h1 := hz.2.1; have h2 := hz.2.2.1; unfold maxLen at h2; omega) b1 b2
  · exact plays_in S d AG A nG capG n cap gs zs w hg hz (by omega) (by omega) b1 b2

set_option maxRecDepth 100000 in
theorem plays_lifted (S : SaysH R) (os : Os) (started : os.Started) (H : Type) (enc : TypeId × Value → H) :
    ReturnsInHanded {} Try.checked os 3 .any (Rows.historyPlaysSpec.pre6 enc Try.prog Try.f3 Rows.historyPlaysRow.domain false) (Rows.historyPlaysSpec.post enc Try.prog Try.f3 false true false false) := by
  refine returnsInHanded_of_change (C := Try.checked) Try.own started (by kernel_rfl) Try.func3
    (ChangeSpec.witness6 (enc := enc) (C := Try.checked) false ⟨#[], #[.int .i64 0, .slice none 0 0, .slice none 0 0], []⟩ 8 (by kernel_rfl) (by kernel_rfl) (by kernel_rfl) (by kernel_rfl)) ?_
  intro W base args ds gs before hval0 hW _ _
  have hval : ∀ (j : Nat) t v, Try.f3.params[j]? = some t → args[j]? = some v → Value.okWide Try.prog W .any base t v := hval0
  have hW' := hW
  obtain ⟨p, q, hA0, hV, rfl, _, _⟩ := hW
  have hA : DataW.TrodAll enc Try.prog W 0 (fun _ => true) true Try.f3.params.toList args.toList ds p := hA0
  rw [Try.params3] at hA hval
  obtain ⟨v0, v1, v2, d0, d1, d2, p0, p1, p2, rfl, rfl, rfl, h0, h1, h2⟩ := trodAll_three hA
  obtain ⟨rfl, rfl⟩ := trodVars_none hV
  obtain ⟨x, rfl, rfl, rfl, wx⟩ := open_int Try.underlying3 (hval 0 /-t-/3 v0 rfl rfl) h0
  obtain ⟨A1, n1, cap1, gs1, rfl, hg1⟩ := open_grps (hval 1 /-t-/22 v1 rfl rfl) h1
  obtain ⟨A2, n2, cap2, zs2, rfl, hz2⟩ := open_nums (hval 2 /-t-/23 v2 rfl rfl) h2
  clear hA0 hval0
  have hlt1 : ∀ x ∈ p1, x.block < W.heap.size := fun x hx => by simpa using hW'.lt x (by simp [hx])
  have hlt2 : ∀ x ∈ p2, x.block < W.heap.size := fun x hx => by simpa using hW'.lt x (by simp [hx])
  obtain ⟨x1, x2⟩ := bounds_i64 wx
  refine (plays_law S x A1 A2 n1 cap1 n2 cap2 gs1 zs2 W hg1 hz2 x1 x2).mono ?_
  rintro e W' ⟨rfl, bel⟩
  have harg1 : DataW.Trod enc Try.prog W' 0 (fun b => decide (b < W.heap.size)) true /-t-/22 (.slice A1 n1 cap1) d1 p1 :=
    Below.trod Try.laidOut (by kernel_rfl) (of_decide_eq_true (by kernel_rfl)) h1 bel hlt1
  have harg2 : DataW.Trod enc Try.prog W' 0 (fun b => decide (b < W.heap.size)) true /-t-/23 (.slice A2 n2 cap2) d2 p2 :=
    Below.trod Try.laidOut (by kernel_rfl) (of_decide_eq_true (by kernel_rfl)) h2 bel hlt2
  have e1 : Rows.historyPlaysSpec.fn H ([.lit (.int .i64 x), d1, d2] ++ []) = { results := [.lit (.bool true)], args := [.lit (.int .i64 x), d1, d2] } := rfl
  refine ⟨_, rfl, _, _, _, [], [] ++ (p1 ++ p2), [], hW', ?_, ?_, ?_, bel.frame _, fun h => by cases h⟩
  · rw [e1]; exact trodAll_mk1 (shut_bool Try.underlying4 _)
  · rw [e1]; exact trodAll_mk3 (shut_int Try.underlying3 wx) harg1 harg2
  · rw [e1]; rfl
theorem plays_row (S : SaysH R) : Rows.HistoryPlaysSaid :=
  OpenClaim.holds_of_wide 3 Try.f3 rfl rfl rfl rfl rfl rfl rfl ⟨rfl, rfl, rfl, rfl, rfl⟩ rfl rfl rfl rfl rfl (by kernel_rfl) Try.func3 (by kernel_rfl)
    (of_decide_eq_true (by kernel_rfl)) (by unfold Func.isWrapper; rw [if_neg (of_decide_eq_false (by kernel_rfl))]; exact ⟨rfl, rfl⟩)
    (fun os started H enc _ => plays_lifted S os started H enc)
end Go.Proofs.Ytibccdbmdajijaa
