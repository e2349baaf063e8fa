/- The rows of EditApplies and EditKnown out of what is asked of Apply and Inverse; an argument that is an edit. Conditions: the rows' own. -/
import Derived.Test.YtfdnlbeancdajaaEKnown
import Derived.Test.YtfdnlbeancdajaaRows
import Derived.ProofKit
import Derived.Deep.Slices
import Derived.Deep.Strs
import Derived.Carry
import Derived.SliceStrings
import Derived.OpenShut
import Derived.SizedLaws
namespace Go.Proofs.Ytfdnlbeancdajaa
open Go Go.ChangeShapes Go.WideShapes Go.ChangeAt Go.RowKit

theorem Try.own : ownKnob Try.prog.godebug = none := by kernel_rfl
theorem Try.laidOut : laidOutB Try.prog = true := by kernel_rfl
theorem Try.cells23 : Try.prog.cellsOf /-t-/23 = 3 := by kernel_rfl
theorem Try.cells3 : Try.prog.cellsOf /-t-/3 = 1 := by kernel_rfl
theorem Try.cells9 : Try.prog.cellsOf /-t-/9 = 1 := by kernel_rfl

section
variable {H : Type} {enc : TypeId × Value → H} {P : Program} {w : World} {base : Nat} {spare : Nat → Bool} {held : Bool}
theorem trodAll_five {t t' t'' t3 t4 : TypeId} {args : Array Value} {ds : List (DataW H)} {ps : List MemPlace} (h : DataW.TrodAll enc P w base spare held [t, t', t'', t3, t4] args.toList ds ps) :
    ∃ v v' v'' v3 v4 d d' d'' d3 d4 p p' p'' p3 p4, args = #[v, v', v'', v3, v4] ∧ ds = [d, d', d'', d3, d4] ∧ ps = p ++ p' ++ p'' ++ p3 ++ p4 ∧ DataW.Trod enc P w base spare held t v d p ∧ DataW.Trod enc P w base spare held t' v' d' p' ∧ DataW.Trod enc P w base spare held t'' v'' d'' p'' ∧ DataW.Trod enc P w base spare held t3 v3 d3 p3 ∧ DataW.Trod enc P w base spare held t4 v4 d4 p4 := by
  obtain ⟨v, vs, d, ds', p, q, hargs, rfl, rfl, hd, hrest⟩ := trodAll_cons h
  obtain ⟨v', vs', d', ds'', p', q', rfl, rfl, rfl, hd', hrest'⟩ := trodAll_cons hrest
  obtain ⟨v'', vs'', d'', ds''', p'', q'', rfl, rfl, rfl, hd'', hrest''⟩ := trodAll_cons hrest'
  obtain ⟨v3, vs3, d3, ds3, p3, q3, rfl, rfl, rfl, hd3, hrest3⟩ := trodAll_cons hrest''
  obtain ⟨v4, vs4, d4, ds4, p4, q4, rfl, rfl, rfl, hd4, hrest4⟩ := trodAll_cons hrest3
  obtain ⟨rfl, rfl, rfl⟩ := trodAll_nil hrest4
  exact ⟨v, v', v'', v3, v4, d, d', d'', d3, d4, p, p', p'', p3, p4, by cases args; simp_all, rfl, by simp, hd, hd', hd'', hd3, hd4⟩
theorem trodAll_mk5 {t t' t'' t3 t4 : TypeId} {v v' v'' v3 v4 : Value} {d d' d'' d3 d4 : DataW H} {p p' p'' p3 p4 : List MemPlace} (h : DataW.Trod enc P w base spare held t v d p) (h' : DataW.Trod enc P w base spare held t' v' d' p')
    (h'' : DataW.Trod enc P w base spare held t'' v'' d'' p'') (h3 : DataW.Trod enc P w base spare held t3 v3 d3 p3) (h4 : DataW.Trod enc P w base spare held t4 v4 d4 p4) :
    DataW.TrodAll enc P w base spare held [t, t', t'', t3, t4] [v, v', v'', v3, v4] [d, d', d'', d3, d4] (p ++ (p' ++ (p'' ++ (p3 ++ p4)))) := ⟨p, p' ++ (p'' ++ (p3 ++ p4)), h, trodAll_mk4 h' h'' h3 h4, rfl⟩
end

set_option maxRecDepth 100000 in
theorem open_edit {H : Type} {enc : TypeId × Value → H} {W : World} {base : Nat} {v : Value} {d : DataW H} {ps : List MemPlace}
    (hval : Value.okWide Try.prog W .any base /-t-/23 v) (h : DataW.Trod enc Try.prog W 0 (fun _ => true) true /-t-/23 v d ps) :
    ∃ (k : Int) (a b : ByteArray), v = EdV k a b ∧ d = .agg [.lit (.int .i64 k), .lit (.string a.data.toList), .lit (.string b.data.toList)] ∧ (-9223372036854775808 ≤ k ∧ k ≤ 9223372036854775807) := by
  obtain ⟨cs, rfl, hsz⟩ := okWide_struct Try.underlying23 hval
  rw [Try.cells23] at hsz
  obtain ⟨fuel, hf⟩ := h
  obtain ⟨cl⟩ := cs
  have hcl : (Value.agg ⟨cl⟩).cells.toList = cl := by simp [Value.cells]
  rw [hcl] at hf
  obtain ⟨xs, k', _, hd, _, hxl, hfd⟩ := DataW.trod_struct Try.underlying23 hf
  match cl, hsz, xs, hxl with
  | [x0, x1, x2], _, [y0, y1, y2], _ =>
    have g0 := hfd 0 _ rfl
    have g1 := hfd 1 _ rfl
    have g2 := hfd 2 _ rfl
    simp [Try.cells3, Try.cells9] at g0 g1 g2
    obtain ⟨n0, e0, q0, u0⟩ := DataW.trod_int Try.underlying3 g0
    obtain ⟨s1, e1, q1, _⟩ := DataW.trod_string Try.underlying9 g1
    obtain ⟨s2, e2, q2, _⟩ := DataW.trod_string Try.underlying9 g2
    simp at e0 e1 e2
    subst e0 e1 e2 q0 q1 q2
    exact ⟨n0, s1, s2, rfl, (Prod.mk.inj hd).1, bounds_i64 u0⟩

set_option maxRecDepth 100000 in
theorem applies_lifted (S : SaysP) (os : Os) (started : os.Started) (H : Type) (enc : TypeId × Value → H) :
    ReturnsInHanded {} Try.checked os 3 .any (Rows.editAppliesSpec.pre6 enc Try.prog Try.f3 Rows.editAppliesRow.domain false) (Rows.editAppliesSpec.post enc Try.prog Try.f3 false true false false) := by
  refine returnsInHanded_of_change_sized (C := Try.checked) Try.own started (by kernel_rfl) Try.func3
    (ChangeSpec.witness6 (enc := enc) (C := Try.checked) false ⟨#[], #[.string ⟨#[]⟩, .agg #[.int .i64 0, .string ⟨#[]⟩, .string ⟨#[]⟩]], []⟩ 8 (by kernel_rfl) (by kernel_rfl) (by kernel_rfl) (by kernel_rfl)) ?_
  intro W base args ds gs before hval0 hW _ hsz0 _
  have hval : ∀ (j : Nat) t v, Try.f3.params[j]? = some t → args[j]? = some v → Value.okWide Try.prog W .any base t v := hval0
  have hW' := hW
  obtain ⟨p, q, hA0, hV, rfl, _, _⟩ := hW
  have hA : DataW.TrodAll enc Try.prog W 0 (fun _ => true) true Try.f3.params.toList args.toList ds p := hA0
  have hsz : (DataW.weightsEach Try.prog (Try.f3.params.toList ++ Rows.editAppliesSpec.plain.varTypes Try.prog) (ds ++ gs)).all (· ≤ reachBytes) = true := hsz0
  rw [Try.params3] at hA hval hsz
  obtain ⟨v0, v1, d0, d1, p0, p1, rfl, rfl, rfl, h0, h1⟩ := trodAll_two hA
  obtain ⟨rfl, rfl⟩ := trodVars_none hV
  obtain ⟨s, rfl, rfl, rfl, ws⟩ := Go.ChangeMaps.open_string Try.underlying9 (hval 0 /-t-/9 v0 rfl rfl) h0
  obtain ⟨k, a, b, rfl, rfl, k1, k2⟩ := open_edit (hval 1 /-t-/23 v1 rfl rfl) h1
  clear hA0 hval0 hsz0
  have hlt : ∀ x ∈ p1, x.block < W.heap.size := fun x hx => by simpa using hW'.lt x (by simp [hx])
  have z0 := sized_string hsz (j := 0) (t := /-t-/9) rfl rfl
  have hz : ∀ n ∈ DataW.weights Try.prog /-t-/23 (.agg [.lit (.int .i64 k), .lit (.string a.data.toList), .lit (.string b.data.toList)] : DataW H), n ≤ reachBytes := fun n hn => by
    have := List.all_eq_true.1 hsz n (DataW.weights_mem_each (j := 1) rfl rfl n hn)
    simpa using this
  have z1 := hz a.data.toList.length (by simp [DataW.weights, DataW.weightsEach, Try.underlying23])
  have z2 := hz b.data.toList.length (by simp [DataW.weights, DataW.weightsEach, Try.underlying23])
  simp only [Array.length_toList, reachBytes] at z0 z1 z2
  refine (applies_law S s a b k W (by show s.data.size ≤ _; omega) (by show a.data.size ≤ _; omega) (by show b.data.size ≤ _; omega) k1 k2).mono ?_
  rintro e W' ⟨rfl, bel⟩
  have harg : DataW.Trod enc Try.prog W' 0 (fun b => decide (b < W.heap.size)) true /-t-/23 (EdV k a b) (.agg [.lit (.int .i64 k), .lit (.string a.data.toList), .lit (.string b.data.toList)]) p1 :=
    Below.trod Try.laidOut (by kernel_rfl) (of_decide_eq_true (by kernel_rfl)) h1 bel hlt
  have e1 : Rows.editAppliesSpec.fn H ([.lit (.string s.data.toList), .agg [.lit (.int .i64 k), .lit (.string a.data.toList), .lit (.string b.data.toList)]] ++ []) = { results := [.lit (.bool true)], args := [.lit (.string s.data.toList), .agg [.lit (.int .i64 k), .lit (.string a.data.toList), .lit (.string b.data.toList)]] } := rfl
  refine ⟨_, rfl, _, _, _, [], [] ++ p1, [], hW', ?_, ?_, ?_, bel.frame _, fun h => by cases h⟩
  · rw [e1]; exact trodAll_mk1 (shut_bool Try.underlying4 _)
  · rw [e1]; exact trodAll_mk2 (Go.ChangeMaps.shut_string Try.underlying9 ws) harg
  · rw [e1]; rfl
theorem applies_row (S : SaysP) : Rows.EditAppliesSaid :=
  OpenClaim.holds_of_wide 3 Try.f3 rfl rfl rfl rfl rfl rfl rfl ⟨rfl, rfl, rfl, rfl, rfl⟩ rfl rfl rfl rfl rfl (by kernel_rfl) Try.func3 (by kernel_rfl)
    (of_decide_eq_true (by kernel_rfl)) (by unfold Func.isWrapper; rw [if_neg (of_decide_eq_false (by kernel_rfl))]; exact ⟨rfl, rfl⟩)
    (fun os started H enc _ => applies_lifted S os started H enc)

set_option maxRecDepth 100000 in
theorem known_lifted (S : SaysP) (os : Os) (started : os.Started) (H : Type) (enc : TypeId × Value → H) :
    ReturnsInHanded {} Try.checked os 6 .any (Rows.editKnownSpec.pre6 enc Try.prog Try.f6 Rows.editKnownRow.domain false) (Rows.editKnownSpec.post enc Try.prog Try.f6 false true false false) := by
  refine returnsInHanded_of_change_sized (C := Try.checked) Try.own started (by kernel_rfl) Try.func6
    (ChangeSpec.witness6 (enc := enc) (C := Try.checked) false ⟨#[], #[.string ⟨#[]⟩, .string ⟨#[]⟩, .string ⟨#[]⟩, .string ⟨#[]⟩, .int .i64 0], []⟩ 8 (by kernel_rfl) (by kernel_rfl) (by kernel_rfl) (by kernel_rfl)) ?_
  intro W base args ds gs before hval0 hW _ hsz0 _
  have hval : ∀ (j : Nat) t v, Try.f6.params[j]? = some t → args[j]? = some v → Value.okWide Try.prog W .any base t v := hval0
  have hW' := hW
  obtain ⟨p, q, hA0, hV, rfl, _, _⟩ := hW
  have hA : DataW.TrodAll enc Try.prog W 0 (fun _ => true) true Try.f6.params.toList args.toList ds p := hA0
  have hsz : (DataW.weightsEach Try.prog (Try.f6.params.toList ++ Rows.editKnownSpec.plain.varTypes Try.prog) (ds ++ gs)).all (· ≤ reachBytes) = true := hsz0
  rw [Try.params6] at hA hval hsz
  obtain ⟨v0, v1, v2, v3, v4, d0, d1, d2, d3, d4, p0, p1, p2, p3, p4, rfl, rfl, rfl, h0, h1, h2, h3, h4⟩ := trodAll_five hA
  obtain ⟨rfl, rfl⟩ := trodVars_none hV
  obtain ⟨a, rfl, rfl, rfl, wa⟩ := Go.ChangeMaps.open_string Try.underlying9 (hval 0 /-t-/9 v0 rfl rfl) h0
  obtain ⟨b, rfl, rfl, rfl, wb⟩ := Go.ChangeMaps.open_string Try.underlying9 (hval 1 /-t-/9 v1 rfl rfl) h1
  obtain ⟨c, rfl, rfl, rfl, wc⟩ := Go.ChangeMaps.open_string Try.underlying9 (hval 2 /-t-/9 v2 rfl rfl) h2
  obtain ⟨i, rfl, rfl, rfl, wi⟩ := Go.ChangeMaps.open_string Try.underlying9 (hval 3 /-t-/9 v3 rfl rfl) h3
  obtain ⟨x, rfl, rfl, rfl, wx⟩ := open_int Try.underlying3 (hval 4 /-t-/3 v4 rfl rfl) h4
  clear hA0 hval0 hsz0
  have z0 := sized_string hsz (j := 0) (t := /-t-/9) rfl rfl
  have z1 := sized_string hsz (j := 1) (t := /-t-/9) rfl rfl
  have z2 := sized_string hsz (j := 2) (t := /-t-/9) rfl rfl
  have z3 := sized_string hsz (j := 3) (t := /-t-/9) rfl rfl
  simp only [Array.length_toList, reachBytes] at z0 z1 z2 z3
  refine (known_law S a b c i x W (by show a.data.size ≤ _; omega) (by show b.data.size ≤ _; omega) (by show c.data.size ≤ _; omega) (by show i.data.size ≤ _; omega)).mono ?_
  rintro e W' ⟨rfl, bel⟩
  have e1 : Rows.editKnownSpec.fn H ([.lit (.string a.data.toList), .lit (.string b.data.toList), .lit (.string c.data.toList), .lit (.string i.data.toList), .lit (.int .i64 x)] ++ []) = { results := [.lit (.bool true)], args := [.lit (.string a.data.toList), .lit (.string b.data.toList), .lit (.string c.data.toList), .lit (.string i.data.toList), .lit (.int .i64 x)] } := rfl
  refine ⟨_, rfl, _, _, _, [], [], [], hW', ?_, ?_, ?_, bel.frame _, fun h => by cases h⟩
  · rw [e1]; exact trodAll_mk1 (shut_bool Try.underlying4 _)
  · rw [e1]; exact trodAll_mk5 (Go.ChangeMaps.shut_string Try.underlying9 wa) (Go.ChangeMaps.shut_string Try.underlying9 wb) (Go.ChangeMaps.shut_string Try.underlying9 wc) (Go.ChangeMaps.shut_string Try.underlying9 wi) (shut_int Try.underlying3 wx)
  · rw [e1]; rfl
theorem known_row (S : SaysP) : Rows.EditKnownSaid :=
  OpenClaim.holds_of_wide 6 Try.f6 rfl rfl rfl rfl rfl rfl rfl ⟨rfl, rfl, rfl, rfl, rfl⟩ rfl rfl rfl rfl rfl (by kernel_rfl) Try.func6 (by kernel_rfl)
    (of_decide_eq_true (by kernel_rfl)) (by unfold Func.isWrapper; rw [if_neg (of_decide_eq_false (by kernel_rfl))]; exact ⟨rfl, rfl⟩)
    (fun os started H enc _ => known_lifted S os started H enc)
end Go.Proofs.Ytfdnlbeancdajaa
