/- The row of EditDoes out of what is asked of a buffer's and edit's calls. Conditions: the row's own. -/
import Derived.Test.YtfdnlbeancdajaaERowP
import Derived.Test.YtfdnlbeancdajaaEDoes
namespace Go.Proofs.Ytfdnlbeancdajaa
open Go Go.ChangeShapes Go.WideShapes Go.ChangeAt Go.RowKit

set_option maxRecDepth 100000 in
theorem does_lifted {R : Nat → (Nat → Prop) → World → Addr → ByteArray → Nat → Nat → Nat → Prop} (S : SaysP) (B : SaysB R) (os : Os) (started : os.Started) (H : Type) (enc : TypeId × Value → H) :
    ReturnsInHanded {} Try.checked os 4 .any (Rows.editDoesSpec.pre6 enc Try.prog Try.f4 Rows.editDoesRow.domain false) (Rows.editDoesSpec.post enc Try.prog Try.f4 false true false false) := by
  refine returnsInHanded_of_change_sized (C := Try.checked) Try.own started (by kernel_rfl) Try.func4
    (ChangeSpec.witness6 (enc := enc) (C := Try.checked) false ⟨#[], #[.string ⟨#[]⟩, .int .i64 0, .int .i64 0, .int .i64 0, .string ⟨#[]⟩], []⟩ 8 (by kernel_rfl) (by kernel_rfl) (by kernel_rfl) (by kernel_rfl)) ?_
  intro W base args ds gs before hval0 hW _ hsz0 _
  have hval : ∀ (j : Nat) t v, Try.f4.params[j]? = some t → args[j]? = some v → Value.okWide Try.prog W .any base t v := hval0
  have hW' := hW
  obtain ⟨p, q, hA0, hV, rfl, _, _⟩ := hW
  have hA : DataW.TrodAll enc Try.prog W 0 (fun _ => true) true Try.f4.params.toList args.toList ds p := hA0
  have hsz : (DataW.weightsEach Try.prog (Try.f4.params.toList ++ Rows.editDoesSpec.plain.varTypes Try.prog) (ds ++ gs)).all (· ≤ reachBytes) = true := hsz0
  rw [Try.params4] at hA hval hsz
  obtain ⟨v0, v1, v2, v3, v4, d0, d1, d2, d3, d4, p0, p1, p2, p3, p4, rfl, rfl, rfl, h0, h1, h2, h3, h4⟩ := trodAll_five hA
  obtain ⟨rfl, rfl⟩ := trodVars_none hV
  obtain ⟨s, rfl, rfl, rfl, ws⟩ := Go.ChangeMaps.open_string Try.underlying9 (hval 0 /-t-/9 v0 rfl rfl) h0
  obtain ⟨x, rfl, rfl, rfl, wx⟩ := open_int Try.underlying3 (hval 1 /-t-/3 v1 rfl rfl) h1
  obtain ⟨y, rfl, rfl, rfl, wy⟩ := open_int Try.underlying3 (hval 2 /-t-/3 v2 rfl rfl) h2
  obtain ⟨z, rfl, rfl, rfl, wz⟩ := open_int Try.underlying3 (hval 3 /-t-/3 v3 rfl rfl) h3
  obtain ⟨r, rfl, rfl, rfl, wr⟩ := Go.ChangeMaps.open_string Try.underlying9 (hval 4 /-t-/9 v4 rfl rfl) h4
  clear hA0 hval0 hsz0
  have z0 := sized_string hsz (j := 0) (t := /-t-/9) rfl rfl
  have z1 := sized_string hsz (j := 4) (t := /-t-/9) rfl rfl
  simp only [Array.length_toList, reachBytes] at z0 z1
  have bx := bounds_i64 wx
  have b_y := bounds_i64 wy
  have bz := bounds_i64 wz
  refine (does_law S B s r x y z W (by show s.data.size ≤ _; omega) (by show r.data.size ≤ _; omega) bx.1 bx.2 b_y.1 b_y.2 bz.1 bz.2).mono ?_
  rintro e W' ⟨rfl, bel⟩
  have e1 : Rows.editDoesSpec.fn H ([.lit (.string s.data.toList), .lit (.int .i64 x), .lit (.int .i64 y), .lit (.int .i64 z), .lit (.string r.data.toList)] ++ []) = { results := [.lit (.bool true)], args := [.lit (.string s.data.toList), .lit (.int .i64 x), .lit (.int .i64 y), .lit (.int .i64 z), .lit (.string r.data.toList)] } := rfl
  refine ⟨_, rfl, _, _, _, [], [], [], hW', ?_, ?_, ?_, bel.frame _, fun h => by cases h⟩
  · rw [e1]; exact trodAll_mk1 (shut_bool Try.underlying4 _)
  · rw [e1]; exact trodAll_mk5 (Go.ChangeMaps.shut_string Try.underlying9 ws) (shut_int Try.underlying3 wx) (shut_int Try.underlying3 wy) (shut_int Try.underlying3 wz) (Go.ChangeMaps.shut_string Try.underlying9 wr)
  · rw [e1]; rfl
theorem does_row {R : Nat → (Nat → Prop) → World → Addr → ByteArray → Nat → Nat → Nat → Prop} (S : SaysP) (B : SaysB R) : Rows.EditDoesSaid :=
  OpenClaim.holds_of_wide 4 Try.f4 rfl rfl rfl rfl rfl rfl rfl ⟨rfl, rfl, rfl, rfl, rfl⟩ rfl rfl rfl rfl rfl (by kernel_rfl) Try.func4 (by kernel_rfl)
    (of_decide_eq_true (by kernel_rfl)) (by unfold Func.isWrapper; rw [if_neg (of_decide_eq_false (by kernel_rfl))]; exact ⟨rfl, rfl⟩)
    (fun os started H enc _ => does_lifted S B os started H enc)
end Go.Proofs.Ytfdnlbeancdajaa
