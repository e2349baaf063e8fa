/- For every input: DawgWays returns true and leaves its arguments as they were. Conditions: the row's own. -/
import Derived.Test.YtkabdieenijnlaaIOpen
import Derived.Test.YtkabdieenijnlaaILawWays
namespace Go.Proofs.Ytkabdieenijnlaa
open Go Go.ChangeShapes Go.WideShapes Go.ChangeAt Go.RowKit Go.Lib
theorem u8_of {n : Int} (h : (Lit.int .u8 n).wf = true) : ∃ c : UInt8, n = c.toNat := by
  have hb := bounds_u8 h
  refine ⟨UInt8.ofNat n.toNat, ?_⟩
  have he : ((UInt8.ofNat n.toNat).toNat : Int) = n := by simp; omega
  exact he.symm

set_option maxRecDepth 100000 in
theorem dawgways_lifted (os : Os) (started : os.Started) (H : Type) (enc : TypeId × Value → H) :
    ReturnsInHanded {} Try.checked os 5 .any (Rows.dawgWaysSpec.pre6 enc Try.prog Try.f5 Rows.dawgWaysRow.domain false) (Rows.dawgWaysSpec.post enc Try.prog Try.f5 false true false false) := by
  refine returnsInHanded_of_change (C := Try.checked) Try.own started (by kernel_rfl) Try.func5
    (ChangeSpec.witness6 (enc := enc) (C := Try.checked) false ⟨#[], #[.slice none 0 0, .int .i64 0, .int .u8 0], []⟩ 8 (by kernel_rfl) (by kernel_rfl) (by kernel_rfl) (by kernel_rfl)) ?_
  intro W base args ds gs before hval0 hW _ _
  have hval : ∀ (j : Nat) t v, Try.f5.params[j]? = some t → args[j]? = some v → Value.okWide Try.prog W .any base t v := hval0
  have hW' := hW
  obtain ⟨p, q, hA0, hV, rfl, _, _⟩ := hW
  have hA : DataW.TrodAll enc Try.prog W 0 (fun _ => true) true Try.f5.params.toList args.toList ds p := hA0
  rw [Try.params5] at hA hval
  obtain ⟨v0, v1, v2, d0, d1, d2, p0, p1, p2, rfl, rfl, rfl, h0, h1, h2⟩ := trodAll_three hA
  obtain ⟨rfl, rfl⟩ := trodVars_none hV
  obtain ⟨l0, hl0⟩ := open_nums15 (hval 0 38 v0 rfl rfl) h0
  have hlt0 : ∀ x ∈ p0, x.block < W.heap.size := fun x hx => by simpa using hW'.lt x (by simp [hx])
  obtain ⟨y1, rfl, rfl, rfl, wy1⟩ := open_int Try.underlying3 (hval 1 3 v1 rfl rfl) h1
  have b1 := bounds_i64 wy1
  obtain ⟨y2, rfl, rfl, rfl, wy2⟩ := open_int Try.underlying5 (hval 2 5 v2 rfl rfl) h2
  obtain ⟨c2, rfl⟩ : ∃ c : UInt8, y2 = c.toNat := u8_of wy2
  clear hA0 hval0
  refine (ways_law W v0 l0 y1 c2 hl0).mono ?_
  rintro e W' ⟨rfl, bel⟩
  have harg0 : DataW.Trod enc Try.prog W' 0 (fun b => decide (b < W.heap.size)) true 38 v0 d0 p0 :=
    Below.trod laid15 (by kernel_rfl) (of_decide_eq_true (by kernel_rfl)) h0 bel hlt0
  have e1 : Rows.dawgWaysSpec.fn H ([d0, .lit (.int .i64 y1), .lit (.int .u8 c2.toNat)] ++ []) = { results := [.lit (.bool true)], args := [d0, .lit (.int .i64 y1), .lit (.int .u8 c2.toNat)] } := rfl
  refine ⟨_, rfl, _, _, _, [], p0 ++ ([] ++ []), [], hW', ?_, ?_, ?_, bel.frame _, fun h => by cases h⟩
  · rw [e1]; exact trodAll_mk1 (shut_bool Try.underlying4 _)
  · rw [e1]; exact trodAll_mk3 harg0 (shut_int Try.underlying3 wy1) (shut_int Try.underlying5 (wf8 c2))
  · rw [e1]; rfl

theorem dawgways_holds : Rows.DawgWaysSaid :=
  OpenClaim.holds_of_wide 5 Try.f5 rfl rfl rfl rfl rfl rfl rfl ⟨rfl, rfl, rfl, rfl, rfl⟩ rfl rfl rfl rfl rfl (by kernel_rfl) Try.func5 (by kernel_rfl)
    (of_decide_eq_true (by kernel_rfl)) (by unfold Func.isWrapper; rw [if_neg (of_decide_eq_false (by kernel_rfl))]; exact ⟨rfl, rfl⟩)
    (fun os started H enc _ => dawgways_lifted os started H enc)
end Go.Proofs.Ytkabdieenijnlaa
