/- For every input: DistEven returns true and leaves its arguments as they were. Conditions: the row's own. -/
import Derived.Test.YtbghfbhchmoddaaMDOpenQ
import Derived.Test.YtbghfbhchmoddaaMDLawEven
namespace Go.Proofs.Ytbghfbhchmoddaa
open Go Go.ChangeShapes Go.WideShapes Go.ChangeAt Go.RowKit Go.Lib

set_option maxRecDepth 100000 in
theorem disteven_lifted (os : Os) (started : os.Started) (H : Type) (enc : TypeId × Value → H) :
    ReturnsInHanded {} Try.checked os 4 .any (Rows.distEvenSpec.pre6 enc Try.prog Try.f4 Rows.distEvenRow.domain false) (Rows.distEvenSpec.post enc Try.prog Try.f4 false true false false) := by
  refine returnsInHanded_of_change_sized (C := Try.checked) Try.own started (by kernel_rfl) Try.func4
    (ChangeSpec.witness6 (enc := enc) (C := Try.checked) false ⟨#[], #[.slice none 0 0, .slice none 0 0, .slice none 0 0], []⟩ 8 (by kernel_rfl) (by kernel_rfl) (by kernel_rfl) (by kernel_rfl)) ?_
  intro W base args ds gs before hval0 hW _ hsz0 _
  have hval : ∀ (j : Nat) t v, Try.f4.params[j]? = some t → args[j]? = some v → Value.okWide Try.prog W .any base t v := hval0
  have hW' := hW
  obtain ⟨p, q, hA0, hV, rfl, _, _⟩ := hW
  have hA : DataW.TrodAll enc Try.prog W 0 (fun _ => true) true Try.f4.params.toList args.toList ds p := hA0
  have hsz : (DataW.weightsEach Try.prog (Try.f4.params.toList ++ Rows.distEvenSpec.plain.varTypes Try.prog) (ds ++ gs)).all (· ≤ reachBytes) = true := hsz0
  rw [Try.params4] at hA hval hsz
  obtain ⟨v0, v1, v2, d0, d1, d2, p0, p1, p2, rfl, rfl, rfl, h0, h1, h2⟩ := trodAll_three hA
  obtain ⟨rfl, rfl⟩ := trodVars_none hV
  obtain ⟨l0, hl0, hd0⟩ := open_numsQ (hval 0 22 v0 rfl rfl) h0
  have hlt0 : ∀ x ∈ p0, x.block < W.heap.size := fun x hx => by simpa using hW'.lt x (by simp [hx])
  obtain ⟨l1, hl1, hd1⟩ := open_numsQ (hval 1 22 v1 rfl rfl) h1
  have hlt1 : ∀ x ∈ p1, x.block < W.heap.size := fun x hx => by simpa using hW'.lt x (by simp [hx])
  obtain ⟨l2, hl2, hd2⟩ := open_numsQ (hval 2 22 v2 rfl rfl) h2
  have hlt2 : ∀ x ∈ p2, x.block < W.heap.size := fun x hx => by simpa using hW'.lt x (by simp [hx])
  have z0 : l0.length ≤ 100000000000000 := by
    rcases hd0 with ⟨-, e⟩ | ⟨el, sp, rfl, he⟩
    · rw [e]; simp
    · have := sized_slice hsz (j := 0) (t := 22) (e := 3) rfl rfl Try.underlying22
      rw [Try.bytes8] at this
      simp only [reachBytes] at this
      omega
  have z1 : l1.length ≤ 100000000000000 := by
    rcases hd1 with ⟨-, e⟩ | ⟨el, sp, rfl, he⟩
    · rw [e]; simp
    · have := sized_slice hsz (j := 1) (t := 22) (e := 3) rfl rfl Try.underlying22
      rw [Try.bytes8] at this
      simp only [reachBytes] at this
      omega
  have z2 : l2.length ≤ 100000000000000 := by
    rcases hd2 with ⟨-, e⟩ | ⟨el, sp, rfl, he⟩
    · rw [e]; simp
    · have := sized_slice hsz (j := 2) (t := 22) (e := 3) rfl rfl Try.underlying22
      rw [Try.bytes8] at this
      simp only [reachBytes] at this
      omega
  clear hA0 hval0 hsz0
  refine (even_law W v0 v1 v2 l0 l1 l2 hl0 hl1 hl2 z0 z1 z2).mono ?_
  rintro e W' ⟨rfl, bel⟩
  have harg0 : DataW.Trod enc Try.prog W' 0 (fun b => decide (b < W.heap.size)) true 22 v0 d0 p0 :=
    Below.trod laid15 (by kernel_rfl) (of_decide_eq_true (by kernel_rfl)) h0 bel hlt0
  have harg1 : DataW.Trod enc Try.prog W' 0 (fun b => decide (b < W.heap.size)) true 22 v1 d1 p1 :=
    Below.trod laid15 (by kernel_rfl) (of_decide_eq_true (by kernel_rfl)) h1 bel hlt1
  have harg2 : DataW.Trod enc Try.prog W' 0 (fun b => decide (b < W.heap.size)) true 22 v2 d2 p2 :=
    Below.trod laid15 (by kernel_rfl) (of_decide_eq_true (by kernel_rfl)) h2 bel hlt2
  have e1 : Rows.distEvenSpec.fn H ([d0, d1, d2] ++ []) = { results := [.lit (.bool true)], args := [d0, d1, d2] } := rfl
  refine ⟨_, rfl, _, _, _, [], p0 ++ (p1 ++ p2), [], hW', ?_, ?_, ?_, bel.frame _, fun h => by cases h⟩
  · rw [e1]; exact trodAll_mk1 (shut_bool Try.underlying4 _)
  · rw [e1]; exact trodAll_mk3 harg0 harg1 harg2
  · rw [e1]; rfl

theorem disteven_holds : Rows.DistEvenSaid :=
  OpenClaim.holds_of_wide 4 Try.f4 rfl rfl rfl rfl rfl rfl rfl ⟨rfl, rfl, rfl, rfl, rfl⟩ rfl rfl rfl rfl rfl (by kernel_rfl) Try.func4 (by kernel_rfl)
    (of_decide_eq_true (by kernel_rfl)) (by unfold Func.isWrapper; rw [if_neg (of_decide_eq_false (by kernel_rfl))]; exact ⟨rfl, rfl⟩)
    (fun os started H enc _ => disteven_lifted os started H enc)
end Go.Proofs.Ytbghfbhchmoddaa
