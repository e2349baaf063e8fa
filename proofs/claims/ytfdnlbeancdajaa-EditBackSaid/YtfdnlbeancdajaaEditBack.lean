/- EditBack: edits by numbers, done and undone, the last one first, leave the text as it was; one that does not stand there is refused. Conditions: none but the row's own. -/
import Derived.Test.YtfdnlbeancdajaaERowP
import Derived.Test.YtfdnlbeancdajaaEBack
import Derived.Test.YtfdnlbeancdajaaESays
namespace Go.Proofs.Ytfdnlbeancdajaa.Cl
open Go Go.ChangeShapes Go.WideShapes Go.ChangeAt Go.RowKit
variable {R : Nat → (Nat → Prop) → World → Addr → ByteArray → Nat → Nat → Nat → Prop}

theorem text_of (A : Option Addr) (n cap : Nat) (zs : List Int) (w : World) (h : NumsU w A n cap zs) : ∀ wx, Below w.heap.size w wx → Calls Try.prog 17 #[.slice A n cap] wx (Short 1000 wx) := by
  intro wx hx
  obtain ⟨h1, h2, h3, h4⟩ := h
  by_cases h0 : n = 0
  · subst h0
    exact text_none A cap wx
  · obtain ⟨z, hz0⟩ : ∃ z, zs[0]? = some z := ⟨_, List.getElem?_eq_getElem (by omega)⟩
    obtain ⟨b, off, rfl, hb, _⟩ := h4 0 z hz0
    refine text_some b off cap n zs wx h1 (Nat.lt_of_lt_of_le hb hx.size) h2 h3 (fun i z hi => ?_)
    obtain ⟨b', off', e, hb', hc⟩ := h4 i z hi
    cases e
    exact (hx.cell (p := ⟨b, off + i, none⟩) hb).trans hc
theorem back_law (S : SaysP) (B : SaysB R) (U : SaysUndo R) (A0 A : Option Addr) (n0 cap0 n cap : Nat) (zs0 zs : List Int) (off : Int) (w : World) (h0 : NumsU w A0 n0 cap0 zs0) (h : NumsU w A n cap zs) (b1 : -9223372036854775808 ≤ off) (b2 : off ≤ 9223372036854775807) :
    Calls Try.prog 5 #[.slice A0 n0 cap0, .slice A n cap, .int .i64 off] w fun e w' => e = .returned (.bool true) ∧ Below w.heap.size w w' := by
  by_cases hn : 40 < n
  · exact back_out S A0 A n0 cap0 n cap off w hn (by have h1 := h.2.1; have h2 := h.2.2.1; unfold maxLen at h2; omega)
  · exact back_in S B U A0 A n0 cap0 n cap zs off w (text_of A0 n0 cap0 zs0 w h0) h (by omega) b1 b2

set_option maxRecDepth 100000 in
theorem open_nums {H : Type} {enc : TypeId × Value → H} {W : World} {base : Nat} {v : Value} {d : DataW H} {ps : List MemPlace}
    (hval : Value.okWide Try.prog W .any base /-t-/40 v) (h : DataW.Trod enc Try.prog W 0 (fun _ => true) true /-t-/40 v d ps) :
    ∃ (A : Option Addr) (n cap : Nat) (zs : List Int), v = .slice A n cap ∧ NumsU W A n cap zs := by
  obtain ⟨A, n, cap, rfl⟩ := okWide_slice Try.underlying40 hval
  obtain ⟨fuel, hf⟩ := h
  rcases open_ints Try.underlying40 Try.underlying3 Try.cells3 hf with ⟨hcs, _⟩ | ⟨a, len, cap', zs, hcs, _, hl, hm, hz, _, hcell, _⟩
  · simp [Value.cells] at hcs
    obtain ⟨rfl, rfl, rfl⟩ := hcs
    exact ⟨none, 0, 0, [], rfl, rfl, Nat.le_refl _, Nat.zero_le _, fun i z hi => by simp at hi⟩
  · simp [Value.cells] at hcs
    obtain ⟨rfl, rfl, rfl⟩ := hcs
    simp only [if_true] at hz
    refine ⟨some a, n, cap, zs.take n, rfl, by rw [List.length_take]; omega, hl, hm, fun i z hi => ?_⟩
    rw [List.getElem?_take] at hi
    split at hi
    · rename_i hin
      obtain ⟨b, off, spot⟩ := a
      have hspot : spot = none := by simpa [Addr.add] using World.cell?_spot (hcell 0 (by omega))
      subst hspot
      have hil := (List.getElem?_eq_some_iff.1 hi).1
      have hw0 := hcell i hil
      have hadd : ∀ j, (⟨b, off, none⟩ : Addr).add j = ⟨b, off + j, none⟩ := fun j => by unfold Addr.add; split <;> simp_all
      have hblt := World.block_lt_of_cell? W _ hw0
      rw [hadd] at hblt hw0
      refine ⟨b, off, rfl, hblt, ?_⟩
      rw [hw0, List.getD, hi]
      rfl
    · cases hi

set_option maxRecDepth 100000 in
theorem back_lifted (S : SaysP) (B : SaysB R) (U : SaysUndo R) (os : Os) (started : os.Started) (H : Type) (enc : TypeId × Value → H) :
    ReturnsInHanded {} Try.checked os 5 .any (Rows.editBackSpec.pre6 enc Try.prog Try.f5 Rows.editBackRow.domain false) (Rows.editBackSpec.post enc Try.prog Try.f5 false true false false) := by
  refine returnsInHanded_of_change (C := Try.checked) Try.own started (by kernel_rfl) Try.func5
    (ChangeSpec.witness6 (enc := enc) (C := Try.checked) false ⟨#[], #[.slice none 0 0, .slice none 0 0, .int .i64 0], []⟩ 8 (by kernel_rfl) (by kernel_rfl) (by kernel_rfl) (by kernel_rfl)) ?_
  intro W base args ds gs before hval0 hW _ _
  have hval : ∀ (j : Nat) t v, Try.f5.params[j]? = some t → args[j]? = some v → Value.okWide Try.prog W .any base t v := hval0
  have hW' := hW
  obtain ⟨p, q, hA0, hV, rfl, _, _⟩ := hW
  have hA : DataW.TrodAll enc Try.prog W 0 (fun _ => true) true Try.f5.params.toList args.toList ds p := hA0
  rw [Try.params5] at hA hval
  obtain ⟨v1, v2, v3, d1, d2, d3, p1, p2, p3, rfl, rfl, rfl, h1, h2, h3⟩ := trodAll_three hA
  obtain ⟨rfl, rfl⟩ := trodVars_none hV
  obtain ⟨A1, n1, cap1, zs1, rfl, hz1⟩ := open_nums (hval 0 /-t-/40 v1 rfl rfl) h1
  obtain ⟨A2, n2, cap2, zs2, rfl, hz2⟩ := open_nums (hval 1 /-t-/40 v2 rfl rfl) h2
  obtain ⟨x, rfl, rfl, rfl, wx⟩ := open_int Try.underlying3 (hval 2 /-t-/3 v3 rfl rfl) h3
  clear hA0 hval0
  have hlt1 : ∀ x ∈ p1, x.block < W.heap.size := fun x hx => by simpa using hW'.lt x (by simp [hx])
  have hlt2 : ∀ x ∈ p2, x.block < W.heap.size := fun x hx => by simpa using hW'.lt x (by simp [hx])
  obtain ⟨x1, x2⟩ := bounds_i64 wx
  refine (back_law S B U A1 A2 n1 cap1 n2 cap2 zs1 zs2 x W hz1 hz2 x1 x2).mono ?_
  rintro e W' ⟨rfl, bel⟩
  have harg1 : DataW.Trod enc Try.prog W' 0 (fun b => decide (b < W.heap.size)) true /-t-/40 (.slice A1 n1 cap1) d1 p1 :=
    Below.trod Try.laidOut (by kernel_rfl) (of_decide_eq_true (by kernel_rfl)) h1 bel hlt1
  have harg2 : DataW.Trod enc Try.prog W' 0 (fun b => decide (b < W.heap.size)) true /-t-/40 (.slice A2 n2 cap2) d2 p2 :=
    Below.trod Try.laidOut (by kernel_rfl) (of_decide_eq_true (by kernel_rfl)) h2 bel hlt2
  have e1 : Rows.editBackSpec.fn H ([d1, d2, .lit (.int .i64 x)] ++ []) = { results := [.lit (.bool true)], args := [d1, d2, .lit (.int .i64 x)] } := rfl
  refine ⟨_, rfl, _, _, _, [], p1 ++ (p2 ++ []), [], hW', ?_, ?_, ?_, bel.frame _, fun h => by cases h⟩
  · rw [e1]; exact trodAll_mk1 (shut_bool Try.underlying4 _)
  · rw [e1]; exact trodAll_mk3 harg1 harg2 (shut_int Try.underlying3 wx)
  · rw [e1]; rfl
theorem back_row (S : SaysP) (B : SaysB R) (U : SaysUndo R) : Rows.EditBackSaid :=
  OpenClaim.holds_of_wide 5 Try.f5 rfl rfl rfl rfl rfl rfl rfl ⟨rfl, rfl, rfl, rfl, rfl⟩ rfl rfl rfl rfl rfl (by kernel_rfl) Try.func5 (by kernel_rfl)
    (of_decide_eq_true (by kernel_rfl)) (by unfold Func.isWrapper; rw [if_neg (of_decide_eq_false (by kernel_rfl))]; exact ⟨rfl, rfl⟩)
    (fun os started H enc _ => back_lifted S B U os started H enc)
end Go.Proofs.Ytfdnlbeancdajaa.Cl
namespace Go.Proofs.Ytfdnlbeancdajaa
open Go
theorem edit_back : Rows.EditBackSaid := Cl.back_row edit_says buffer_b (edit_undo buffer_u)
end Go.Proofs.Ytfdnlbeancdajaa
