/- The row of BufferPlays out of what is asked of a buffer's calls; an argument that is a slice of calls. Conditions: the row's own. -/
import Derived.Test.YtjpomfjcofjanaaCRowTwo
import Derived.Test.YtjpomfjcofjanaaCLawPlays
namespace Go.Proofs.Ytjpomfjcofjanaa
open Go Go.ChangeShapes Go.WideShapes Go.ChangeAt Go.RowKit Go.Deep

instance : Inhabited OpD := ⟨⟨0, 0, 0, ⟨#[]⟩⟩⟩
theorem Try.cells32 : Try.prog.cellsOf /-t-/32 = 4 := by kernel_rfl
theorem Try.cells3 : Try.prog.cellsOf /-t-/3 = 1 := by kernel_rfl
theorem Try.cells9 : Try.prog.cellsOf /-t-/9 = 1 := by kernel_rfl

set_option maxRecDepth 100000 in
theorem open_ops {H : Type} {enc : TypeId × Value → H} {W : World} {base : Nat} {v : Value} {d : DataW H} {ps : List MemPlace}
    (hval : Value.okWide Try.prog W .any base /-t-/22 v) (h : DataW.Trod enc Try.prog W 0 (fun _ => true) true /-t-/22 v d ps) :
    ∃ (A : Option Addr) (n cap : Nat) (os : List OpD), v = .slice A n cap ∧ Ops W A n cap os := by
  obtain ⟨A, n, cap, rfl⟩ := okWide_slice Try.underlying22 hval
  obtain ⟨fuel, hf⟩ := h
  rcases open_slice Try.underlying22 hf with ⟨hcs, _⟩ | ⟨a, len, cap', m, k, D, Pl, hcs, _, hl, hm, hmm, _, hi⟩
  · simp [Value.cells] at hcs
    obtain ⟨rfl, rfl, rfl⟩ := hcs
    exact ⟨none, 0, 0, [], rfl, rfl, Nat.le_refl _, Nat.zero_le _, .inl rfl⟩
  · simp [Value.cells] at hcs
    obtain ⟨rfl, rfl, rfl⟩ := hcs
    simp only [if_true] at hmm
    have each : ∀ i, i < n → ∃ o : OpD, (W.cell? (a.add (i * 4)) = some (.int .i64 o.K) ∧ W.cell? (a.add (i * 4 + 1)) = some (.int .i64 o.A) ∧ W.cell? (a.add (i * 4 + 2)) = some (.int .i64 o.B) ∧ W.cell? (a.add (i * 4 + 3)) = some (.string o.S)) ∧
        (-9223372036854775808 ≤ o.A ∧ o.A ≤ 9223372036854775807) ∧ (-9223372036854775808 ≤ o.B ∧ o.B ≤ 9223372036854775807) ∧ o.S.size ≤ 9223372036854775807 := by
      intro i hin
      obtain ⟨cs', h1, h2⟩ := hi i (by omega)
      rw [Try.cells32] at h1
      obtain ⟨_, hlen, hcell⟩ := World.cells?_some h1
      obtain ⟨xs, k', _, _, _, hxl, hfd⟩ := DataW.trod_struct Try.underlying32 h2
      match cs', hlen, xs, hxl with
      | [x0, x1, x2, x3], _, [y0, y1, y2, y3], _ =>
        have g0 := hfd 0 _ rfl
        have g1 := hfd 1 _ rfl
        have g2 := hfd 2 _ rfl
        have g3 := hfd 3 _ rfl
        simp [Try.cells3, Try.cells9] at g0 g1 g2 g3
        obtain ⟨n0, e0, _, u0⟩ := DataW.trod_int Try.underlying3 g0
        obtain ⟨n1, e1, _, u1⟩ := DataW.trod_int Try.underlying3 g1
        obtain ⟨n2, e2, _, u2⟩ := DataW.trod_int Try.underlying3 g2
        obtain ⟨s3, e3, _, u3⟩ := DataW.trod_string Try.underlying9 g3
        simp at e0 e1 e2 e3
        subst e0 e1 e2 e3
        have w0 := hcell 0 (by omega)
        have w1 := hcell 1 (by omega)
        have w2 := hcell 2 (by omega)
        have w3 := hcell 3 (by omega)
        rw [add_add] at w0 w1 w2 w3
        have b1 := bounds_i64 u1
        have b2 := bounds_i64 u2
        exact ⟨⟨n0, n1, n2, s3⟩, ⟨by simpa using w0, by simpa using w1, by simpa using w2, by simpa using w3⟩, b1, b2, by have := u3; unfold maxLen at this; show s3.size ≤ _; omega⟩
    obtain ⟨f, hfc⟩ := choose_lt each
    refine ⟨some a, n, cap, (List.range n).map f, rfl, by simp, hl, hm, ?_⟩
    by_cases h0 : n = 0
    · exact .inl h0
    · obtain ⟨b, off, spot⟩ := a
      have hw0 := (hfc 0 (by omega)).1.1
      have hspot : spot = none := by simpa [Addr.add] using World.cell?_spot hw0
      subst hspot
      have hadd : ∀ j, (⟨b, off, none⟩ : Addr).add j = ⟨b, off + j, none⟩ := fun j => by unfold Addr.add; split <;> simp_all
      have hblt := World.block_lt_of_cell? W _ hw0
      rw [hadd] at hblt
      refine .inr ⟨b, off, rfl, fun i o ho => ?_⟩
      have hin : i < n := by
        have := (List.getElem?_eq_some_iff.1 ho).1
        simpa using this
      have hfi : o = f i := by
        rw [List.getElem?_map, List.getElem?_range hin] at ho
        simpa using ho.symm
      obtain ⟨⟨q0, q1, q2, q3⟩, q4, q5, q6⟩ := hfc i hin
      rw [hadd] at q0 q1 q2 q3
      rw [hfi]
      exact ⟨⟨hblt, q0, by rw [← q1, Nat.add_assoc], by rw [← q2, Nat.add_assoc], by rw [← q3, Nat.add_assoc]⟩, q4, q5, q6⟩

set_option maxRecDepth 100000 in
theorem plays_lifted {R : Nat → (Nat → Prop) → World → Addr → ByteArray → Nat → Nat → Nat → Prop} (S : Says R) (os : Os) (started : os.Started) (H : Type) (enc : TypeId × Value → H) :
    ReturnsInHanded {} Try.checked os 3 .any (Rows.bufferPlaysSpec.pre6 enc Try.prog Try.f3 Rows.bufferPlaysRow.domain false) (Rows.bufferPlaysSpec.post enc Try.prog Try.f3 false true false false) := by
  refine returnsInHanded_of_change (C := Try.checked) Try.own started (by kernel_rfl) Try.func3
    (ChangeSpec.witness6 (enc := enc) (C := Try.checked) false ⟨#[], #[.string ⟨#[]⟩, .int .i64 0, .slice none 0 0], []⟩ 8 (by kernel_rfl) (by kernel_rfl) (by kernel_rfl) (by kernel_rfl)) ?_
  intro W base args ds gs before hval0 hW _ _
  have hval : ∀ (j : Nat) t v, Try.f3.params[j]? = some t → args[j]? = some v → Value.okWide Try.prog W .any base t v := hval0
  have hW' := hW
  obtain ⟨p, q, hA0, hV, rfl, _, _⟩ := hW
  have hA : DataW.TrodAll enc Try.prog W 0 (fun _ => true) true Try.f3.params.toList args.toList ds p := hA0
  rw [Try.params3] at hA hval
  obtain ⟨v0, v1, v2, d0, d1, d2, p0, p1, p2, rfl, rfl, rfl, h0, h1, h2⟩ := trodAll_three hA
  obtain ⟨rfl, rfl⟩ := trodVars_none hV
  obtain ⟨s, rfl, rfl, rfl, ws⟩ := Go.ChangeMaps.open_string Try.underlying9 (hval 0 /-t-/9 v0 rfl rfl) h0
  obtain ⟨x, rfl, rfl, rfl, wx⟩ := open_int Try.underlying3 (hval 1 /-t-/3 v1 rfl rfl) h1
  obtain ⟨A, n, cap, zs, rfl, hz⟩ := open_ops (hval 2 /-t-/22 v2 rfl rfl) h2
  clear hA0 hval0
  have hlt : ∀ x ∈ p2, x.block < W.heap.size := fun x hx => by simpa using hW'.lt x (by simp [hx])
  obtain ⟨x1, x2⟩ := bounds_i64 wx
  refine (plays_law S s x A n cap zs W hz x1 x2).mono ?_
  rintro e W' ⟨rfl, bel⟩
  have harg : DataW.Trod enc Try.prog W' 0 (fun b => decide (b < W.heap.size)) true /-t-/22 (.slice A n cap) d2 p2 :=
    Below.trod Try.laidOut (by kernel_rfl) (of_decide_eq_true (by kernel_rfl)) h2 bel hlt
  have e1 : Rows.bufferPlaysSpec.fn H ([.lit (.string s.data.toList), .lit (.int .i64 x), d2] ++ []) = { results := [.lit (.bool true)], args := [.lit (.string s.data.toList), .lit (.int .i64 x), d2] } := rfl
  refine ⟨_, rfl, _, _, _, [], [] ++ ([] ++ p2), [], hW', ?_, ?_, ?_, bel.frame _, fun h => by cases h⟩
  · rw [e1]; exact trodAll_mk1 (shut_bool Try.underlying4 _)
  · rw [e1]; exact trodAll_mk3 (Go.ChangeMaps.shut_string Try.underlying9 ws) (shut_int Try.underlying3 wx) harg
  · rw [e1]; rfl
theorem plays_row {R : Nat → (Nat → Prop) → World → Addr → ByteArray → Nat → Nat → Nat → Prop} (S : Says R) : Rows.BufferPlaysSaid :=
  OpenClaim.holds_of_wide 3 Try.f3 rfl rfl rfl rfl rfl rfl rfl ⟨rfl, rfl, rfl, rfl, rfl⟩ rfl rfl rfl rfl rfl (by kernel_rfl) Try.func3 (by kernel_rfl)
    (of_decide_eq_true (by kernel_rfl)) (by unfold Func.isWrapper; rw [if_neg (of_decide_eq_false (by kernel_rfl))]; exact ⟨rfl, rfl⟩)
    (fun os started H enc _ => plays_lifted S os started H enc)
end Go.Proofs.Ytjpomfjcofjanaa
