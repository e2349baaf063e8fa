/- The row and card of ClosureAll. Conditions: the row's own; the tables unicode/utf8.first and acceptRanges are laid as the card ties them. -/
import Derived.Test.YtdgnolhhkbendaaGreatDoorQFrame
import Derived.Test.YtdgnolhhkbendaaGreatDoorZLawAll
import Derived.Test.YtdgnolhhkbendaaGreatDoorZOpen
namespace Go.Proofs.YtdgnolhhkbendaaGreatDoor
open Go Go.Shelf Go.ChangeShapes Go.WideShapes Go.ChangeAt Go.RowKit Go.Lib

def zeroE : Value := .agg #[.string ⟨#[]⟩, .slice none 0 0]
theorem closureall_witness (os : Os) {H : Type} (enc : TypeId × Value → H) :
    (OpenSpec.ofChange Rows.closureAllSpec).preRow enc Tryz.prog Tryz.f3 Rows.closureAllRow.domain false Rows.closureAllRow.laid ((laidWorld os).forCall (fun _ _ => 0) ⟨#[], #[.slice none 0 0, zeroE], []⟩).memory #[.slice none 0 0, zeroE] := by
  have hw : (DataW.whole enc Tryz.prog ((laidWorld os).forCall (fun _ _ => 0) ⟨#[], #[.slice none 0 0, zeroE], []⟩).memory Tryz.f3.params.toList (OpenSpec.ofChange Rows.closureAllSpec).vars false (#[.slice none 0 0, zeroE] : Array Value).toList 8).map (fun x => (x.1, x.2.1)) =
      some ([.nil, .agg [.lit (.string []), .nil]], []) := by kernel_rfl
  obtain ⟨⟨x1, x2, x3⟩, hx, hx1⟩ := Option.map_eq_some_iff.1 hw
  simp only [Prod.mk.injEq] at hx1
  obtain ⟨rfl, rfl⟩ := hx1
  exact OpenSpec.preRow_of_cond 8 hx (by kernel_rfl) (fun k hk => by cases hk) (by kernel_rfl) (laid_met os _)

set_option maxRecDepth 100000 in
set_option maxHeartbeats 4000000 in
theorem closureall_lifted (os : Os) (started : os.Started) (H : Type) (enc : TypeId × Value → H) (F : Stop.Interp) :
    ReturnsInHanded {} Tryz.checked os 3 .any ((OpenSpec.ofChange Rows.closureAllSpec).preRow enc Tryz.prog Tryz.f3 Rows.closureAllRow.domain false Rows.closureAllRow.laid) (((OpenSpec.ofChange Rows.closureAllSpec).at F).post enc Tryz.prog Tryz.f3 false true false false) := by
  refine returnsInHanded_of_row (C := Tryz.checked) (s := OpenSpec.ofChange Rows.closureAllSpec) Tryz.own started (by kernel_rfl) Tryz.func3
    (witness_row_atRef (enc := enc) (C := Tryz.checked) false (laidWorld os) #[.slice none 0 0, zeroE] rfl (by kernel_rfl) (by kernel_rfl) (by kernel_rfl) (closureall_witness os enc)) ?_
  intro W base args ds gs before hval0 hW _ _ hsz0 hL _ _
  have hval : ∀ (j : Nat) t v, Tryz.f3.params[j]? = some t → args[j]? = some v → Value.okWide Tryz.prog W .any base t v := hval0
  have hW' := hW
  obtain ⟨p, q, hA0, hV0, rfl, _, _⟩ := hW
  have hA : DataW.TrodAll enc Tryz.prog W 0 (fun _ => true) true Tryz.f3.params.toList args.toList ds p := hA0
  have hsz : (DataW.weightsEach Tryz.prog (Tryz.f3.params.toList ++ Rows.closureAllSpec.plain.varTypes Tryz.prog) (ds ++ gs)).all (· ≤ reachBytes) = true := hsz0
  rw [Tryz.params3] at hA hval hsz
  obtain ⟨v0, v1, d0, d1, p0, p1, rfl, rfl, rfl, h0, h1⟩ := trodAll_two hA
  obtain ⟨rfl, rfl⟩ := trodVars_none hV0
  obtain ⟨rs, hrs, hin⟩ := open_rules (hval 0 22 v0 rfl rfl) h0
  obtain ⟨wd, A, n, cap, fl, rfl, hfl, hfin⟩ := open_entry (hval 1 25 v1 rfl rfl) h1
  clear hA0 hV0 hval0 hsz0
  have hlt0 : ∀ x ∈ p0, x.block < W.heap.size := fun x hx => by simpa using hW'.lt x (by simp [hx])
  have hlt1 : ∀ x ∈ p1, x.block < W.heap.size := fun x hx => by simpa using hW'.lt x (by simp [hx])
  have hz0 : ∀ n ∈ DataW.weights Tryz.prog 22 d0, n ≤ reachBytes := fun n hn => by
    have := List.all_eq_true.1 hsz n (DataW.weights_mem_each (j := 0) rfl rfl n hn)
    simpa using this
  simp only [reachBytes] at hz0
  have htab : Tabs9 W := tabs_of_laid hL
  refine (law_all W v0 rs wd A n cap fl hrs hfl htab (fun r hr => by
    obtain ⟨-, k1, k2⟩ := hin r hr
    have m1 := hz0 _ k1
    have m2 := hz0 _ k2
    simp only [Array.length_toList] at m1 m2
    exact ⟨by show r.strip.data.size ≤ _; omega, by show r.add.data.size ≤ _; omega⟩) (fun r hr => (hin r hr).1) hfin).mono ?_
  rintro e W' ⟨rfl, bel⟩
  have harg0 : DataW.Trod enc Tryz.prog W' 0 (fun b => decide (b < W.heap.size)) true 22 v0 d0 p0 :=
    Below.trod Tryz.laidOut (by kernel_rfl) (of_decide_eq_true (by kernel_rfl)) h0 bel hlt0
  have harg1 : DataW.Trod enc Tryz.prog W' 0 (fun b => decide (b < W.heap.size)) true 25 (.agg #[.string wd, .slice A n cap]) d1 p1 :=
    Below.trod Tryz.laidOut (by kernel_rfl) (of_decide_eq_true (by kernel_rfl)) h1 bel hlt1
  have e1 : ((OpenSpec.ofChange Rows.closureAllSpec).at F).fn H ([d0, d1] ++ []) = { results := [.lit (.bool true)], args := [d0, d1] } := rfl
  refine ⟨_, rfl, _, _, _, [], p0 ++ p1, [], hW', ?_, ?_, ?_, bel.frame _, fun h => by cases h⟩
  · rw [e1]; exact trodAll_mk1 (shut_bool Tryz.underlying4 _)
  · rw [e1]; exact trodAll_mk2 harg0 harg1
  · rw [e1]; rfl

theorem closureall_row : Rows.ClosureAllSaid :=
  OpenClaim.holds_of_cond 3 Tryz.f3 rfl rfl rfl rfl rfl rfl rfl ⟨rfl, rfl, rfl, rfl, rfl⟩ rfl rfl rfl rfl rfl (by kernel_rfl) Tryz.func3 (by kernel_rfl)
    (of_decide_eq_true (by kernel_rfl)) (by unfold Func.isWrapper; rw [if_neg (of_decide_eq_false (by kernel_rfl))]; exact ⟨rfl, rfl⟩)
    (fun os started H enc _ F0 => by rw [OpenClaim.pre_eq_preRow]; exact closureall_lifted os started H enc F0)

theorem closureall_card : Rows.ClosureAllCardSaid :=
  Claim7.holds_tied_plain_at .later [] [.data, .pinned] true (true, "85212339891d3e1f467f3518d7edb545f4d0a7712845d05fa2c30c49a274792e") false
    closureall_row (fun _ h => by cases h) (by kernel_rfl) (fun _ h => by cases h) closureAll_row_tie rfl ⟨rfl, rfl⟩ (by kernel_rfl) rfl
    (fun f fn hf hfn => by
      obtain rfl : f = 3 := Option.some.inj ((show Tryz.prog.funcNamed "abecedary/abecedarylaw13.ClosureAll" = some 3 by kernel_rfl).symm.trans hf) |>.symm
      obtain rfl : fn = Tryz.f3 := (Option.some.inj (Tryz.func3.symm.trans hfn)).symm
      exact ⟨by kernel_rfl, fun j t ht => by
        rw [Tryz.params3] at ht
        have h3 : t = 22 ∨ t = 25 := by
          rcases j with _ | _ | j
          · left; simpa using ht.symm
          · right; simpa using ht.symm
          · simp at ht
        rcases h3 with rfl | rfl
        · exact (show Tryz.prog.wantsStandIn 22 = false by kernel_rfl)
        · exact (show Tryz.prog.wantsStandIn 25 = false by kernel_rfl)⟩)
    (by kernel_rfl)
end Go.Proofs.YtdgnolhhkbendaaGreatDoor
