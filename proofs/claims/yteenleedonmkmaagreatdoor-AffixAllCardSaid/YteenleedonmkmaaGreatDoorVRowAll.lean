/- The row and card of AffixAll out of what is asked of affix's calls. Conditions: the row's own; the tables unicode/utf8.first and acceptRanges are laid as the card ties them. -/
import Derived.Test.YteenleedonmkmaaGreatDoorQFrame
import Derived.Test.YteenleedonmkmaaGreatDoorVAll
import Derived.Test.YteenleedonmkmaaGreatDoorVOpen
namespace Go.Proofs.YteenleedonmkmaaGreatDoor
open Go Go.Shelf Go.ChangeShapes Go.WideShapes Go.ChangeAt Go.RowKit Go.Lib

def zeroA : Value := .agg #[.slice none 0 0, .slice none 0 0]
theorem affixall_witness (os : Os) {H : Type} (enc : TypeId × Value → H) :
    (OpenSpec.ofChange Rows.affixAllSpec).preRow enc Tryz.prog Tryz.f3 Rows.affixAllRow.domain false Rows.affixAllRow.laid ((laidWorld os).forCall (fun _ _ => 0) ⟨#[], #[.string ⟨#[]⟩, zeroA], []⟩).memory #[.string ⟨#[]⟩, zeroA] := by
  have hw : (DataW.whole enc Tryz.prog ((laidWorld os).forCall (fun _ _ => 0) ⟨#[], #[.string ⟨#[]⟩, zeroA], []⟩).memory Tryz.f3.params.toList (OpenSpec.ofChange Rows.affixAllSpec).vars false (#[.string ⟨#[]⟩, zeroA] : Array Value).toList 8).map (fun x => (x.1, x.2.1)) =
      some ([.lit (.string []), .agg [.nil, .nil]], []) := by kernel_rfl
  obtain ⟨⟨x1, x2, x3⟩, hx, hx1⟩ := Option.map_eq_some_iff.1 hw
  simp only [Prod.mk.injEq] at hx1
  obtain ⟨rfl, rfl⟩ := hx1
  exact OpenSpec.preRow_of_cond 8 hx (by kernel_rfl) (fun k hk => by cases hk) (by kernel_rfl) (laid_met os _)

set_option maxRecDepth 100000 in
set_option maxHeartbeats 4000000 in
theorem affixall_lifted (S : SaysA Tabs9) (os : Os) (started : os.Started) (H : Type) (enc : TypeId × Value → H) (F : Stop.Interp) :
    ReturnsInHanded {} Tryz.checked os 3 .any ((OpenSpec.ofChange Rows.affixAllSpec).preRow enc Tryz.prog Tryz.f3 Rows.affixAllRow.domain false Rows.affixAllRow.laid) (((OpenSpec.ofChange Rows.affixAllSpec).at F).post enc Tryz.prog Tryz.f3 false true false false) := by
  refine returnsInHanded_of_row (C := Tryz.checked) (s := OpenSpec.ofChange Rows.affixAllSpec) Tryz.own started (by kernel_rfl) Tryz.func3
    (witness_row_atRef (enc := enc) (C := Tryz.checked) false (laidWorld os) #[.string ⟨#[]⟩, zeroA] rfl (by kernel_rfl) (by kernel_rfl) (by kernel_rfl) (affixall_witness os enc)) ?_
  intro W base args ds gs before hval0 hW _ _ hsz0 hL _ _
  have hval : ∀ (j : Nat) t v, Tryz.f3.params[j]? = some t → args[j]? = some v → Value.okWide Tryz.prog W .any base t v := hval0
  have hW' := hW
  obtain ⟨p, q, hA0, hV0, rfl, _, _⟩ := hW
  have hA : DataW.TrodAll enc Tryz.prog W 0 (fun _ => true) true Tryz.f3.params.toList args.toList ds p := hA0
  have hsz : (DataW.weightsEach Tryz.prog (Tryz.f3.params.toList ++ Rows.affixAllSpec.plain.varTypes Tryz.prog) (ds ++ gs)).all (· ≤ reachBytes) = true := hsz0
  rw [Tryz.params3] at hA hval hsz
  obtain ⟨v0, v1, d0, d1, p0, p1, rfl, rfl, rfl, h0, h1⟩ := trodAll_two hA
  obtain ⟨rfl, rfl⟩ := trodVars_none hV0
  obtain ⟨s, rfl, rfl, rfl, ws⟩ := Go.ChangeMaps.open_string Tryz.underlying9 (hval 0 9 v0 rfl rfl) h0
  obtain ⟨a, ha1, hin⟩ := open_aff (hval 1 25 v1 rfl rfl) h1
  clear hA0 hV0 hval0 hsz0
  have hlt1 : ∀ x ∈ p1, x.block < W.heap.size := fun x hx => by simpa using hW'.lt x (by simp [hx])
  have z0 := sized_string hsz (j := 0) (t := 9) rfl rfl
  have hz1 : ∀ n ∈ DataW.weights Tryz.prog 25 d1, n ≤ reachBytes := fun n hn => by
    have := List.all_eq_true.1 hsz n (DataW.weights_mem_each (j := 1) rfl rfl n hn)
    simpa using this
  simp only [Array.length_toList, reachBytes] at z0 hz1
  have htab : Tabs9 W := tabs_of_laid hL
  refine (vall_law S W htab s v1 a ha1 (by show s.data.size ≤ _; omega) (fun r hr => by
    obtain ⟨-, k1, k2⟩ := hin r hr
    have m1 := hz1 _ k1
    have m2 := hz1 _ k2
    simp only [Array.length_toList] at m1 m2
    exact ⟨by show r.strip.data.size ≤ _; omega, by show r.add.data.size ≤ _; omega⟩) (fun r hr => (hin r hr).1)).mono ?_
  rintro e W' ⟨rfl, bel⟩
  have harg1 : DataW.Trod enc Tryz.prog W' 0 (fun b => decide (b < W.heap.size)) true 25 v1 d1 p1 :=
    Below.trod Tryz.laidOut (by kernel_rfl) (of_decide_eq_true (by kernel_rfl)) h1 bel hlt1
  have e1 : ((OpenSpec.ofChange Rows.affixAllSpec).at F).fn H ([.lit (.string s.data.toList), d1] ++ []) = { results := [.lit (.bool true)], args := [.lit (.string s.data.toList), d1] } := rfl
  refine ⟨_, rfl, _, _, _, [], [] ++ p1, [], hW', ?_, ?_, ?_, bel.frame _, fun h => by cases h⟩
  · rw [e1]; exact trodAll_mk1 (shut_bool Tryz.underlying4 _)
  · rw [e1]; exact trodAll_mk2 (Go.ChangeMaps.shut_string Tryz.underlying9 ws) harg1
  · rw [e1]; rfl

theorem affixall_row (S : SaysA Tabs9) : Rows.AffixAllSaid :=
  OpenClaim.holds_of_cond 3 Tryz.f3 rfl rfl rfl rfl rfl rfl rfl ⟨rfl, rfl, rfl, rfl, rfl⟩ rfl rfl rfl rfl rfl (by kernel_rfl) Tryz.func3 (by kernel_rfl)
    (of_decide_eq_true (by kernel_rfl)) (by unfold Func.isWrapper; rw [if_neg (of_decide_eq_false (by kernel_rfl))]; exact ⟨rfl, rfl⟩)
    (fun os started H enc _ F0 => by rw [OpenClaim.pre_eq_preRow]; exact affixall_lifted S os started H enc F0)

theorem affixall_card (S : SaysA Tabs9) : Rows.AffixAllCardSaid :=
  Claim7.holds_tied_plain_at .later [] [.data, .pinned] true (true, "24d0643589d8ad864cddb806d63eb70af8c29f4a7ca0c6365bac518ea30c08ef") false
    (affixall_row S) (fun _ h => by cases h) (by kernel_rfl) (fun _ h => by cases h) affixAll_row_tie rfl ⟨rfl, rfl⟩ (by kernel_rfl) rfl
    (fun f fn hf hfn => by
      obtain rfl : f = 3 := Option.some.inj ((show Tryz.prog.funcNamed "abecedary/abecedarylaw11.AffixAll" = some 3 by kernel_rfl).symm.trans hf) |>.symm
      obtain rfl : fn = Tryz.f3 := (Option.some.inj (Tryz.func3.symm.trans hfn)).symm
      exact ⟨by kernel_rfl, fun j t ht => by
        rw [Tryz.params3] at ht
        have h3 : t = 9 ∨ t = 25 := by
          rcases j with _ | _ | j
          · left; simpa using ht.symm
          · right; simpa using ht.symm
          · simp at ht
        rcases h3 with rfl | rfl
        · exact (show Tryz.prog.wantsStandIn 9 = false by kernel_rfl)
        · exact (show Tryz.prog.wantsStandIn 25 = false by kernel_rfl)⟩)
    (by kernel_rfl)
end Go.Proofs.YteenleedonmkmaaGreatDoor
