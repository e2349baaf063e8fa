/- The row and card of RuleAll out of what is asked of rule's calls. Conditions: the row's own; the tables unicode/utf8.first and acceptRanges are laid as the card ties them. -/
import Derived.Test.YtjeehdbnliifnaaGreatDoorQFrame
import Derived.Test.YtjeehdbnliifnaaGreatDoorPLaw
import Derived.Test.YtjeehdbnliifnaaGreatDoorROpen
namespace Go.Proofs.YtjeehdbnliifnaaGreatDoor
open Go Go.Shelf Go.ChangeShapes Go.WideShapes Go.ChangeAt Go.RowKit Go.Lib

def zeroR : Value := .agg #[.bool false, .int .i64 0, .bool false, .string ⟨#[]⟩, .string ⟨#[]⟩, .slice none 0 0]
theorem all_witness (os : Os) {H : Type} (enc : TypeId × Value → H) :
    (OpenSpec.ofChange Rows.ruleAllSpec).preRow enc Tryz.prog Tryz.f3 Rows.ruleAllRow.domain false Rows.ruleAllRow.laid ((laidWorld os).forCall (fun _ _ => 0) ⟨#[], #[.string ⟨#[]⟩, zeroR, zeroR, .string ⟨#[]⟩], []⟩).memory #[.string ⟨#[]⟩, zeroR, zeroR, .string ⟨#[]⟩] := by
  have hw : (DataW.whole enc Tryz.prog ((laidWorld os).forCall (fun _ _ => 0) ⟨#[], #[.string ⟨#[]⟩, zeroR, zeroR, .string ⟨#[]⟩], []⟩).memory Tryz.f3.params.toList (OpenSpec.ofChange Rows.ruleAllSpec).vars false (#[.string ⟨#[]⟩, zeroR, zeroR, .string ⟨#[]⟩] : Array Value).toList 8).map (fun x => (x.1, x.2.1)) =
      some ([.lit (.string []), .agg [.lit (.bool false), .lit (.int .i64 0), .lit (.bool false), .lit (.string []), .lit (.string []), .nil], .agg [.lit (.bool false), .lit (.int .i64 0), .lit (.bool false), .lit (.string []), .lit (.string []), .nil], .lit (.string [])], []) := by kernel_rfl
  obtain ⟨⟨x1, x2, x3⟩, hx, hx1⟩ := Option.map_eq_some_iff.1 hw
  simp only [Prod.mk.injEq] at hx1
  obtain ⟨rfl, rfl⟩ := hx1
  exact OpenSpec.preRow_of_cond 8 hx (by kernel_rfl) (fun k hk => by cases hk) (by kernel_rfl) (laid_met os _)

set_option maxRecDepth 100000 in
theorem rule_weights {H : Type} {a b : Bool} {k : Int} {s t : List UInt8} {y : DataW H} :
    s.length ∈ DataW.weights Tryz.prog 24 (.agg [.lit (.bool a), .lit (.int .i64 k), .lit (.bool b), .lit (.string s), .lit (.string t), y] : DataW H) ∧ t.length ∈ DataW.weights Tryz.prog 24 (.agg [.lit (.bool a), .lit (.int .i64 k), .lit (.bool b), .lit (.string s), .lit (.string t), y] : DataW H) := by
  constructor <;> simp [DataW.weights, DataW.weightsEach, Tryz.underlying24]

set_option maxRecDepth 100000 in
set_option maxHeartbeats 4000000 in
theorem all_lifted (S : SaysR Tabs9) (os : Os) (started : os.Started) (H : Type) (enc : TypeId × Value → H) (F : Stop.Interp) :
    ReturnsInHanded {} Tryz.checked os 3 .any ((OpenSpec.ofChange Rows.ruleAllSpec).preRow enc Tryz.prog Tryz.f3 Rows.ruleAllRow.domain false Rows.ruleAllRow.laid) (((OpenSpec.ofChange Rows.ruleAllSpec).at F).post enc Tryz.prog Tryz.f3 false true false false) := by
  refine returnsInHanded_of_row (C := Tryz.checked) (s := OpenSpec.ofChange Rows.ruleAllSpec) Tryz.own started (by kernel_rfl) Tryz.func3
    (witness_row_atRef (enc := enc) (C := Tryz.checked) false (laidWorld os) #[.string ⟨#[]⟩, zeroR, zeroR, .string ⟨#[]⟩] rfl (by kernel_rfl) (by kernel_rfl) (by kernel_rfl) (all_witness os enc)) ?_
  intro W base args ds gs before hval0 hW _ _ hsz0 hL _ _
  have hval : ∀ (j : Nat) t v, Tryz.f3.params[j]? = some t → args[j]? = some v → Value.okWide Tryz.prog W .any base t v := hval0
  have hW' := hW
  obtain ⟨p, q, hA0, hV0, rfl, _, _⟩ := hW
  have hA : DataW.TrodAll enc Tryz.prog W 0 (fun _ => true) true Tryz.f3.params.toList args.toList ds p := hA0
  have hsz : (DataW.weightsEach Tryz.prog (Tryz.f3.params.toList ++ Rows.ruleAllSpec.plain.varTypes Tryz.prog) (ds ++ gs)).all (· ≤ reachBytes) = true := hsz0
  rw [Tryz.params3] at hA hval hsz
  obtain ⟨v0, v1, v2, v3, d0, d1, d2, d3, p0, p1, p2, p3, rfl, rfl, rfl, h0, h1, h2, h3⟩ := trodAll_four hA
  obtain ⟨rfl, rfl⟩ := trodVars_none hV0
  obtain ⟨s, rfl, rfl, rfl, ws⟩ := Go.ChangeMaps.open_string Tryz.underlying9 (hval 0 9 v0 rfl rfl) h0
  obtain ⟨wd, rfl, rfl, rfl, wwd⟩ := Go.ChangeMaps.open_string Tryz.underlying9 (hval 3 9 v3 rfl rfl) h3
  obtain ⟨r1, y1, ha1, hf1, hd1⟩ := open_rule (hval 1 24 v1 rfl rfl) h1
  obtain ⟨r2, y2, ha2, hf2, hd2⟩ := open_rule (hval 2 24 v2 rfl rfl) h2
  clear hA0 hV0 hval0 hsz0
  have hlt1 : ∀ x ∈ p1, x.block < W.heap.size := fun x hx => by simpa using hW'.lt x (by simp [hx])
  have hlt2 : ∀ x ∈ p2, x.block < W.heap.size := fun x hx => by simpa using hW'.lt x (by simp [hx])
  have z0 := sized_string hsz (j := 0) (t := 9) rfl rfl
  have z3 := sized_string hsz (j := 3) (t := 9) rfl rfl
  have hz1 : ∀ n ∈ DataW.weights Tryz.prog 24 d1, n ≤ reachBytes := fun n hn => by
    have := List.all_eq_true.1 hsz n (DataW.weights_mem_each (j := 1) rfl rfl n hn)
    simpa using this
  have hz2 : ∀ n ∈ DataW.weights Tryz.prog 24 d2, n ≤ reachBytes := fun n hn => by
    have := List.all_eq_true.1 hsz n (DataW.weights_mem_each (j := 2) rfl rfl n hn)
    simpa using this
  rw [hd1] at hz1
  rw [hd2] at hz2
  have k1 := hz1 _ rule_weights.1
  have k2 := hz1 _ rule_weights.2
  have k3 := hz2 _ rule_weights.1
  have k4 := hz2 _ rule_weights.2
  simp only [Array.length_toList, reachBytes] at z0 z3 k1 k2 k3 k4
  have htab : Tabs9 W := tabs_of_laid hL
  refine (all_law S W htab s wd v1 v2 r1 r2 ha1 ha2 (by show s.data.size ≤ _; omega) (by show wd.data.size ≤ _; omega) (by show r1.strip.data.size ≤ _; omega) (by show r1.add.data.size ≤ _; omega) (by show r2.strip.data.size ≤ _; omega) (by show r2.add.data.size ≤ _; omega) hf1.1 hf1.2 hf2.1 hf2.2).mono ?_
  rintro e W' ⟨rfl, bel⟩
  have harg1 : DataW.Trod enc Tryz.prog W' 0 (fun b => decide (b < W.heap.size)) true 24 v1 d1 p1 :=
    Below.trod Tryz.laidOut (by kernel_rfl) (of_decide_eq_true (by kernel_rfl)) h1 bel hlt1
  have harg2 : DataW.Trod enc Tryz.prog W' 0 (fun b => decide (b < W.heap.size)) true 24 v2 d2 p2 :=
    Below.trod Tryz.laidOut (by kernel_rfl) (of_decide_eq_true (by kernel_rfl)) h2 bel hlt2
  have e1 : ((OpenSpec.ofChange Rows.ruleAllSpec).at F).fn H ([.lit (.string s.data.toList), d1, d2, .lit (.string wd.data.toList)] ++ []) = { results := [.lit (.bool true)], args := [.lit (.string s.data.toList), d1, d2, .lit (.string wd.data.toList)] } := rfl
  refine ⟨_, rfl, _, _, _, [], [] ++ (p1 ++ (p2 ++ [])), [], hW', ?_, ?_, ?_, bel.frame _, fun h => by cases h⟩
  · rw [e1]; exact trodAll_mk1 (shut_bool Tryz.underlying4 _)
  · rw [e1]; exact trodAll_mk4 (Go.ChangeMaps.shut_string Tryz.underlying9 ws) harg1 harg2 (Go.ChangeMaps.shut_string Tryz.underlying9 wwd)
  · rw [e1]; rfl

theorem all_row (S : SaysR Tabs9) : Rows.RuleAllSaid :=
  OpenClaim.holds_of_cond 3 Tryz.f3 rfl rfl rfl rfl rfl rfl rfl ⟨rfl, rfl, rfl, rfl, rfl⟩ rfl rfl rfl rfl rfl (by kernel_rfl) Tryz.func3 (by kernel_rfl)
    (of_decide_eq_true (by kernel_rfl)) (by unfold Func.isWrapper; rw [if_neg (of_decide_eq_false (by kernel_rfl))]; exact ⟨rfl, rfl⟩)
    (fun os started H enc _ F0 => by rw [OpenClaim.pre_eq_preRow]; exact all_lifted S os started H enc F0)

theorem all_card (S : SaysR Tabs9) : Rows.RuleAllCardSaid :=
  Claim7.holds_tied_plain_at .later [] [.data, .pinned] true (true, "bf97e1ad00a6a6e32f78a860d9097d9de41e58a0b852a5e641bb9770f820539b") false
    (all_row S) (fun _ h => by cases h) (by kernel_rfl) (fun _ h => by cases h) ruleAll_row_tie rfl ⟨rfl, rfl⟩ (by kernel_rfl) rfl
    (fun f fn hf hfn => by
      obtain rfl : f = 3 := Option.some.inj ((show Tryz.prog.funcNamed "abecedary/abecedarylaw10.RuleAll" = some 3 by kernel_rfl).symm.trans hf) |>.symm
      obtain rfl : fn = Tryz.f3 := (Option.some.inj (Tryz.func3.symm.trans hfn)).symm
      exact ⟨by kernel_rfl, fun j t ht => by
        rw [Tryz.params3] at ht
        have h3 : t = 9 ∨ t = 24 := by
          rcases j with _ | _ | _ | _ | j
          · left; simpa using ht.symm
          · right; simpa using ht.symm
          · right; simpa using ht.symm
          · left; simpa using ht.symm
          · simp at ht
        rcases h3 with rfl | rfl
        · exact (show Tryz.prog.wantsStandIn 9 = false by kernel_rfl)
        · exact (show Tryz.prog.wantsStandIn 24 = false by kernel_rfl)⟩)
    (by kernel_rfl)
end Go.Proofs.YtjeehdbnliifnaaGreatDoor
