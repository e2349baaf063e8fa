/-
  DERIVED. GIVEN WITH THE SEED: THE CARDS: each row of YtjeehdbnliifnaaDoorRows.lean that lists a variable, with what it lists TIED to the program's text (the seventh form; the later family's looks); each row that meets fmt, with fmt's text TOLD by the authors' own Lean function (tested against real Go, not proved from fmt's source: count such statements apart). THE CARD IS WHAT COUNTS. Prove the row's statement (the work); the ties are given (YtjeehdbnliifnaaDoorTie.lean); close each card by the builder's one call (the guide's Derived/Test/ToyasCard.lean, 'card_holds'). Laid BY PROGRAM, IN A SANDBOX (cutbox-door.mjs). By AI agents, Wed Nov 11 2026. No macro, syntax, notation, axiom, sorry.
-/
import Derived.Test.YtjeehdbnliifnaaDoorRows
import GoSem.ClaimSeven
namespace Go.Proofs.YtjeehdbnliifnaaDoor
namespace Rows

/-- THE TIED CARD OF 'abecedarylaw10.RuleBack'. -/
def ruleBackCard : Claim7 := { stood := { row := ruleBackRow, standIns := [], harness := (true, "a5dcee8dc954671da22056dcb768d381877b630a6da810c4a4a300b89b7cbbea"), looks := false }, kinds := [], alts := [], laidByText := true, laidKinds := [.data, .pinned], laidTests := true, laidLooks := .later }
def RuleBackCardSaid : Prop := Claim7.holds Tryd.pinned (.plain (OpenSpec.ofChange ruleBackSpec)) ruleBackCard

/-- THE TIED CARD OF 'abecedarylaw10.RuleAffixes'. -/
def ruleAffixesCard : Claim7 := { stood := { row := ruleAffixesRow, standIns := [], harness := (true, "a5dcee8dc954671da22056dcb768d381877b630a6da810c4a4a300b89b7cbbea"), looks := false }, kinds := [], alts := [], laidByText := true, laidKinds := [.data, .pinned], laidTests := true, laidLooks := .later }
def RuleAffixesCardSaid : Prop := Claim7.holds Tryd.pinned (.plain (OpenSpec.ofChange ruleAffixesSpec)) ruleAffixesCard

/-- THE TIED CARD OF 'abecedarylaw10.RuleKnown'. -/
def ruleKnownCard : Claim7 := { stood := { row := ruleKnownRow, standIns := [], harness := (true, "a5dcee8dc954671da22056dcb768d381877b630a6da810c4a4a300b89b7cbbea"), looks := false }, kinds := [], alts := [], laidByText := true, laidKinds := [.data, .pinned], laidTests := true, laidLooks := .later }
def RuleKnownCardSaid : Prop := Claim7.holds Tryd.pinned (.plain (OpenSpec.ofChange ruleKnownSpec)) ruleKnownCard

/-- THE SECOND FORM's CARD OF 'abecedarylaw10.RuleBack'. -/
def ruleBackUptoCard : Claim7 := { stood := { row := ruleBackUptoRow, standIns := [], harness := (true, "a5dcee8dc954671da22056dcb768d381877b630a6da810c4a4a300b89b7cbbea"), looks := false }, kinds := [], alts := [], laidByText := true, laidKinds := [.data, .pinned], laidTests := true, laidLooks := .later }
def RuleBackUptoCardSaid : Prop := Claim7.holds Tryd.pinned (.plain (OpenSpec.upto ruleBackSpec)) ruleBackUptoCard

/-- THE SECOND FORM's CARD OF 'abecedarylaw10.RuleAffixes'. -/
def ruleAffixesUptoCard : Claim7 := { stood := { row := ruleAffixesUptoRow, standIns := [], harness := (true, "a5dcee8dc954671da22056dcb768d381877b630a6da810c4a4a300b89b7cbbea"), looks := false }, kinds := [], alts := [], laidByText := true, laidKinds := [.data, .pinned], laidTests := true, laidLooks := .later }
def RuleAffixesUptoCardSaid : Prop := Claim7.holds Tryd.pinned (.plain (OpenSpec.upto ruleAffixesSpec)) ruleAffixesUptoCard

/-- THE SECOND FORM's CARD OF 'abecedarylaw10.RuleKnown'. -/
def ruleKnownUptoCard : Claim7 := { stood := { row := ruleKnownUptoRow, standIns := [], harness := (true, "a5dcee8dc954671da22056dcb768d381877b630a6da810c4a4a300b89b7cbbea"), looks := false }, kinds := [], alts := [], laidByText := true, laidKinds := [.data, .pinned], laidTests := true, laidLooks := .later }
def RuleKnownUptoCardSaid : Prop := Claim7.holds Tryd.pinned (.plain (OpenSpec.upto ruleKnownSpec)) ruleKnownUptoCard
end Rows
end Go.Proofs.YtjeehdbnliifnaaDoor
