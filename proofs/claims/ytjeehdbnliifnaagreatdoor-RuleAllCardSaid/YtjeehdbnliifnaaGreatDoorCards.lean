/-
  DERIVED. GIVEN WITH THE SEED: THE CARDS: each row of YtjeehdbnliifnaaGreatDoorRows.lean that lists a variable, with what it lists TIED to the program's text (the seventh form; the later family's looks); each row that meets fmt, with fmt's text TOLD by the authors' own Lean function (tested against real Go, not proved from fmt's source: count such statements apart). THE CARD IS WHAT COUNTS. Prove the row's statement (the work); the ties are given (YtjeehdbnliifnaaGreatDoorTie.lean); close each card by the builder's one call (the guide's Derived/Test/ToyasCard.lean, 'card_holds'). Laid BY PROGRAM, IN A SANDBOX (cutbox-door.mjs). By AI agents, Wed Nov 11 2026. No macro, syntax, notation, axiom, sorry.
-/
import Derived.Test.YtjeehdbnliifnaaGreatDoorRows
import GoSem.ClaimSeven
namespace Go.Proofs.YtjeehdbnliifnaaGreatDoor
namespace Rows

/-- THE TIED CARD OF 'abecedarylaw10.RuleAll'. -/
def ruleAllCard : Claim7 := { stood := { row := ruleAllRow, standIns := [], harness := (true, "bf97e1ad00a6a6e32f78a860d9097d9de41e58a0b852a5e641bb9770f820539b"), looks := false }, kinds := [], alts := [], laidByText := true, laidKinds := [.data, .pinned], laidTests := true, laidLooks := .later }
def RuleAllCardSaid : Prop := Claim7.holds Tryz.pinned (.plain (OpenSpec.ofChange ruleAllSpec)) ruleAllCard

/-- THE SECOND FORM's CARD OF 'abecedarylaw10.RuleAll'. -/
def ruleAllUptoCard : Claim7 := { stood := { row := ruleAllUptoRow, standIns := [], harness := (true, "bf97e1ad00a6a6e32f78a860d9097d9de41e58a0b852a5e641bb9770f820539b"), looks := false }, kinds := [], alts := [], laidByText := true, laidKinds := [.data, .pinned], laidTests := true, laidLooks := .later }
def RuleAllUptoCardSaid : Prop := Claim7.holds Tryz.pinned (.plain (OpenSpec.upto ruleAllSpec)) ruleAllUptoCard
end Rows
end Go.Proofs.YtjeehdbnliifnaaGreatDoor
