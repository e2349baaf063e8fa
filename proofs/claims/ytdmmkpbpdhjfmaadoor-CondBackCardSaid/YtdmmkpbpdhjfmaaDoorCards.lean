/-
  DERIVED. GIVEN WITH THE SEED: THE CARDS: each row of YtdmmkpbpdhjfmaaDoorRows.lean that lists a variable, with what it lists TIED to the program's text (the seventh form; the later family's looks); each row that meets fmt, with fmt's text TOLD by the authors' own Lean function (tested against real Go, not proved from fmt's source: count such statements apart). THE CARD IS WHAT COUNTS. Prove the row's statement (the work); the ties are given (YtdmmkpbpdhjfmaaDoorTie.lean); close each card by the builder's one call (the guide's Derived/Test/ToyasCard.lean, 'card_holds'). Laid BY PROGRAM, IN A SANDBOX (cutbox-door.mjs). By AI agents, Wed Nov 11 2026. No macro, syntax, notation, axiom, sorry.
-/
import Derived.Test.YtdmmkpbpdhjfmaaDoorRows
import GoSem.ClaimSeven
namespace Go.Proofs.YtdmmkpbpdhjfmaaDoor
namespace Rows

/-- THE TIED CARD OF 'abecedarylaw09.CondBack'. -/
def condBackCard : Claim7 := { stood := { row := condBackRow, standIns := [], harness := (true, "67bfa2e62eeebd8b42424ccb849c0409048affaca217d0fbd4ff0ce8e092c259"), looks := false }, kinds := [], alts := [], laidByText := true, laidKinds := [.data, .pinned], laidTests := true, laidLooks := .later }
def CondBackCardSaid : Prop := Claim7.holds Tryd.pinned (.plain (OpenSpec.ofChange condBackSpec)) condBackCard

/-- THE TIED CARD OF 'abecedarylaw09.CondWays'. -/
def condWaysCard : Claim7 := { stood := { row := condWaysRow, standIns := [], harness := (true, "67bfa2e62eeebd8b42424ccb849c0409048affaca217d0fbd4ff0ce8e092c259"), looks := false }, kinds := [], alts := [], laidByText := true, laidKinds := [.data, .pinned], laidTests := true, laidLooks := .later }
def CondWaysCardSaid : Prop := Claim7.holds Tryd.pinned (.plain (OpenSpec.ofChange condWaysSpec)) condWaysCard

/-- THE SECOND FORM's CARD OF 'abecedarylaw09.CondBack'. -/
def condBackUptoCard : Claim7 := { stood := { row := condBackUptoRow, standIns := [], harness := (true, "67bfa2e62eeebd8b42424ccb849c0409048affaca217d0fbd4ff0ce8e092c259"), looks := false }, kinds := [], alts := [], laidByText := true, laidKinds := [.data, .pinned], laidTests := true, laidLooks := .later }
def CondBackUptoCardSaid : Prop := Claim7.holds Tryd.pinned (.plain (OpenSpec.upto condBackSpec)) condBackUptoCard

/-- THE SECOND FORM's CARD OF 'abecedarylaw09.CondWays'. -/
def condWaysUptoCard : Claim7 := { stood := { row := condWaysUptoRow, standIns := [], harness := (true, "67bfa2e62eeebd8b42424ccb849c0409048affaca217d0fbd4ff0ce8e092c259"), looks := false }, kinds := [], alts := [], laidByText := true, laidKinds := [.data, .pinned], laidTests := true, laidLooks := .later }
def CondWaysUptoCardSaid : Prop := Claim7.holds Tryd.pinned (.plain (OpenSpec.upto condWaysSpec)) condWaysUptoCard
end Rows
end Go.Proofs.YtdmmkpbpdhjfmaaDoor
