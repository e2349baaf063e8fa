/-
  DERIVED. GIVEN WITH THE SEED: THE CARDS: each row of YteenleedonmkmaaGreatDoorRows.lean that lists a variable, with what it lists TIED to the program's text (the seventh form; the later family's looks); each row that meets fmt, with fmt's text TOLD by the authors' own Lean function (tested against real Go, not proved from fmt's source: count such statements apart). THE CARD IS WHAT COUNTS. Prove the row's statement (the work); the ties are given (YteenleedonmkmaaGreatDoorTie.lean); close each card by the builder's one call (the guide's Derived/Test/ToyasCard.lean, 'card_holds'). Laid BY PROGRAM, IN A SANDBOX (cutbox-door.mjs). By AI agents, Wed Nov 11 2026. No macro, syntax, notation, axiom, sorry.
-/
import Derived.Test.YteenleedonmkmaaGreatDoorRows
import GoSem.ClaimSeven
namespace Go.Proofs.YteenleedonmkmaaGreatDoor
namespace Rows

/-- THE TIED CARD OF 'abecedarylaw11.AffixAll'. -/
def affixAllCard : Claim7 := { stood := { row := affixAllRow, standIns := [], harness := (true, "24d0643589d8ad864cddb806d63eb70af8c29f4a7ca0c6365bac518ea30c08ef"), looks := false }, kinds := [], alts := [], laidByText := true, laidKinds := [.data, .pinned], laidTests := true, laidLooks := .later }
def AffixAllCardSaid : Prop := Claim7.holds Tryz.pinned (.plain (OpenSpec.ofChange affixAllSpec)) affixAllCard

/-- THE SECOND FORM's CARD OF 'abecedarylaw11.AffixAll'. -/
def affixAllUptoCard : Claim7 := { stood := { row := affixAllUptoRow, standIns := [], harness := (true, "24d0643589d8ad864cddb806d63eb70af8c29f4a7ca0c6365bac518ea30c08ef"), looks := false }, kinds := [], alts := [], laidByText := true, laidKinds := [.data, .pinned], laidTests := true, laidLooks := .later }
def AffixAllUptoCardSaid : Prop := Claim7.holds Tryz.pinned (.plain (OpenSpec.upto affixAllSpec)) affixAllUptoCard
end Rows
end Go.Proofs.YteenleedonmkmaaGreatDoor
