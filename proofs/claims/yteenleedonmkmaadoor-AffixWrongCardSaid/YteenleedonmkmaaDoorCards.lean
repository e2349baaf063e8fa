/-
  DERIVED. GIVEN WITH THE SEED: THE CARDS: each row of YteenleedonmkmaaDoorRows.lean that lists a variable, with what it lists TIED to the program's text (the seventh form; the later family's looks); each row that meets fmt, with fmt's text TOLD by the authors' own Lean function (tested against real Go, not proved from fmt's source: count such statements apart). THE CARD IS WHAT COUNTS. Prove the row's statement (the work); the ties are given (YteenleedonmkmaaDoorTie.lean); close each card by the builder's one call (the guide's Derived/Test/ToyasCard.lean, 'card_holds'). Laid BY PROGRAM, IN A SANDBOX (cutbox-door.mjs). By AI agents, Wed Nov 11 2026. No macro, syntax, notation, axiom, sorry.
-/
import Derived.Test.YteenleedonmkmaaDoorRows
import GoSem.ClaimSeven
namespace Go.Proofs.YteenleedonmkmaaDoor
namespace Rows

/-- THE TIED CARD OF 'abecedarylaw11.AffixBack'. -/
def affixBackCard : Claim7 := { stood := { row := affixBackRow, standIns := [], harness := (true, "ec827182675b7ebf617aeb2bb7fc7caf8819604215cf55a03bdf0aed2d6f52d6"), looks := false }, kinds := [], alts := [], laidByText := true, laidKinds := [.data, .pinned], laidTests := true, laidLooks := .later }
def AffixBackCardSaid : Prop := Claim7.holds Tryd.pinned (.plain (OpenSpec.ofChange affixBackSpec)) affixBackCard

/-- THE TIED CARD OF 'abecedarylaw11.AffixWrong'. -/
def affixWrongCard : Claim7 := { stood := { row := affixWrongRow, standIns := [], harness := (true, "ec827182675b7ebf617aeb2bb7fc7caf8819604215cf55a03bdf0aed2d6f52d6"), looks := false }, kinds := [], alts := [], laidByText := true, laidKinds := [.data, .pinned], laidTests := true, laidLooks := .later }
def AffixWrongCardSaid : Prop := Claim7.holds Tryd.pinned (.plain (OpenSpec.ofChange affixWrongSpec)) affixWrongCard

/-- THE TIED CARD OF 'abecedarylaw11.AffixMany'. -/
def affixManyCard : Claim7 := { stood := { row := affixManyRow, standIns := [], harness := (true, "ec827182675b7ebf617aeb2bb7fc7caf8819604215cf55a03bdf0aed2d6f52d6"), looks := false }, kinds := [], alts := [], laidByText := true, laidKinds := [.data, .pinned], laidTests := true, laidLooks := .later }
def AffixManyCardSaid : Prop := Claim7.holds Tryd.pinned (.plain (OpenSpec.ofChange affixManySpec)) affixManyCard

/-- THE SECOND FORM's CARD OF 'abecedarylaw11.AffixBack'. -/
def affixBackUptoCard : Claim7 := { stood := { row := affixBackUptoRow, standIns := [], harness := (true, "ec827182675b7ebf617aeb2bb7fc7caf8819604215cf55a03bdf0aed2d6f52d6"), looks := false }, kinds := [], alts := [], laidByText := true, laidKinds := [.data, .pinned], laidTests := true, laidLooks := .later }
def AffixBackUptoCardSaid : Prop := Claim7.holds Tryd.pinned (.plain (OpenSpec.upto affixBackSpec)) affixBackUptoCard

/-- THE SECOND FORM's CARD OF 'abecedarylaw11.AffixWrong'. -/
def affixWrongUptoCard : Claim7 := { stood := { row := affixWrongUptoRow, standIns := [], harness := (true, "ec827182675b7ebf617aeb2bb7fc7caf8819604215cf55a03bdf0aed2d6f52d6"), looks := false }, kinds := [], alts := [], laidByText := true, laidKinds := [.data, .pinned], laidTests := true, laidLooks := .later }
def AffixWrongUptoCardSaid : Prop := Claim7.holds Tryd.pinned (.plain (OpenSpec.upto affixWrongSpec)) affixWrongUptoCard

/-- THE SECOND FORM's CARD OF 'abecedarylaw11.AffixMany'. -/
def affixManyUptoCard : Claim7 := { stood := { row := affixManyUptoRow, standIns := [], harness := (true, "ec827182675b7ebf617aeb2bb7fc7caf8819604215cf55a03bdf0aed2d6f52d6"), looks := false }, kinds := [], alts := [], laidByText := true, laidKinds := [.data, .pinned], laidTests := true, laidLooks := .later }
def AffixManyUptoCardSaid : Prop := Claim7.holds Tryd.pinned (.plain (OpenSpec.upto affixManySpec)) affixManyUptoCard
end Rows
end Go.Proofs.YteenleedonmkmaaDoor
