/-
  DERIVED. GIVEN WITH THE SEED: THE CARDS: each row of YtmadlappalhmlaaDoorRows.lean that lists a variable, with what it lists TIED to the program's text (the seventh form; the later family's looks); each row that meets fmt, with fmt's text TOLD by the authors' own Lean function (tested against real Go, not proved from fmt's source: count such statements apart). THE CARD IS WHAT COUNTS. Prove the row's statement (the work); the ties are given (YtmadlappalhmlaaDoorTie.lean); close each card by the builder's one call (the guide's Derived/Test/ToyasCard.lean, 'card_holds'). Laid BY PROGRAM, IN A SANDBOX (cutbox-door.mjs). By AI agents, Wed Nov 11 2026. No macro, syntax, notation, axiom, sorry.
-/
import Derived.Test.YtmadlappalhmlaaDoorRows
import GoSem.ClaimSeven
namespace Go.Proofs.YtmadlappalhmlaaDoor
namespace Rows

/-- THE TIED CARD OF 'abecedarylaw12.ListAll'. -/
def listAllCard : Claim7 := { stood := { row := listAllRow, standIns := [], harness := (true, "581f66defe2af5b0b6a7a45f79943fdddc9f9d990f48f687bc0350a18a9e154b"), looks := false }, kinds := [], alts := [], laidByText := true, laidKinds := [.data, .pinned], laidTests := true, laidLooks := .later }
def ListAllCardSaid : Prop := Claim7.holds Tryd.pinned (.plain (OpenSpec.ofChange listAllSpec)) listAllCard

/-- THE TIED CARD OF 'abecedarylaw12.ListBack'. -/
def listBackCard : Claim7 := { stood := { row := listBackRow, standIns := [], harness := (true, "581f66defe2af5b0b6a7a45f79943fdddc9f9d990f48f687bc0350a18a9e154b"), looks := false }, kinds := [], alts := [], laidByText := true, laidKinds := [.data, .pinned], laidTests := true, laidLooks := .later }
def ListBackCardSaid : Prop := Claim7.holds Tryd.pinned (.plain (OpenSpec.ofChange listBackSpec)) listBackCard

/-- THE TIED CARD OF 'abecedarylaw12.ListWrong'. -/
def listWrongCard : Claim7 := { stood := { row := listWrongRow, standIns := [], harness := (true, "581f66defe2af5b0b6a7a45f79943fdddc9f9d990f48f687bc0350a18a9e154b"), looks := false }, kinds := [], alts := [], laidByText := true, laidKinds := [.data, .pinned], laidTests := true, laidLooks := .later }
def ListWrongCardSaid : Prop := Claim7.holds Tryd.pinned (.plain (OpenSpec.ofChange listWrongSpec)) listWrongCard

/-- THE TIED CARD OF 'abecedarylaw12.ListMany'. -/
def listManyCard : Claim7 := { stood := { row := listManyRow, standIns := [], harness := (true, "581f66defe2af5b0b6a7a45f79943fdddc9f9d990f48f687bc0350a18a9e154b"), looks := false }, kinds := [], alts := [], laidByText := true, laidKinds := [.data, .pinned], laidTests := true, laidLooks := .later }
def ListManyCardSaid : Prop := Claim7.holds Tryd.pinned (.plain (OpenSpec.ofChange listManySpec)) listManyCard

/-- THE TIED CARD OF 'abecedarylaw12.ListLines'. -/
def listLinesCard : Claim7 := { stood := { row := listLinesRow, standIns := [], harness := (true, "581f66defe2af5b0b6a7a45f79943fdddc9f9d990f48f687bc0350a18a9e154b"), looks := false }, kinds := [], alts := [], laidByText := true, laidKinds := [.data, .pinned], laidTests := true, laidLooks := .later }
def ListLinesCardSaid : Prop := Claim7.holds Tryd.pinned (.plain (OpenSpec.ofChange listLinesSpec)) listLinesCard

/-- THE SECOND FORM's CARD OF 'abecedarylaw12.ListAll'. -/
def listAllUptoCard : Claim7 := { stood := { row := listAllUptoRow, standIns := [], harness := (true, "581f66defe2af5b0b6a7a45f79943fdddc9f9d990f48f687bc0350a18a9e154b"), looks := false }, kinds := [], alts := [], laidByText := true, laidKinds := [.data, .pinned], laidTests := true, laidLooks := .later }
def ListAllUptoCardSaid : Prop := Claim7.holds Tryd.pinned (.plain (OpenSpec.upto listAllSpec)) listAllUptoCard

/-- THE SECOND FORM's CARD OF 'abecedarylaw12.ListBack'. -/
def listBackUptoCard : Claim7 := { stood := { row := listBackUptoRow, standIns := [], harness := (true, "581f66defe2af5b0b6a7a45f79943fdddc9f9d990f48f687bc0350a18a9e154b"), looks := false }, kinds := [], alts := [], laidByText := true, laidKinds := [.data, .pinned], laidTests := true, laidLooks := .later }
def ListBackUptoCardSaid : Prop := Claim7.holds Tryd.pinned (.plain (OpenSpec.upto listBackSpec)) listBackUptoCard

/-- THE SECOND FORM's CARD OF 'abecedarylaw12.ListWrong'. -/
def listWrongUptoCard : Claim7 := { stood := { row := listWrongUptoRow, standIns := [], harness := (true, "581f66defe2af5b0b6a7a45f79943fdddc9f9d990f48f687bc0350a18a9e154b"), looks := false }, kinds := [], alts := [], laidByText := true, laidKinds := [.data, .pinned], laidTests := true, laidLooks := .later }
def ListWrongUptoCardSaid : Prop := Claim7.holds Tryd.pinned (.plain (OpenSpec.upto listWrongSpec)) listWrongUptoCard

/-- THE SECOND FORM's CARD OF 'abecedarylaw12.ListMany'. -/
def listManyUptoCard : Claim7 := { stood := { row := listManyUptoRow, standIns := [], harness := (true, "581f66defe2af5b0b6a7a45f79943fdddc9f9d990f48f687bc0350a18a9e154b"), looks := false }, kinds := [], alts := [], laidByText := true, laidKinds := [.data, .pinned], laidTests := true, laidLooks := .later }
def ListManyUptoCardSaid : Prop := Claim7.holds Tryd.pinned (.plain (OpenSpec.upto listManySpec)) listManyUptoCard

/-- THE SECOND FORM's CARD OF 'abecedarylaw12.ListLines'. -/
def listLinesUptoCard : Claim7 := { stood := { row := listLinesUptoRow, standIns := [], harness := (true, "581f66defe2af5b0b6a7a45f79943fdddc9f9d990f48f687bc0350a18a9e154b"), looks := false }, kinds := [], alts := [], laidByText := true, laidKinds := [.data, .pinned], laidTests := true, laidLooks := .later }
def ListLinesUptoCardSaid : Prop := Claim7.holds Tryd.pinned (.plain (OpenSpec.upto listLinesSpec)) listLinesUptoCard
end Rows
end Go.Proofs.YtmadlappalhmlaaDoor
