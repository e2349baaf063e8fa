/-
  DERIVED. GIVEN WITH THE SEED: THE CARDS: each row of YtfenpcddmdopdaaDoorRows.lean that lists a variable, with what it lists TIED to the program's text (the seventh form; the later family's looks); each row that meets fmt, with fmt's text TOLD by the authors' own Lean function (tested against real Go, not proved from fmt's source: count such statements apart). THE CARD IS WHAT COUNTS. Prove the row's statement (the work); the ties are given (YtfenpcddmdopdaaDoorTie.lean); close each card by the builder's one call (the guide's Derived/Test/ToyasCard.lean, 'card_holds'). Laid BY PROGRAM, IN A SANDBOX (cutbox-door.mjs). By AI agents, Wed Nov 11 2026. No macro, syntax, notation, axiom, sorry.
-/
import Derived.Test.YtfenpcddmdopdaaDoorRows
import GoSem.ClaimSeven
namespace Go.Proofs.YtfenpcddmdopdaaDoor
namespace Rows

/-- THE TIED CARD OF 'abecedarylaw01.RunesAll'. -/
def runesAllCard : Claim7 := { stood := { row := runesAllRow, standIns := [], harness := (true, "fd19c32aef92ca727a140e3f9241f8aef7920b42f24432367e1999a3116a5931"), looks := false }, kinds := [], alts := [], laidByText := true, laidKinds := [.data, .pinned], laidTests := true, laidLooks := .later }
def RunesAllCardSaid : Prop := Claim7.holds Tryd.pinned (.plain (OpenSpec.ofChange runesAllSpec)) runesAllCard

/-- THE TIED CARD OF 'abecedarylaw01.RunesSide'. -/
def runesSideCard : Claim7 := { stood := { row := runesSideRow, standIns := [], harness := (true, "fd19c32aef92ca727a140e3f9241f8aef7920b42f24432367e1999a3116a5931"), looks := false }, kinds := [], alts := [], laidByText := true, laidKinds := [.data, .pinned], laidTests := true, laidLooks := .later }
def RunesSideCardSaid : Prop := Claim7.holds Tryd.pinned (.plain (OpenSpec.ofChange runesSideSpec)) runesSideCard

/-- THE TIED CARD OF 'abecedarylaw01.RunesCodes'. -/
def runesCodesCard : Claim7 := { stood := { row := runesCodesRow, standIns := [], harness := (true, "fd19c32aef92ca727a140e3f9241f8aef7920b42f24432367e1999a3116a5931"), looks := false }, kinds := [], alts := [], laidByText := true, laidKinds := [.data, .pinned], laidTests := true, laidLooks := .later }
def RunesCodesCardSaid : Prop := Claim7.holds Tryd.pinned (.plain (OpenSpec.ofChange runesCodesSpec)) runesCodesCard

/-- THE TIED CARD OF 'abecedarylaw01.RunesWrong'. -/
def runesWrongCard : Claim7 := { stood := { row := runesWrongRow, standIns := [], harness := (true, "fd19c32aef92ca727a140e3f9241f8aef7920b42f24432367e1999a3116a5931"), looks := false }, kinds := [], alts := [], laidByText := true, laidKinds := [.data, .pinned], laidTests := true, laidLooks := .later }
def RunesWrongCardSaid : Prop := Claim7.holds Tryd.pinned (.plain (OpenSpec.ofChange runesWrongSpec)) runesWrongCard

/-- THE SECOND FORM's CARD OF 'abecedarylaw01.RunesAll'. -/
def runesAllUptoCard : Claim7 := { stood := { row := runesAllUptoRow, standIns := [], harness := (true, "fd19c32aef92ca727a140e3f9241f8aef7920b42f24432367e1999a3116a5931"), looks := false }, kinds := [], alts := [], laidByText := true, laidKinds := [.data, .pinned], laidTests := true, laidLooks := .later }
def RunesAllUptoCardSaid : Prop := Claim7.holds Tryd.pinned (.plain (OpenSpec.upto runesAllSpec)) runesAllUptoCard

/-- THE SECOND FORM's CARD OF 'abecedarylaw01.RunesSide'. -/
def runesSideUptoCard : Claim7 := { stood := { row := runesSideUptoRow, standIns := [], harness := (true, "fd19c32aef92ca727a140e3f9241f8aef7920b42f24432367e1999a3116a5931"), looks := false }, kinds := [], alts := [], laidByText := true, laidKinds := [.data, .pinned], laidTests := true, laidLooks := .later }
def RunesSideUptoCardSaid : Prop := Claim7.holds Tryd.pinned (.plain (OpenSpec.upto runesSideSpec)) runesSideUptoCard

/-- THE SECOND FORM's CARD OF 'abecedarylaw01.RunesCodes'. -/
def runesCodesUptoCard : Claim7 := { stood := { row := runesCodesUptoRow, standIns := [], harness := (true, "fd19c32aef92ca727a140e3f9241f8aef7920b42f24432367e1999a3116a5931"), looks := false }, kinds := [], alts := [], laidByText := true, laidKinds := [.data, .pinned], laidTests := true, laidLooks := .later }
def RunesCodesUptoCardSaid : Prop := Claim7.holds Tryd.pinned (.plain (OpenSpec.upto runesCodesSpec)) runesCodesUptoCard

/-- THE SECOND FORM's CARD OF 'abecedarylaw01.RunesWrong'. -/
def runesWrongUptoCard : Claim7 := { stood := { row := runesWrongUptoRow, standIns := [], harness := (true, "fd19c32aef92ca727a140e3f9241f8aef7920b42f24432367e1999a3116a5931"), looks := false }, kinds := [], alts := [], laidByText := true, laidKinds := [.data, .pinned], laidTests := true, laidLooks := .later }
def RunesWrongUptoCardSaid : Prop := Claim7.holds Tryd.pinned (.plain (OpenSpec.upto runesWrongSpec)) runesWrongUptoCard
end Rows
end Go.Proofs.YtfenpcddmdopdaaDoor
