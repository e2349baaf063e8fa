/-
  DERIVED. GIVEN WITH THE SEED: THE CARDS: each row of YtfhoffdgbkoffaaDoorRows.lean that lists a variable, with what it lists TIED to the program's text (the seventh form; the later family's looks); each row that meets fmt, with fmt's text TOLD by the authors' own Lean function (tested against real Go, not proved from fmt's source: count such statements apart). THE CARD IS WHAT COUNTS. Prove the row's statement (the work); the ties are given (YtfhoffdgbkoffaaDoorTie.lean); close each card by the builder's one call (the guide's Derived/Test/ToyasCard.lean, 'card_holds'). Laid BY PROGRAM, IN A SANDBOX (cutbox-door.mjs). By AI agents, Wed Nov 11 2026. No macro, syntax, notation, axiom, sorry.
-/
import Derived.Test.YtfhoffdgbkoffaaDoorRows
import GoSem.ClaimSeven
namespace Go.Proofs.YtfhoffdgbkoffaaDoor
namespace Rows

/-- THE TIED CARD OF 'abecedarylaw14.FoldTwice'. -/
def foldTwiceCard : Claim7 := { stood := { row := foldTwiceRow, standIns := [], harness := (true, "055abe57fd55b991a44cadd360e2f5907b549f2d2d719675bb6169f698bf01b9"), looks := false }, kinds := [], alts := [], laidByText := true, laidKinds := [.data, .pinned], laidTests := true, laidLooks := .later }
def FoldTwiceCardSaid : Prop := Claim7.holds Tryd.pinned (.plain (OpenSpec.ofChange foldTwiceSpec)) foldTwiceCard

/-- THE TIED CARD OF 'abecedarylaw14.FoldShapes'. -/
def foldShapesCard : Claim7 := { stood := { row := foldShapesRow, standIns := [], harness := (true, "055abe57fd55b991a44cadd360e2f5907b549f2d2d719675bb6169f698bf01b9"), looks := false }, kinds := [], alts := [], laidByText := true, laidKinds := [.data, .pinned], laidTests := true, laidLooks := .later }
def FoldShapesCardSaid : Prop := Claim7.holds Tryd.pinned (.plain (OpenSpec.ofChange foldShapesSpec)) foldShapesCard

/-- THE TIED CARD OF 'abecedarylaw14.FoldPairs'. -/
def foldPairsCard : Claim7 := { stood := { row := foldPairsRow, standIns := [], harness := (true, "055abe57fd55b991a44cadd360e2f5907b549f2d2d719675bb6169f698bf01b9"), looks := false }, kinds := [], alts := [], laidByText := true, laidKinds := [.data, .pinned], laidTests := true, laidLooks := .later }
def FoldPairsCardSaid : Prop := Claim7.holds Tryd.pinned (.plain (OpenSpec.ofChange foldPairsSpec)) foldPairsCard

/-- THE TIED CARD OF 'abecedarylaw14.FoldSides'. -/
def foldSidesCard : Claim7 := { stood := { row := foldSidesRow, standIns := [], harness := (true, "055abe57fd55b991a44cadd360e2f5907b549f2d2d719675bb6169f698bf01b9"), looks := false }, kinds := [], alts := [], laidByText := true, laidKinds := [.data, .pinned], laidTests := true, laidLooks := .later }
def FoldSidesCardSaid : Prop := Claim7.holds Tryd.pinned (.plain (OpenSpec.ofChange foldSidesSpec)) foldSidesCard

/-- THE SECOND FORM's CARD OF 'abecedarylaw14.FoldTwice'. -/
def foldTwiceUptoCard : Claim7 := { stood := { row := foldTwiceUptoRow, standIns := [], harness := (true, "055abe57fd55b991a44cadd360e2f5907b549f2d2d719675bb6169f698bf01b9"), looks := false }, kinds := [], alts := [], laidByText := true, laidKinds := [.data, .pinned], laidTests := true, laidLooks := .later }
def FoldTwiceUptoCardSaid : Prop := Claim7.holds Tryd.pinned (.plain (OpenSpec.upto foldTwiceSpec)) foldTwiceUptoCard

/-- THE SECOND FORM's CARD OF 'abecedarylaw14.FoldShapes'. -/
def foldShapesUptoCard : Claim7 := { stood := { row := foldShapesUptoRow, standIns := [], harness := (true, "055abe57fd55b991a44cadd360e2f5907b549f2d2d719675bb6169f698bf01b9"), looks := false }, kinds := [], alts := [], laidByText := true, laidKinds := [.data, .pinned], laidTests := true, laidLooks := .later }
def FoldShapesUptoCardSaid : Prop := Claim7.holds Tryd.pinned (.plain (OpenSpec.upto foldShapesSpec)) foldShapesUptoCard

/-- THE SECOND FORM's CARD OF 'abecedarylaw14.FoldPairs'. -/
def foldPairsUptoCard : Claim7 := { stood := { row := foldPairsUptoRow, standIns := [], harness := (true, "055abe57fd55b991a44cadd360e2f5907b549f2d2d719675bb6169f698bf01b9"), looks := false }, kinds := [], alts := [], laidByText := true, laidKinds := [.data, .pinned], laidTests := true, laidLooks := .later }
def FoldPairsUptoCardSaid : Prop := Claim7.holds Tryd.pinned (.plain (OpenSpec.upto foldPairsSpec)) foldPairsUptoCard

/-- THE SECOND FORM's CARD OF 'abecedarylaw14.FoldSides'. -/
def foldSidesUptoCard : Claim7 := { stood := { row := foldSidesUptoRow, standIns := [], harness := (true, "055abe57fd55b991a44cadd360e2f5907b549f2d2d719675bb6169f698bf01b9"), looks := false }, kinds := [], alts := [], laidByText := true, laidKinds := [.data, .pinned], laidTests := true, laidLooks := .later }
def FoldSidesUptoCardSaid : Prop := Claim7.holds Tryd.pinned (.plain (OpenSpec.upto foldSidesSpec)) foldSidesUptoCard
end Rows
end Go.Proofs.YtfhoffdgbkoffaaDoor
