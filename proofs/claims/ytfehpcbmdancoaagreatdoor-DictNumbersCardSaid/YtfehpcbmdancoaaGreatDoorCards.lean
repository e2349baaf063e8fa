/-
  DERIVED. GIVEN WITH THE SEED: THE CARDS: each row of YtfehpcbmdancoaaGreatDoorRows.lean that lists a variable, with what it lists TIED to the program's text (the seventh form; the later family's looks); each row that meets fmt, with fmt's text TOLD by the authors' own Lean function (tested against real Go, not proved from fmt's source: count such statements apart). THE CARD IS WHAT COUNTS. Prove the row's statement (the work); the ties are given (YtfehpcbmdancoaaGreatDoorTie.lean); close each card by the builder's one call (the guide's Derived/Test/ToyasCard.lean, 'card_holds'). Laid BY PROGRAM, IN A SANDBOX (cutbox-door.mjs). By AI agents, Wed Nov 11 2026. No macro, syntax, notation, axiom, sorry.
-/
import Derived.Test.YtfehpcbmdancoaaGreatDoorRows
import GoSem.ClaimSeven
namespace Go.Proofs.YtfehpcbmdancoaaGreatDoor
namespace Rows

/-- THE TIED CARD OF 'abecedarylaw16.DictAll'. -/
def dictAllCard : Claim7 := { stood := { row := dictAllRow, standIns := [], harness := (true, "23cdd88ae7dd9283ea00caf079ac3489d2efaea85f59dc3271d13caf31abc8e6"), looks := false }, kinds := [], alts := [], laidByText := true, laidKinds := [.data, .pinned], laidTests := true, laidLooks := .later }
def DictAllCardSaid : Prop := Claim7.holds Tryz.pinned (.plain (OpenSpec.ofChange dictAllSpec)) dictAllCard

/-- THE TIED CARD OF 'abecedarylaw16.DictNumbers'. -/
def dictNumbersCard : Claim7 := { stood := { row := dictNumbersRow, standIns := [], harness := (true, "23cdd88ae7dd9283ea00caf079ac3489d2efaea85f59dc3271d13caf31abc8e6"), looks := false }, kinds := [], alts := [], laidByText := true, laidKinds := [.data, .pinned], laidTests := true, laidLooks := .later }
def DictNumbersCardSaid : Prop := Claim7.holds Tryz.pinned (.plain (OpenSpec.ofChange dictNumbersSpec)) dictNumbersCard

/-- THE TIED CARD OF 'abecedarylaw16.DictCases'. -/
def dictCasesCard : Claim7 := { stood := { row := dictCasesRow, standIns := [], harness := (true, "23cdd88ae7dd9283ea00caf079ac3489d2efaea85f59dc3271d13caf31abc8e6"), looks := false }, kinds := [], alts := [], laidByText := true, laidKinds := [.data, .pinned], laidTests := true, laidLooks := .later }
def DictCasesCardSaid : Prop := Claim7.holds Tryz.pinned (.plain (OpenSpec.ofChange dictCasesSpec)) dictCasesCard

/-- THE TIED CARD OF 'abecedarylaw16.DictErrors'. -/
def dictErrorsCard : Claim7 := { stood := { row := dictErrorsRow, standIns := [], harness := (true, "23cdd88ae7dd9283ea00caf079ac3489d2efaea85f59dc3271d13caf31abc8e6"), looks := false }, kinds := [], alts := [], laidByText := true, laidKinds := [.data, .pinned], laidTests := true, laidLooks := .later }
def DictErrorsCardSaid : Prop := Claim7.holds Tryz.pinned (.plain (OpenSpec.ofChange dictErrorsSpec)) dictErrorsCard

/-- THE TIED CARD OF 'abecedarylaw16.DictForms'. -/
def dictFormsCard : Claim7 := { stood := { row := dictFormsRow, standIns := [], harness := (true, "23cdd88ae7dd9283ea00caf079ac3489d2efaea85f59dc3271d13caf31abc8e6"), looks := false }, kinds := [], alts := [], laidByText := true, laidKinds := [.data, .pinned], laidTests := true, laidLooks := .later }
def DictFormsCardSaid : Prop := Claim7.holds Tryz.pinned (.plain (OpenSpec.ofChange dictFormsSpec)) dictFormsCard

/-- THE SECOND FORM's CARD OF 'abecedarylaw16.DictAll'. -/
def dictAllUptoCard : Claim7 := { stood := { row := dictAllUptoRow, standIns := [], harness := (true, "23cdd88ae7dd9283ea00caf079ac3489d2efaea85f59dc3271d13caf31abc8e6"), looks := false }, kinds := [], alts := [], laidByText := true, laidKinds := [.data, .pinned], laidTests := true, laidLooks := .later }
def DictAllUptoCardSaid : Prop := Claim7.holds Tryz.pinned (.plain (OpenSpec.upto dictAllSpec)) dictAllUptoCard

/-- THE SECOND FORM's CARD OF 'abecedarylaw16.DictNumbers'. -/
def dictNumbersUptoCard : Claim7 := { stood := { row := dictNumbersUptoRow, standIns := [], harness := (true, "23cdd88ae7dd9283ea00caf079ac3489d2efaea85f59dc3271d13caf31abc8e6"), looks := false }, kinds := [], alts := [], laidByText := true, laidKinds := [.data, .pinned], laidTests := true, laidLooks := .later }
def DictNumbersUptoCardSaid : Prop := Claim7.holds Tryz.pinned (.plain (OpenSpec.upto dictNumbersSpec)) dictNumbersUptoCard

/-- THE SECOND FORM's CARD OF 'abecedarylaw16.DictCases'. -/
def dictCasesUptoCard : Claim7 := { stood := { row := dictCasesUptoRow, standIns := [], harness := (true, "23cdd88ae7dd9283ea00caf079ac3489d2efaea85f59dc3271d13caf31abc8e6"), looks := false }, kinds := [], alts := [], laidByText := true, laidKinds := [.data, .pinned], laidTests := true, laidLooks := .later }
def DictCasesUptoCardSaid : Prop := Claim7.holds Tryz.pinned (.plain (OpenSpec.upto dictCasesSpec)) dictCasesUptoCard

/-- THE SECOND FORM's CARD OF 'abecedarylaw16.DictErrors'. -/
def dictErrorsUptoCard : Claim7 := { stood := { row := dictErrorsUptoRow, standIns := [], harness := (true, "23cdd88ae7dd9283ea00caf079ac3489d2efaea85f59dc3271d13caf31abc8e6"), looks := false }, kinds := [], alts := [], laidByText := true, laidKinds := [.data, .pinned], laidTests := true, laidLooks := .later }
def DictErrorsUptoCardSaid : Prop := Claim7.holds Tryz.pinned (.plain (OpenSpec.upto dictErrorsSpec)) dictErrorsUptoCard

/-- THE SECOND FORM's CARD OF 'abecedarylaw16.DictForms'. -/
def dictFormsUptoCard : Claim7 := { stood := { row := dictFormsUptoRow, standIns := [], harness := (true, "23cdd88ae7dd9283ea00caf079ac3489d2efaea85f59dc3271d13caf31abc8e6"), looks := false }, kinds := [], alts := [], laidByText := true, laidKinds := [.data, .pinned], laidTests := true, laidLooks := .later }
def DictFormsUptoCardSaid : Prop := Claim7.holds Tryz.pinned (.plain (OpenSpec.upto dictFormsSpec)) dictFormsUptoCard
end Rows
end Go.Proofs.YtfehpcbmdancoaaGreatDoor
