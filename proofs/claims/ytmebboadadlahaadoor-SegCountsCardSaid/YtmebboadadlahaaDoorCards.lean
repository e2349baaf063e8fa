/-
  DERIVED. GIVEN WITH THE SEED: THE CARDS: each row of YtmebboadadlahaaDoorRows.lean that lists a variable, with what it lists TIED to the program's text (the seventh form; the later family's looks); each row that meets fmt, with fmt's text TOLD by the authors' own Lean function (tested against real Go, not proved from fmt's source: count such statements apart). THE CARD IS WHAT COUNTS. Prove the row's statement (the work); the ties are given (YtmebboadadlahaaDoorTie.lean); close each card by the builder's one call (the guide's Derived/Test/ToyasCard.lean, 'card_holds'). Laid BY PROGRAM, IN A SANDBOX (cutbox-door.mjs). By AI agents, Wed Nov 11 2026. No macro, syntax, notation, axiom, sorry.
-/
import Derived.Test.YtmebboadadlahaaDoorRows
import GoSem.ClaimSeven
namespace Go.Proofs.YtmebboadadlahaaDoor
namespace Rows

/-- THE TIED CARD OF 'abecedarylaw03.SegAll'. -/
def segAllCard : Claim7 := { stood := { row := segAllRow, standIns := [], harness := (true, "650f9b44cce42a0b3d950deda5560b72b0b53e93341b4c26e68d323e6e2d1936"), looks := false }, kinds := [], alts := [], laidByText := true, laidKinds := [.data, .pinned], laidTests := true, laidLooks := .later }
def SegAllCardSaid : Prop := Claim7.holds Tryd.pinned (.plain (OpenSpec.ofChange segAllSpec)) segAllCard

/-- THE TIED CARD OF 'abecedarylaw03.SegNumbers'. -/
def segNumbersCard : Claim7 := { stood := { row := segNumbersRow, standIns := [], harness := (true, "650f9b44cce42a0b3d950deda5560b72b0b53e93341b4c26e68d323e6e2d1936"), looks := false }, kinds := [], alts := [], laidByText := true, laidKinds := [.data, .pinned], laidTests := true, laidLooks := .later }
def SegNumbersCardSaid : Prop := Claim7.holds Tryd.pinned (.plain (OpenSpec.ofChange segNumbersSpec)) segNumbersCard

/-- THE TIED CARD OF 'abecedarylaw03.SegTouch'. -/
def segTouchCard : Claim7 := { stood := { row := segTouchRow, standIns := [], harness := (true, "650f9b44cce42a0b3d950deda5560b72b0b53e93341b4c26e68d323e6e2d1936"), looks := false }, kinds := [], alts := [], laidByText := true, laidKinds := [.data, .pinned], laidTests := true, laidLooks := .later }
def SegTouchCardSaid : Prop := Claim7.holds Tryd.pinned (.plain (OpenSpec.ofChange segTouchSpec)) segTouchCard

/-- THE TIED CARD OF 'abecedarylaw03.SegJoins'. -/
def segJoinsCard : Claim7 := { stood := { row := segJoinsRow, standIns := [], harness := (true, "650f9b44cce42a0b3d950deda5560b72b0b53e93341b4c26e68d323e6e2d1936"), looks := false }, kinds := [], alts := [], laidByText := true, laidKinds := [.data, .pinned], laidTests := true, laidLooks := .later }
def SegJoinsCardSaid : Prop := Claim7.holds Tryd.pinned (.plain (OpenSpec.ofChange segJoinsSpec)) segJoinsCard

/-- THE TIED CARD OF 'abecedarylaw03.SegCounts'. -/
def segCountsCard : Claim7 := { stood := { row := segCountsRow, standIns := [], harness := (true, "650f9b44cce42a0b3d950deda5560b72b0b53e93341b4c26e68d323e6e2d1936"), looks := false }, kinds := [], alts := [], laidByText := true, laidKinds := [.data, .pinned], laidTests := true, laidLooks := .later }
def SegCountsCardSaid : Prop := Claim7.holds Tryd.pinned (.plain (OpenSpec.ofChange segCountsSpec)) segCountsCard

/-- THE SECOND FORM's CARD OF 'abecedarylaw03.SegAll'. -/
def segAllUptoCard : Claim7 := { stood := { row := segAllUptoRow, standIns := [], harness := (true, "650f9b44cce42a0b3d950deda5560b72b0b53e93341b4c26e68d323e6e2d1936"), looks := false }, kinds := [], alts := [], laidByText := true, laidKinds := [.data, .pinned], laidTests := true, laidLooks := .later }
def SegAllUptoCardSaid : Prop := Claim7.holds Tryd.pinned (.plain (OpenSpec.upto segAllSpec)) segAllUptoCard

/-- THE SECOND FORM's CARD OF 'abecedarylaw03.SegNumbers'. -/
def segNumbersUptoCard : Claim7 := { stood := { row := segNumbersUptoRow, standIns := [], harness := (true, "650f9b44cce42a0b3d950deda5560b72b0b53e93341b4c26e68d323e6e2d1936"), looks := false }, kinds := [], alts := [], laidByText := true, laidKinds := [.data, .pinned], laidTests := true, laidLooks := .later }
def SegNumbersUptoCardSaid : Prop := Claim7.holds Tryd.pinned (.plain (OpenSpec.upto segNumbersSpec)) segNumbersUptoCard

/-- THE SECOND FORM's CARD OF 'abecedarylaw03.SegTouch'. -/
def segTouchUptoCard : Claim7 := { stood := { row := segTouchUptoRow, standIns := [], harness := (true, "650f9b44cce42a0b3d950deda5560b72b0b53e93341b4c26e68d323e6e2d1936"), looks := false }, kinds := [], alts := [], laidByText := true, laidKinds := [.data, .pinned], laidTests := true, laidLooks := .later }
def SegTouchUptoCardSaid : Prop := Claim7.holds Tryd.pinned (.plain (OpenSpec.upto segTouchSpec)) segTouchUptoCard

/-- THE SECOND FORM's CARD OF 'abecedarylaw03.SegJoins'. -/
def segJoinsUptoCard : Claim7 := { stood := { row := segJoinsUptoRow, standIns := [], harness := (true, "650f9b44cce42a0b3d950deda5560b72b0b53e93341b4c26e68d323e6e2d1936"), looks := false }, kinds := [], alts := [], laidByText := true, laidKinds := [.data, .pinned], laidTests := true, laidLooks := .later }
def SegJoinsUptoCardSaid : Prop := Claim7.holds Tryd.pinned (.plain (OpenSpec.upto segJoinsSpec)) segJoinsUptoCard

/-- THE SECOND FORM's CARD OF 'abecedarylaw03.SegCounts'. -/
def segCountsUptoCard : Claim7 := { stood := { row := segCountsUptoRow, standIns := [], harness := (true, "650f9b44cce42a0b3d950deda5560b72b0b53e93341b4c26e68d323e6e2d1936"), looks := false }, kinds := [], alts := [], laidByText := true, laidKinds := [.data, .pinned], laidTests := true, laidLooks := .later }
def SegCountsUptoCardSaid : Prop := Claim7.holds Tryd.pinned (.plain (OpenSpec.upto segCountsSpec)) segCountsUptoCard
end Rows
end Go.Proofs.YtmebboadadlahaaDoor
