/-
  No cell of these rows narrows 'for every input' (looked for: loops, veiled, ifaces, maps, wideKeys, modest, calm, conditions, laid).
  DERIVED. THE GIVEN ROWS OF THIS SEAT. 4 by the template 'for every input the law returns true; each argument reads behind the call as it read before'; 0 by the template 'total and deterministic' (their statements: YtjpomfjcofjanaaTotals.lean).
  GIVEN WITH THE SEED: the statements are not yours to turn. If you find one false, say at which input.
  Laid BY PROGRAM, IN A SANDBOX (cutbox-rows.mjs): the forced cells as the released guide's own fill.sh prints them over the translation d0dbf6a34b512fd6… (all of the seat's roots in one cut). By AI agents, Wed Nov 11 2026. No macro, syntax, notation, axiom, sorry.
-/
import Derived.Test.YtjpomfjcofjanaaChecked
import GoSem.Claim
import GoSem.ClaimJoined
import GoSem.ClaimMapViews
import Derived.JoinedTies
import Derived.KernelRfl
namespace Go.Proofs.Ytjpomfjcofjanaa
/- THE CELL 'sum', in the pinned program and in every row, IS THE sha256 OF THE DUMP (.gsa) THAT YtjpomfjcofjanaaProg.lean LOADS. Nothing in Lean hashes anything: it is a label: what it is worth is what the hold of that sum in a sandbox is worth. -/
noncomputable def Try.pinned : Pinned := { name := "ytjpomfjcofjanaa", sum := "d0dbf6a34b512fd6aa7d935e1fda6e8bf96d5bb9fea266e978ebbfec9e155af6", checked := Try.checked }
namespace Rows
def none {H : Type} : Left H := { results := [], args := [] }

/-- 'abecedarylaw06.BufferPlays': WHATEVER THE INPUT: true; the input reads as it did. -/
def bufferPlaysSpec : ChangeSpec := { name := "bufferPlays", fn := fun _ => fun
  | [d1, d2, d3] => { results := [.lit (.bool true)], args := [d1, d2, d3] }
  | _ => none }
def bufferPlaysRow : OpenClaim := { program := "ytjpomfjcofjanaa", sum := "d0dbf6a34b512fd6aa7d935e1fda6e8bf96d5bb9fea266e978ebbfec9e155af6", func := "abecedary/abecedarylaw06.BufferPlays", spec := "bufferPlays", inPlace := ["internal/abi.NoEscape", "internal/bytealg.MakeNoZero"], unfollowed := true, recurses := true, apart := false }
def BufferPlaysSaid : Prop := bufferPlaysRow.holds Try.pinned (OpenSpec.ofChange bufferPlaysSpec)

/-- ITS FALSE NEIGHBOUR: 'it returns false'. Refute it at one input. -/
def bufferPlaysWrong : ChangeSpec := { name := "bufferPlays", fn := fun _ => fun
  | [d1, d2, d3] => { results := [.lit (.bool false)], args := [d1, d2, d3] }
  | _ => none }
def BufferPlaysWrongFalsely : Prop := bufferPlaysRow.holds Try.pinned (OpenSpec.ofChange bufferPlaysWrong)

/-- 'abecedarylaw06.BufferNumbers': WHATEVER THE INPUT: true; the input reads as it did. -/
def bufferNumbersSpec : ChangeSpec := { name := "bufferNumbers", fn := fun _ => fun
  | [d1, d2] => { results := [.lit (.bool true)], args := [d1, d2] }
  | _ => none }
def bufferNumbersRow : OpenClaim := { program := "ytjpomfjcofjanaa", sum := "d0dbf6a34b512fd6aa7d935e1fda6e8bf96d5bb9fea266e978ebbfec9e155af6", func := "abecedary/abecedarylaw06.BufferNumbers", spec := "bufferNumbers", inPlace := ["internal/abi.NoEscape", "internal/bytealg.MakeNoZero"], unfollowed := true, recurses := true, apart := false }
def BufferNumbersSaid : Prop := bufferNumbersRow.holds Try.pinned (OpenSpec.ofChange bufferNumbersSpec)

/-- ITS FALSE NEIGHBOUR: 'it returns false'. Refute it at one input. -/
def bufferNumbersWrong : ChangeSpec := { name := "bufferNumbers", fn := fun _ => fun
  | [d1, d2] => { results := [.lit (.bool false)], args := [d1, d2] }
  | _ => none }
def BufferNumbersWrongFalsely : Prop := bufferNumbersRow.holds Try.pinned (OpenSpec.ofChange bufferNumbersWrong)

/-- 'abecedarylaw06.BufferFull': WHATEVER THE INPUT: true; the input reads as it did. -/
def bufferFullSpec : ChangeSpec := { name := "bufferFull", fn := fun _ => fun
  | [d1, d2, d3, d4] => { results := [.lit (.bool true)], args := [d1, d2, d3, d4] }
  | _ => none }
def bufferFullRow : OpenClaim := { program := "ytjpomfjcofjanaa", sum := "d0dbf6a34b512fd6aa7d935e1fda6e8bf96d5bb9fea266e978ebbfec9e155af6", func := "abecedary/abecedarylaw06.BufferFull", spec := "bufferFull", inPlace := ["internal/abi.NoEscape", "internal/bytealg.MakeNoZero"], unfollowed := true, recurses := true, apart := false }
def BufferFullSaid : Prop := bufferFullRow.holds Try.pinned (OpenSpec.ofChange bufferFullSpec)

/-- ITS FALSE NEIGHBOUR: 'it returns false'. Refute it at one input. -/
def bufferFullWrong : ChangeSpec := { name := "bufferFull", fn := fun _ => fun
  | [d1, d2, d3, d4] => { results := [.lit (.bool false)], args := [d1, d2, d3, d4] }
  | _ => none }
def BufferFullWrongFalsely : Prop := bufferFullRow.holds Try.pinned (OpenSpec.ofChange bufferFullWrong)

/-- 'abecedarylaw06.BufferPlaces': WHATEVER THE INPUT: true; the input reads as it did. -/
def bufferPlacesSpec : ChangeSpec := { name := "bufferPlaces", fn := fun _ => fun
  | [d1, d2, d3] => { results := [.lit (.bool true)], args := [d1, d2, d3] }
  | _ => none }
def bufferPlacesRow : OpenClaim := { program := "ytjpomfjcofjanaa", sum := "d0dbf6a34b512fd6aa7d935e1fda6e8bf96d5bb9fea266e978ebbfec9e155af6", func := "abecedary/abecedarylaw06.BufferPlaces", spec := "bufferPlaces", inPlace := ["internal/abi.NoEscape", "internal/bytealg.MakeNoZero"], unfollowed := true, recurses := true, apart := false }
def BufferPlacesSaid : Prop := bufferPlacesRow.holds Try.pinned (OpenSpec.ofChange bufferPlacesSpec)

/-- ITS FALSE NEIGHBOUR: 'it returns false'. Refute it at one input. -/
def bufferPlacesWrong : ChangeSpec := { name := "bufferPlaces", fn := fun _ => fun
  | [d1, d2, d3] => { results := [.lit (.bool false)], args := [d1, d2, d3] }
  | _ => none }
def BufferPlacesWrongFalsely : Prop := bufferPlacesRow.holds Try.pinned (OpenSpec.ofChange bufferPlacesWrong)

/- THE SECOND FORM. 'bulk': how many values and letters a reading holds, each counted each time it is reached (what is shared counts as often as it is met; a slice's spare places count too). A statement '..UptoSaid' is the law's where the arguments, and the package variables that the reading takes, are together of bulk at most 1048576: NARROWER than '..Said'. Prove '..Said' where nothing that the law and all that it calls make is longer than what came in: it says more and counts as full. Else prove '..UptoSaid'. A law counts once. -/
mutual
def uptoBulk {H : Type} : DataW H → Nat
  | .lit (.string bytes) => bytes.length + 1
  | .lit _ => 1
  | .nil => 1
  | .ptr d => uptoBulk d + 1
  | .slice elems spare => uptoBulkAll elems + uptoBulkAll spare + 1
  | .agg parts => uptoBulkAll parts + 1
  | .iface _ d => uptoBulk d + 1
  | .map entries => uptoBulkEntries entries + 1
  | .held _ => 1
def uptoBulkAll {H : Type} : List (DataW H) → Nat
  | [] => 0
  | d :: r => uptoBulk d + uptoBulkAll r
def uptoBulkEntries {H : Type} : List (Lit × DataW H) → Nat
  | [] => 0
  | x :: r => uptoBulkEntry x + uptoBulkEntries r
def uptoBulkEntry {H : Type} : Lit × DataW H → Nat
  | (.string bytes, d) => bytes.length + uptoBulk d + 1
  | (_, d) => uptoBulk d + 1
 end
def uptoSmall : (H : Type) → List (DataW H) → Bool := fun _ ds => decide (uptoBulkAll ds ≤ 1048576)
def OpenSpec.upto (s : _root_.Go.ChangeSpec) : _root_.Go.OpenSpec := { _root_.Go.OpenSpec.ofChange s with cond := some uptoSmall }

/-- 'abecedarylaw06.BufferPlays', WHERE WHAT IT READS IS OF BULK AT MOST 1048576: true; the input reads as it did. -/
def bufferPlaysUptoRow : OpenClaim := { program := "ytjpomfjcofjanaa", sum := "d0dbf6a34b512fd6aa7d935e1fda6e8bf96d5bb9fea266e978ebbfec9e155af6", func := "abecedary/abecedarylaw06.BufferPlays", spec := "bufferPlays", inPlace := ["internal/abi.NoEscape", "internal/bytealg.MakeNoZero"], unfollowed := true, recurses := true, apart := false, narrowed := true }
def BufferPlaysUptoSaid : Prop := bufferPlaysUptoRow.holds Try.pinned (OpenSpec.upto bufferPlaysSpec)

/-- 'abecedarylaw06.BufferNumbers', WHERE WHAT IT READS IS OF BULK AT MOST 1048576: true; the input reads as it did. -/
def bufferNumbersUptoRow : OpenClaim := { program := "ytjpomfjcofjanaa", sum := "d0dbf6a34b512fd6aa7d935e1fda6e8bf96d5bb9fea266e978ebbfec9e155af6", func := "abecedary/abecedarylaw06.BufferNumbers", spec := "bufferNumbers", inPlace := ["internal/abi.NoEscape", "internal/bytealg.MakeNoZero"], unfollowed := true, recurses := true, apart := false, narrowed := true }
def BufferNumbersUptoSaid : Prop := bufferNumbersUptoRow.holds Try.pinned (OpenSpec.upto bufferNumbersSpec)

/-- 'abecedarylaw06.BufferFull', WHERE WHAT IT READS IS OF BULK AT MOST 1048576: true; the input reads as it did. -/
def bufferFullUptoRow : OpenClaim := { program := "ytjpomfjcofjanaa", sum := "d0dbf6a34b512fd6aa7d935e1fda6e8bf96d5bb9fea266e978ebbfec9e155af6", func := "abecedary/abecedarylaw06.BufferFull", spec := "bufferFull", inPlace := ["internal/abi.NoEscape", "internal/bytealg.MakeNoZero"], unfollowed := true, recurses := true, apart := false, narrowed := true }
def BufferFullUptoSaid : Prop := bufferFullUptoRow.holds Try.pinned (OpenSpec.upto bufferFullSpec)

/-- 'abecedarylaw06.BufferPlaces', WHERE WHAT IT READS IS OF BULK AT MOST 1048576: true; the input reads as it did. -/
def bufferPlacesUptoRow : OpenClaim := { program := "ytjpomfjcofjanaa", sum := "d0dbf6a34b512fd6aa7d935e1fda6e8bf96d5bb9fea266e978ebbfec9e155af6", func := "abecedary/abecedarylaw06.BufferPlaces", spec := "bufferPlaces", inPlace := ["internal/abi.NoEscape", "internal/bytealg.MakeNoZero"], unfollowed := true, recurses := true, apart := false, narrowed := true }
def BufferPlacesUptoSaid : Prop := bufferPlacesUptoRow.holds Try.pinned (OpenSpec.upto bufferPlacesSpec)

end Rows
end Go.Proofs.Ytjpomfjcofjanaa
