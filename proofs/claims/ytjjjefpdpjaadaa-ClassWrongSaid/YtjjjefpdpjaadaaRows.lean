/-
  No cell of these rows narrows 'for every input' (looked for: loops, veiled, ifaces, maps, wideKeys, modest, calm, conditions, laid).
  DERIVED. THE GIVEN ROWS OF THIS SEAT. 4 by the template 'for every input the law returns true; each argument reads behind the call as it read before'; 0 by the template 'total and deterministic' (their statements: YtjjjefpdpjaadaaTotals.lean).
  GIVEN WITH THE SEED: the statements are not yours to turn. If you find one false, say at which input.
  Laid BY PROGRAM, IN A SANDBOX (cutbox-rows.mjs): the forced cells as the released guide's own fill.sh prints them over the translation b3980d3db306c894… (all of the seat's roots in one cut). By AI agents, Wed Nov 11 2026. No macro, syntax, notation, axiom, sorry.
-/
import Derived.Test.YtjjjefpdpjaadaaChecked
import GoSem.Claim
import GoSem.ClaimJoined
import GoSem.ClaimMapViews
import Derived.JoinedTies
import Derived.KernelRfl
namespace Go.Proofs.Ytjjjefpdpjaadaa
/- THE CELL 'sum', in the pinned program and in every row, IS THE sha256 OF THE DUMP (.gsa) THAT YtjjjefpdpjaadaaProg.lean LOADS. Nothing in Lean hashes anything: it is a label: what it is worth is what the hold of that sum in a sandbox is worth. -/
noncomputable def Try.pinned : Pinned := { name := "ytjjjefpdpjaadaa", sum := "b3980d3db306c89470647903519768434c1c2b5f4338cf649d74ddb63bbdf6b3", checked := Try.checked }
namespace Rows
def none {H : Type} : Left H := { results := [], args := [] }

/-- 'abecedarylaw02.ClassAll': WHATEVER THE INPUT: true; the input reads as it did. -/
def classAllSpec : ChangeSpec := { name := "classAll", fn := fun _ => fun
  | [d1, d2] => { results := [.lit (.bool true)], args := [d1, d2] }
  | _ => none }
def classAllRow : OpenClaim := { program := "ytjjjefpdpjaadaa", sum := "b3980d3db306c89470647903519768434c1c2b5f4338cf649d74ddb63bbdf6b3", func := "abecedary/abecedarylaw02.ClassAll", spec := "classAll", apart := false }
def ClassAllSaid : Prop := classAllRow.holds Try.pinned (OpenSpec.ofChange classAllSpec)

/-- ITS FALSE NEIGHBOUR: 'it returns false'. Refute it at one input. -/
def classAllWrong : ChangeSpec := { name := "classAll", fn := fun _ => fun
  | [d1, d2] => { results := [.lit (.bool false)], args := [d1, d2] }
  | _ => none }
def ClassAllWrongFalsely : Prop := classAllRow.holds Try.pinned (OpenSpec.ofChange classAllWrong)

/-- 'abecedarylaw02.ClassNumbers': WHATEVER THE INPUT: true; the input reads as it did. -/
def classNumbersSpec : ChangeSpec := { name := "classNumbers", fn := fun _ => fun
  | [d1, d2] => { results := [.lit (.bool true)], args := [d1, d2] }
  | _ => none }
def classNumbersRow : OpenClaim := { program := "ytjjjefpdpjaadaa", sum := "b3980d3db306c89470647903519768434c1c2b5f4338cf649d74ddb63bbdf6b3", func := "abecedary/abecedarylaw02.ClassNumbers", spec := "classNumbers", apart := false }
def ClassNumbersSaid : Prop := classNumbersRow.holds Try.pinned (OpenSpec.ofChange classNumbersSpec)

/-- ITS FALSE NEIGHBOUR: 'it returns false'. Refute it at one input. -/
def classNumbersWrong : ChangeSpec := { name := "classNumbers", fn := fun _ => fun
  | [d1, d2] => { results := [.lit (.bool false)], args := [d1, d2] }
  | _ => none }
def ClassNumbersWrongFalsely : Prop := classNumbersRow.holds Try.pinned (OpenSpec.ofChange classNumbersWrong)

/-- 'abecedarylaw02.ClassWrong': WHATEVER THE INPUT: true; the input reads as it did. -/
def classWrongSpec : ChangeSpec := { name := "classWrong", fn := fun _ => fun
  | [d1, d2, d3] => { results := [.lit (.bool true)], args := [d1, d2, d3] }
  | _ => none }
def classWrongRow : OpenClaim := { program := "ytjjjefpdpjaadaa", sum := "b3980d3db306c89470647903519768434c1c2b5f4338cf649d74ddb63bbdf6b3", func := "abecedary/abecedarylaw02.ClassWrong", spec := "classWrong", apart := false }
def ClassWrongSaid : Prop := classWrongRow.holds Try.pinned (OpenSpec.ofChange classWrongSpec)

/-- ITS FALSE NEIGHBOUR: 'it returns false'. Refute it at one input. -/
def classWrongWrong : ChangeSpec := { name := "classWrong", fn := fun _ => fun
  | [d1, d2, d3] => { results := [.lit (.bool false)], args := [d1, d2, d3] }
  | _ => none }
def ClassWrongWrongFalsely : Prop := classWrongRow.holds Try.pinned (OpenSpec.ofChange classWrongWrong)

/-- 'abecedarylaw02.ClassMany': WHATEVER THE INPUT: true; the input reads as it did. -/
def classManySpec : ChangeSpec := { name := "classMany", fn := fun _ => fun
  | [d1, d2] => { results := [.lit (.bool true)], args := [d1, d2] }
  | _ => none }
def classManyRow : OpenClaim := { program := "ytjjjefpdpjaadaa", sum := "b3980d3db306c89470647903519768434c1c2b5f4338cf649d74ddb63bbdf6b3", func := "abecedary/abecedarylaw02.ClassMany", spec := "classMany", apart := false }
def ClassManySaid : Prop := classManyRow.holds Try.pinned (OpenSpec.ofChange classManySpec)

/-- ITS FALSE NEIGHBOUR: 'it returns false'. Refute it at one input. -/
def classManyWrong : ChangeSpec := { name := "classMany", fn := fun _ => fun
  | [d1, d2] => { results := [.lit (.bool false)], args := [d1, d2] }
  | _ => none }
def ClassManyWrongFalsely : Prop := classManyRow.holds Try.pinned (OpenSpec.ofChange classManyWrong)

/- THE SECOND FORM. 'bulk': how many values and letters a reading holds, each counted each time it is reached (what is shared counts as often as it is met; a slice's spare places count too). A statement '..UptoSaid' is the law's where the arguments, and the package variables that the reading takes, are together of bulk at most 1048576: NARROWER than '..Said'. Prove '..Said' where nothing that the law and all that it calls make is longer than what came in: it says more and counts as full. Else prove '..UptoSaid'. A law counts once. -/
mutual
def uptoBulk {H : Type} : DataW H → Nat
  | .lit (.string bytes) => bytes.length + 1
  | .lit _ => 1
  | .nil => 1
  | .ptr d => uptoBulk d + 1
  | .slice elems spare => uptoBulkAll elems + uptoBulkAll spare + 1
  | .agg parts => uptoBulkAll parts + 1
  | .iface _ d => uptoBulk d + 1
  | .map entries => uptoBulkEntries entries + 1
  | .held _ => 1
def uptoBulkAll {H : Type} : List (DataW H) → Nat
  | [] => 0
  | d :: r => uptoBulk d + uptoBulkAll r
def uptoBulkEntries {H : Type} : List (Lit × DataW H) → Nat
  | [] => 0
  | x :: r => uptoBulkEntry x + uptoBulkEntries r
def uptoBulkEntry {H : Type} : Lit × DataW H → Nat
  | (.string bytes, d) => bytes.length + uptoBulk d + 1
  | (_, d) => uptoBulk d + 1
 end
def uptoSmall : (H : Type) → List (DataW H) → Bool := fun _ ds => decide (uptoBulkAll ds ≤ 1048576)
def OpenSpec.upto (s : _root_.Go.ChangeSpec) : _root_.Go.OpenSpec := { _root_.Go.OpenSpec.ofChange s with cond := some uptoSmall }

/-- 'abecedarylaw02.ClassAll', WHERE WHAT IT READS IS OF BULK AT MOST 1048576: true; the input reads as it did. -/
def classAllUptoRow : OpenClaim := { program := "ytjjjefpdpjaadaa", sum := "b3980d3db306c89470647903519768434c1c2b5f4338cf649d74ddb63bbdf6b3", func := "abecedary/abecedarylaw02.ClassAll", spec := "classAll", apart := false, narrowed := true }
def ClassAllUptoSaid : Prop := classAllUptoRow.holds Try.pinned (OpenSpec.upto classAllSpec)

/-- 'abecedarylaw02.ClassNumbers', WHERE WHAT IT READS IS OF BULK AT MOST 1048576: true; the input reads as it did. -/
def classNumbersUptoRow : OpenClaim := { program := "ytjjjefpdpjaadaa", sum := "b3980d3db306c89470647903519768434c1c2b5f4338cf649d74ddb63bbdf6b3", func := "abecedary/abecedarylaw02.ClassNumbers", spec := "classNumbers", apart := false, narrowed := true }
def ClassNumbersUptoSaid : Prop := classNumbersUptoRow.holds Try.pinned (OpenSpec.upto classNumbersSpec)

/-- 'abecedarylaw02.ClassWrong', WHERE WHAT IT READS IS OF BULK AT MOST 1048576: true; the input reads as it did. -/
def classWrongUptoRow : OpenClaim := { program := "ytjjjefpdpjaadaa", sum := "b3980d3db306c89470647903519768434c1c2b5f4338cf649d74ddb63bbdf6b3", func := "abecedary/abecedarylaw02.ClassWrong", spec := "classWrong", apart := false, narrowed := true }
def ClassWrongUptoSaid : Prop := classWrongUptoRow.holds Try.pinned (OpenSpec.upto classWrongSpec)

/-- 'abecedarylaw02.ClassMany', WHERE WHAT IT READS IS OF BULK AT MOST 1048576: true; the input reads as it did. -/
def classManyUptoRow : OpenClaim := { program := "ytjjjefpdpjaadaa", sum := "b3980d3db306c89470647903519768434c1c2b5f4338cf649d74ddb63bbdf6b3", func := "abecedary/abecedarylaw02.ClassMany", spec := "classMany", apart := false, narrowed := true }
def ClassManyUptoSaid : Prop := classManyUptoRow.holds Try.pinned (OpenSpec.upto classManySpec)

end Rows
end Go.Proofs.Ytjjjefpdpjaadaa
