/-
  No cell of these rows narrows 'for every input' (looked for: loops, veiled, ifaces, maps, wideKeys, modest, calm, conditions, laid).
  DERIVED. THE GIVEN ROWS OF THIS SEAT. 5 by the template 'for every input the law returns true; each argument reads behind the call as it read before'; 0 by the template 'total and deterministic' (their statements: YtkabdieenijnlaaTotals.lean).
  GIVEN WITH THE SEED: the statements are not yours to turn. If you find one false, say at which input.
  Laid BY PROGRAM, IN A SANDBOX (cutbox-rows.mjs): the forced cells as the released guide's own fill.sh prints them over the translation 271ab380dde8223b… (all of the seat's roots in one cut). By AI agents, Wed Nov 11 2026. No macro, syntax, notation, axiom, sorry.
-/
import Derived.Test.YtkabdieenijnlaaChecked
import GoSem.Claim
import GoSem.ClaimJoined
import GoSem.ClaimMapViews
import Derived.JoinedTies
import Derived.KernelRfl
namespace Go.Proofs.Ytkabdieenijnlaa
/- THE CELL 'sum', in the pinned program and in every row, IS THE sha256 OF THE DUMP (.gsa) THAT YtkabdieenijnlaaProg.lean LOADS. Nothing in Lean hashes anything: it is a label: what it is worth is what the hold of that sum in a sandbox is worth. -/
noncomputable def Try.pinned : Pinned := { name := "ytkabdieenijnlaa", sum := "271ab380dde8223b3af8507a1bfbd69a03b2e2e8ea4c7605b837c2ff95e5e518", checked := Try.checked }
namespace Rows
def none {H : Type} : Left H := { results := [], args := [] }

/-- 'abecedarylaw15.DawgBuilds': WHATEVER THE INPUT: true; the input reads as it did. -/
def dawgBuildsSpec : ChangeSpec := { name := "dawgBuilds", fn := fun _ => fun
  | [d1, d2] => { results := [.lit (.bool true)], args := [d1, d2] }
  | _ => none }
def dawgBuildsRow : OpenClaim := { program := "ytkabdieenijnlaa", sum := "271ab380dde8223b3af8507a1bfbd69a03b2e2e8ea4c7605b837c2ff95e5e518", func := "abecedary/abecedarylaw15.DawgBuilds", spec := "dawgBuilds", unfollowed := true, recurses := true, plainKeys := false, apart := false }
def DawgBuildsSaid : Prop := dawgBuildsRow.holds Try.pinned (OpenSpec.ofChange dawgBuildsSpec)

/-- ITS FALSE NEIGHBOUR: 'it returns false'. Refute it at one input. -/
def dawgBuildsWrong : ChangeSpec := { name := "dawgBuilds", fn := fun _ => fun
  | [d1, d2] => { results := [.lit (.bool false)], args := [d1, d2] }
  | _ => none }
def DawgBuildsWrongFalsely : Prop := dawgBuildsRow.holds Try.pinned (OpenSpec.ofChange dawgBuildsWrong)

/-- 'abecedarylaw15.DawgOrder': WHATEVER THE INPUT: true; the input reads as it did. -/
def dawgOrderSpec : ChangeSpec := { name := "dawgOrder", fn := fun _ => fun
  | [d1, d2] => { results := [.lit (.bool true)], args := [d1, d2] }
  | _ => none }
def dawgOrderRow : OpenClaim := { program := "ytkabdieenijnlaa", sum := "271ab380dde8223b3af8507a1bfbd69a03b2e2e8ea4c7605b837c2ff95e5e518", func := "abecedary/abecedarylaw15.DawgOrder", spec := "dawgOrder", unfollowed := true, recurses := true, plainKeys := false, apart := false }
def DawgOrderSaid : Prop := dawgOrderRow.holds Try.pinned (OpenSpec.ofChange dawgOrderSpec)

/-- ITS FALSE NEIGHBOUR: 'it returns false'. Refute it at one input. -/
def dawgOrderWrong : ChangeSpec := { name := "dawgOrder", fn := fun _ => fun
  | [d1, d2] => { results := [.lit (.bool false)], args := [d1, d2] }
  | _ => none }
def DawgOrderWrongFalsely : Prop := dawgOrderRow.holds Try.pinned (OpenSpec.ofChange dawgOrderWrong)

/-- 'abecedarylaw15.DawgWays': WHATEVER THE INPUT: true; the input reads as it did. -/
def dawgWaysSpec : ChangeSpec := { name := "dawgWays", fn := fun _ => fun
  | [d1, d2, d3] => { results := [.lit (.bool true)], args := [d1, d2, d3] }
  | _ => none }
def dawgWaysRow : OpenClaim := { program := "ytkabdieenijnlaa", sum := "271ab380dde8223b3af8507a1bfbd69a03b2e2e8ea4c7605b837c2ff95e5e518", func := "abecedary/abecedarylaw15.DawgWays", spec := "dawgWays", unfollowed := true, recurses := true, plainKeys := false, apart := false }
def DawgWaysSaid : Prop := dawgWaysRow.holds Try.pinned (OpenSpec.ofChange dawgWaysSpec)

/-- ITS FALSE NEIGHBOUR: 'it returns false'. Refute it at one input. -/
def dawgWaysWrong : ChangeSpec := { name := "dawgWays", fn := fun _ => fun
  | [d1, d2, d3] => { results := [.lit (.bool false)], args := [d1, d2, d3] }
  | _ => none }
def DawgWaysWrongFalsely : Prop := dawgWaysRow.holds Try.pinned (OpenSpec.ofChange dawgWaysWrong)

/-- 'abecedarylaw15.DawgKnown': WHATEVER THE INPUT: true; the input reads as it did. -/
def dawgKnownSpec : ChangeSpec := { name := "dawgKnown", fn := fun _ => fun
  | [d1, d2] => { results := [.lit (.bool true)], args := [d1, d2] }
  | _ => none }
def dawgKnownRow : OpenClaim := { program := "ytkabdieenijnlaa", sum := "271ab380dde8223b3af8507a1bfbd69a03b2e2e8ea4c7605b837c2ff95e5e518", func := "abecedary/abecedarylaw15.DawgKnown", spec := "dawgKnown", unfollowed := true, recurses := true, plainKeys := false, apart := false }
def DawgKnownSaid : Prop := dawgKnownRow.holds Try.pinned (OpenSpec.ofChange dawgKnownSpec)

/-- ITS FALSE NEIGHBOUR: 'it returns false'. Refute it at one input. -/
def dawgKnownWrong : ChangeSpec := { name := "dawgKnown", fn := fun _ => fun
  | [d1, d2] => { results := [.lit (.bool false)], args := [d1, d2] }
  | _ => none }
def DawgKnownWrongFalsely : Prop := dawgKnownRow.holds Try.pinned (OpenSpec.ofChange dawgKnownWrong)

/-- 'abecedarylaw15.DawgBig': WHATEVER THE INPUT: true; the input reads as it did. -/
def dawgBigSpec : ChangeSpec := { name := "dawgBig", fn := fun _ => fun
  | [d] => { results := [.lit (.bool true)], args := [d] }
  | _ => none }
def dawgBigRow : OpenClaim := { program := "ytkabdieenijnlaa", sum := "271ab380dde8223b3af8507a1bfbd69a03b2e2e8ea4c7605b837c2ff95e5e518", func := "abecedary/abecedarylaw15.DawgBig", spec := "dawgBig", unfollowed := true, recurses := true, plainKeys := false, apart := false }
def DawgBigSaid : Prop := dawgBigRow.holds Try.pinned (OpenSpec.ofChange dawgBigSpec)

/-- ITS FALSE NEIGHBOUR: 'it returns false'. Refute it at one input. -/
def dawgBigWrong : ChangeSpec := { name := "dawgBig", fn := fun _ => fun
  | [d] => { results := [.lit (.bool false)], args := [d] }
  | _ => none }
def DawgBigWrongFalsely : Prop := dawgBigRow.holds Try.pinned (OpenSpec.ofChange dawgBigWrong)

/- THE SECOND FORM. 'bulk': how many values and letters a reading holds, each counted each time it is reached (what is shared counts as often as it is met; a slice's spare places count too). A statement '..UptoSaid' is the law's where the arguments, and the package variables that the reading takes, are together of bulk at most 1048576: NARROWER than '..Said'. Prove '..Said' where nothing that the law and all that it calls make is longer than what came in: it says more and counts as full. Else prove '..UptoSaid'. A law counts once. -/
mutual
def uptoBulk {H : Type} : DataW H → Nat
  | .lit (.string bytes) => bytes.length + 1
  | .lit _ => 1
  | .nil => 1
  | .ptr d => uptoBulk d + 1
  | .slice elems spare => uptoBulkAll elems + uptoBulkAll spare + 1
  | .agg parts => uptoBulkAll parts + 1
  | .iface _ d => uptoBulk d + 1
  | .map entries => uptoBulkEntries entries + 1
  | .held _ => 1
def uptoBulkAll {H : Type} : List (DataW H) → Nat
  | [] => 0
  | d :: r => uptoBulk d + uptoBulkAll r
def uptoBulkEntries {H : Type} : List (Lit × DataW H) → Nat
  | [] => 0
  | x :: r => uptoBulkEntry x + uptoBulkEntries r
def uptoBulkEntry {H : Type} : Lit × DataW H → Nat
  | (.string bytes, d) => bytes.length + uptoBulk d + 1
  | (_, d) => uptoBulk d + 1
 end
def uptoSmall : (H : Type) → List (DataW H) → Bool := fun _ ds => decide (uptoBulkAll ds ≤ 1048576)
def OpenSpec.upto (s : _root_.Go.ChangeSpec) : _root_.Go.OpenSpec := { _root_.Go.OpenSpec.ofChange s with cond := some uptoSmall }

/-- 'abecedarylaw15.DawgBuilds', WHERE WHAT IT READS IS OF BULK AT MOST 1048576: true; the input reads as it did. -/
def dawgBuildsUptoRow : OpenClaim := { program := "ytkabdieenijnlaa", sum := "271ab380dde8223b3af8507a1bfbd69a03b2e2e8ea4c7605b837c2ff95e5e518", func := "abecedary/abecedarylaw15.DawgBuilds", spec := "dawgBuilds", unfollowed := true, recurses := true, plainKeys := false, apart := false, narrowed := true }
def DawgBuildsUptoSaid : Prop := dawgBuildsUptoRow.holds Try.pinned (OpenSpec.upto dawgBuildsSpec)

/-- 'abecedarylaw15.DawgOrder', WHERE WHAT IT READS IS OF BULK AT MOST 1048576: true; the input reads as it did. -/
def dawgOrderUptoRow : OpenClaim := { program := "ytkabdieenijnlaa", sum := "271ab380dde8223b3af8507a1bfbd69a03b2e2e8ea4c7605b837c2ff95e5e518", func := "abecedary/abecedarylaw15.DawgOrder", spec := "dawgOrder", unfollowed := true, recurses := true, plainKeys := false, apart := false, narrowed := true }
def DawgOrderUptoSaid : Prop := dawgOrderUptoRow.holds Try.pinned (OpenSpec.upto dawgOrderSpec)

/-- 'abecedarylaw15.DawgWays', WHERE WHAT IT READS IS OF BULK AT MOST 1048576: true; the input reads as it did. -/
def dawgWaysUptoRow : OpenClaim := { program := "ytkabdieenijnlaa", sum := "271ab380dde8223b3af8507a1bfbd69a03b2e2e8ea4c7605b837c2ff95e5e518", func := "abecedary/abecedarylaw15.DawgWays", spec := "dawgWays", unfollowed := true, recurses := true, plainKeys := false, apart := false, narrowed := true }
def DawgWaysUptoSaid : Prop := dawgWaysUptoRow.holds Try.pinned (OpenSpec.upto dawgWaysSpec)

/-- 'abecedarylaw15.DawgKnown', WHERE WHAT IT READS IS OF BULK AT MOST 1048576: true; the input reads as it did. -/
def dawgKnownUptoRow : OpenClaim := { program := "ytkabdieenijnlaa", sum := "271ab380dde8223b3af8507a1bfbd69a03b2e2e8ea4c7605b837c2ff95e5e518", func := "abecedary/abecedarylaw15.DawgKnown", spec := "dawgKnown", unfollowed := true, recurses := true, plainKeys := false, apart := false, narrowed := true }
def DawgKnownUptoSaid : Prop := dawgKnownUptoRow.holds Try.pinned (OpenSpec.upto dawgKnownSpec)

/-- 'abecedarylaw15.DawgBig', WHERE WHAT IT READS IS OF BULK AT MOST 1048576: true; the input reads as it did. -/
def dawgBigUptoRow : OpenClaim := { program := "ytkabdieenijnlaa", sum := "271ab380dde8223b3af8507a1bfbd69a03b2e2e8ea4c7605b837c2ff95e5e518", func := "abecedary/abecedarylaw15.DawgBig", spec := "dawgBig", unfollowed := true, recurses := true, plainKeys := false, apart := false, narrowed := true }
def DawgBigUptoSaid : Prop := dawgBigUptoRow.holds Try.pinned (OpenSpec.upto dawgBigSpec)

end Rows
end Go.Proofs.Ytkabdieenijnlaa
