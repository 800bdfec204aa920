/-
  No cell of these rows narrows 'for every input' (looked for: loops, veiled, ifaces, maps, wideKeys, modest, calm, conditions, laid).
  DERIVED. THE GIVEN ROWS OF THIS SEAT. 11 by the template 'for every input the law returns true; each argument reads behind the call as it read before'; 0 by the template 'total and deterministic' (their statements: YtmpiijnhbeipiaaTotals.lean).
  GIVEN WITH THE SEED: the statements are not yours to turn. If you find one false, say at which input.
  Laid BY PROGRAM, IN A SANDBOX (cutbox-rows.mjs): the forced cells as the released guide's own fill.sh prints them over the translation 3729c7d5a8f03f07… (all of the seat's roots in one cut). By AI agents, Wed Nov 11 2026. No macro, syntax, notation, axiom, sorry.
-/
import Derived.Test.YtmpiijnhbeipiaaChecked
import GoSem.Claim
import GoSem.ClaimJoined
import GoSem.ClaimMapViews
import Derived.JoinedTies
import Derived.KernelRfl
namespace Go.Proofs.Ytmpiijnhbeipiaa
/- THE CELL 'sum', in the pinned program and in every row, IS THE sha256 OF THE DUMP (.gsa) THAT YtmpiijnhbeipiaaProg.lean LOADS. Nothing in Lean hashes anything: it is a label: what it is worth is what the hold of that sum in a sandbox is worth. -/
noncomputable def Try.pinned : Pinned := { name := "ytmpiijnhbeipiaa", sum := "3729c7d5a8f03f0713d13d6be3476c6dc53887c4147d6005d52cf97a6052badc", checked := Try.checked }
namespace Rows
def none {H : Type} : Left H := { results := [], args := [] }

/-- 'laws.FnExactRootOf': WHATEVER THE INPUT: true; the input reads as it did. -/
def fnExactRootOfSpec : ChangeSpec := { name := "fnExactRootOf", fn := fun _ => fun
  | [d] => { results := [.lit (.bool true)], args := [d] }
  | _ => none }
def fnExactRootOfRow : OpenClaim := { program := "ytmpiijnhbeipiaa", sum := "3729c7d5a8f03f0713d13d6be3476c6dc53887c4147d6005d52cf97a6052badc", func := "loop.example/g00918/laws.FnExactRootOf", spec := "fnExactRootOf", apart := false }
def FnExactRootOfSaid : Prop := fnExactRootOfRow.holds Try.pinned (OpenSpec.ofChange fnExactRootOfSpec)

/-- ITS FALSE NEIGHBOUR: 'it returns false'. Refute it at one input. -/
def fnExactRootOfWrong : ChangeSpec := { name := "fnExactRootOf", fn := fun _ => fun
  | [d] => { results := [.lit (.bool false)], args := [d] }
  | _ => none }
def FnExactRootOfWrongFalsely : Prop := fnExactRootOfRow.holds Try.pinned (OpenSpec.ofChange fnExactRootOfWrong)

/-- 'laws.FnExactSegmentLength': WHATEVER THE INPUT: true; the input reads as it did. -/
def fnExactSegmentLengthSpec : ChangeSpec := { name := "fnExactSegmentLength", fn := fun _ => fun
  | [d1, d2] => { results := [.lit (.bool true)], args := [d1, d2] }
  | _ => none }
def fnExactSegmentLengthRow : OpenClaim := { program := "ytmpiijnhbeipiaa", sum := "3729c7d5a8f03f0713d13d6be3476c6dc53887c4147d6005d52cf97a6052badc", func := "loop.example/g00918/laws.FnExactSegmentLength", spec := "fnExactSegmentLength", apart := false }
def FnExactSegmentLengthSaid : Prop := fnExactSegmentLengthRow.holds Try.pinned (OpenSpec.ofChange fnExactSegmentLengthSpec)

/-- ITS FALSE NEIGHBOUR: 'it returns false'. Refute it at one input. -/
def fnExactSegmentLengthWrong : ChangeSpec := { name := "fnExactSegmentLength", fn := fun _ => fun
  | [d1, d2] => { results := [.lit (.bool false)], args := [d1, d2] }
  | _ => none }
def FnExactSegmentLengthWrongFalsely : Prop := fnExactSegmentLengthRow.holds Try.pinned (OpenSpec.ofChange fnExactSegmentLengthWrong)

/-- 'laws.FnExactStrokeLength': WHATEVER THE INPUT: true; the input reads as it did. -/
def fnExactStrokeLengthSpec : ChangeSpec := { name := "fnExactStrokeLength", fn := fun _ => fun
  | [d] => { results := [.lit (.bool true)], args := [d] }
  | _ => none }
def fnExactStrokeLengthRow : OpenClaim := { program := "ytmpiijnhbeipiaa", sum := "3729c7d5a8f03f0713d13d6be3476c6dc53887c4147d6005d52cf97a6052badc", func := "loop.example/g00918/laws.FnExactStrokeLength", spec := "fnExactStrokeLength", apart := false }
def FnExactStrokeLengthSaid : Prop := fnExactStrokeLengthRow.holds Try.pinned (OpenSpec.ofChange fnExactStrokeLengthSpec)

/-- ITS FALSE NEIGHBOUR: 'it returns false'. Refute it at one input. -/
def fnExactStrokeLengthWrong : ChangeSpec := { name := "fnExactStrokeLength", fn := fun _ => fun
  | [d] => { results := [.lit (.bool false)], args := [d] }
  | _ => none }
def FnExactStrokeLengthWrongFalsely : Prop := fnExactStrokeLengthRow.holds Try.pinned (OpenSpec.ofChange fnExactStrokeLengthWrong)

/-- 'laws.FnExactTurnOf': WHATEVER THE INPUT: true; the input reads as it did. -/
def fnExactTurnOfSpec : ChangeSpec := { name := "fnExactTurnOf", fn := fun _ => fun
  | [d1, d2, d3] => { results := [.lit (.bool true)], args := [d1, d2, d3] }
  | _ => none }
def fnExactTurnOfRow : OpenClaim := { program := "ytmpiijnhbeipiaa", sum := "3729c7d5a8f03f0713d13d6be3476c6dc53887c4147d6005d52cf97a6052badc", func := "loop.example/g00918/laws.FnExactTurnOf", spec := "fnExactTurnOf", apart := false }
def FnExactTurnOfSaid : Prop := fnExactTurnOfRow.holds Try.pinned (OpenSpec.ofChange fnExactTurnOfSpec)

/-- ITS FALSE NEIGHBOUR: 'it returns false'. Refute it at one input. -/
def fnExactTurnOfWrong : ChangeSpec := { name := "fnExactTurnOf", fn := fun _ => fun
  | [d1, d2, d3] => { results := [.lit (.bool false)], args := [d1, d2, d3] }
  | _ => none }
def FnExactTurnOfWrongFalsely : Prop := fnExactTurnOfRow.holds Try.pinned (OpenSpec.ofChange fnExactTurnOfWrong)

/-- 'laws.FnExactSegmentsMeet': WHATEVER THE INPUT: true; the input reads as it did. -/
def fnExactSegmentsMeetSpec : ChangeSpec := { name := "fnExactSegmentsMeet", fn := fun _ => fun
  | [d1, d2, d3, d4] => { results := [.lit (.bool true)], args := [d1, d2, d3, d4] }
  | _ => none }
def fnExactSegmentsMeetRow : OpenClaim := { program := "ytmpiijnhbeipiaa", sum := "3729c7d5a8f03f0713d13d6be3476c6dc53887c4147d6005d52cf97a6052badc", func := "loop.example/g00918/laws.FnExactSegmentsMeet", spec := "fnExactSegmentsMeet", unfollowed := true, recurses := true, apart := false }
def FnExactSegmentsMeetSaid : Prop := fnExactSegmentsMeetRow.holds Try.pinned (OpenSpec.ofChange fnExactSegmentsMeetSpec)

/-- ITS FALSE NEIGHBOUR: 'it returns false'. Refute it at one input. -/
def fnExactSegmentsMeetWrong : ChangeSpec := { name := "fnExactSegmentsMeet", fn := fun _ => fun
  | [d1, d2, d3, d4] => { results := [.lit (.bool false)], args := [d1, d2, d3, d4] }
  | _ => none }
def FnExactSegmentsMeetWrongFalsely : Prop := fnExactSegmentsMeetRow.holds Try.pinned (OpenSpec.ofChange fnExactSegmentsMeetWrong)

/-- 'laws.FnExactCrossingCount': WHATEVER THE INPUT: true; the input reads as it did. -/
def fnExactCrossingCountSpec : ChangeSpec := { name := "fnExactCrossingCount", fn := fun _ => fun
  | [d1, d2] => { results := [.lit (.bool true)], args := [d1, d2] }
  | _ => none }
def fnExactCrossingCountRow : OpenClaim := { program := "ytmpiijnhbeipiaa", sum := "3729c7d5a8f03f0713d13d6be3476c6dc53887c4147d6005d52cf97a6052badc", func := "loop.example/g00918/laws.FnExactCrossingCount", spec := "fnExactCrossingCount", unfollowed := true, recurses := true, apart := false }
def FnExactCrossingCountSaid : Prop := fnExactCrossingCountRow.holds Try.pinned (OpenSpec.ofChange fnExactCrossingCountSpec)

/-- ITS FALSE NEIGHBOUR: 'it returns false'. Refute it at one input. -/
def fnExactCrossingCountWrong : ChangeSpec := { name := "fnExactCrossingCount", fn := fun _ => fun
  | [d1, d2] => { results := [.lit (.bool false)], args := [d1, d2] }
  | _ => none }
def FnExactCrossingCountWrongFalsely : Prop := fnExactCrossingCountRow.holds Try.pinned (OpenSpec.ofChange fnExactCrossingCountWrong)

/-- 'laws.FnExactStrokeArea': WHATEVER THE INPUT: true; the input reads as it did. -/
def fnExactStrokeAreaSpec : ChangeSpec := { name := "fnExactStrokeArea", fn := fun _ => fun
  | [d] => { results := [.lit (.bool true)], args := [d] }
  | _ => none }
def fnExactStrokeAreaRow : OpenClaim := { program := "ytmpiijnhbeipiaa", sum := "3729c7d5a8f03f0713d13d6be3476c6dc53887c4147d6005d52cf97a6052badc", func := "loop.example/g00918/laws.FnExactStrokeArea", spec := "fnExactStrokeArea", apart := false }
def FnExactStrokeAreaSaid : Prop := fnExactStrokeAreaRow.holds Try.pinned (OpenSpec.ofChange fnExactStrokeAreaSpec)

/-- ITS FALSE NEIGHBOUR: 'it returns false'. Refute it at one input. -/
def fnExactStrokeAreaWrong : ChangeSpec := { name := "fnExactStrokeArea", fn := fun _ => fun
  | [d] => { results := [.lit (.bool false)], args := [d] }
  | _ => none }
def FnExactStrokeAreaWrongFalsely : Prop := fnExactStrokeAreaRow.holds Try.pinned (OpenSpec.ofChange fnExactStrokeAreaWrong)

/-- 'laws.FnExactStraightOf': WHATEVER THE INPUT: true; the input reads as it did. -/
def fnExactStraightOfSpec : ChangeSpec := { name := "fnExactStraightOf", fn := fun _ => fun
  | [d] => { results := [.lit (.bool true)], args := [d] }
  | _ => none }
def fnExactStraightOfRow : OpenClaim := { program := "ytmpiijnhbeipiaa", sum := "3729c7d5a8f03f0713d13d6be3476c6dc53887c4147d6005d52cf97a6052badc", func := "loop.example/g00918/laws.FnExactStraightOf", spec := "fnExactStraightOf", apart := false }
def FnExactStraightOfSaid : Prop := fnExactStraightOfRow.holds Try.pinned (OpenSpec.ofChange fnExactStraightOfSpec)

/-- ITS FALSE NEIGHBOUR: 'it returns false'. Refute it at one input. -/
def fnExactStraightOfWrong : ChangeSpec := { name := "fnExactStraightOf", fn := fun _ => fun
  | [d] => { results := [.lit (.bool false)], args := [d] }
  | _ => none }
def FnExactStraightOfWrongFalsely : Prop := fnExactStraightOfRow.holds Try.pinned (OpenSpec.ofChange fnExactStraightOfWrong)

/-- 'laws.FnExactNearestPoint': WHATEVER THE INPUT: true; the input reads as it did. -/
def fnExactNearestPointSpec : ChangeSpec := { name := "fnExactNearestPoint", fn := fun _ => fun
  | [d1, d2] => { results := [.lit (.bool true)], args := [d1, d2] }
  | _ => none }
def fnExactNearestPointRow : OpenClaim := { program := "ytmpiijnhbeipiaa", sum := "3729c7d5a8f03f0713d13d6be3476c6dc53887c4147d6005d52cf97a6052badc", func := "loop.example/g00918/laws.FnExactNearestPoint", spec := "fnExactNearestPoint", apart := false }
def FnExactNearestPointSaid : Prop := fnExactNearestPointRow.holds Try.pinned (OpenSpec.ofChange fnExactNearestPointSpec)

/-- ITS FALSE NEIGHBOUR: 'it returns false'. Refute it at one input. -/
def fnExactNearestPointWrong : ChangeSpec := { name := "fnExactNearestPoint", fn := fun _ => fun
  | [d1, d2] => { results := [.lit (.bool false)], args := [d1, d2] }
  | _ => none }
def FnExactNearestPointWrongFalsely : Prop := fnExactNearestPointRow.holds Try.pinned (OpenSpec.ofChange fnExactNearestPointWrong)

/-- 'laws.FnRoots': WHATEVER THE INPUT: true; the input reads as it did. -/
def fnRootsSpec : ChangeSpec := { name := "fnRoots", fn := fun _ => fun
  | [d] => { results := [.lit (.bool true)], args := [d] }
  | _ => none }
def fnRootsRow : OpenClaim := { program := "ytmpiijnhbeipiaa", sum := "3729c7d5a8f03f0713d13d6be3476c6dc53887c4147d6005d52cf97a6052badc", func := "loop.example/g00918/laws.FnRoots", spec := "fnRoots", apart := false }
def FnRootsSaid : Prop := fnRootsRow.holds Try.pinned (OpenSpec.ofChange fnRootsSpec)

/-- ITS FALSE NEIGHBOUR: 'it returns false'. Refute it at one input. -/
def fnRootsWrong : ChangeSpec := { name := "fnRoots", fn := fun _ => fun
  | [d] => { results := [.lit (.bool false)], args := [d] }
  | _ => none }
def FnRootsWrongFalsely : Prop := fnRootsRow.holds Try.pinned (OpenSpec.ofChange fnRootsWrong)

/-- 'laws.FnMeets': WHATEVER THE INPUT: true; the input reads as it did. -/
def fnMeetsSpec : ChangeSpec := { name := "fnMeets", fn := fun _ => fun
  | [d] => { results := [.lit (.bool true)], args := [d] }
  | _ => none }
def fnMeetsRow : OpenClaim := { program := "ytmpiijnhbeipiaa", sum := "3729c7d5a8f03f0713d13d6be3476c6dc53887c4147d6005d52cf97a6052badc", func := "loop.example/g00918/laws.FnMeets", spec := "fnMeets", unfollowed := true, recurses := true, apart := false }
def FnMeetsSaid : Prop := fnMeetsRow.holds Try.pinned (OpenSpec.ofChange fnMeetsSpec)

/-- ITS FALSE NEIGHBOUR: 'it returns false'. Refute it at one input. -/
def fnMeetsWrong : ChangeSpec := { name := "fnMeets", fn := fun _ => fun
  | [d] => { results := [.lit (.bool false)], args := [d] }
  | _ => none }
def FnMeetsWrongFalsely : Prop := fnMeetsRow.holds Try.pinned (OpenSpec.ofChange fnMeetsWrong)

/- THE SECOND FORM. 'bulk': how many values and letters a reading holds, each counted each time it is reached (what is shared counts as often as it is met; a slice's spare places count too). A statement '..UptoSaid' is the law's where the arguments, and the package variables that the reading takes, are together of bulk at most 1048576: NARROWER than '..Said'. Prove '..Said' where nothing that the law and all that it calls make is longer than what came in: it says more and counts as full. Else prove '..UptoSaid'. A law counts once. -/
mutual
def uptoBulk {H : Type} : DataW H → Nat
  | .lit (.string bytes) => bytes.length + 1
  | .lit _ => 1
  | .nil => 1
  | .ptr d => uptoBulk d + 1
  | .slice elems spare => uptoBulkAll elems + uptoBulkAll spare + 1
  | .agg parts => uptoBulkAll parts + 1
  | .iface _ d => uptoBulk d + 1
  | .map entries => uptoBulkEntries entries + 1
  | .held _ => 1
def uptoBulkAll {H : Type} : List (DataW H) → Nat
  | [] => 0
  | d :: r => uptoBulk d + uptoBulkAll r
def uptoBulkEntries {H : Type} : List (Lit × DataW H) → Nat
  | [] => 0
  | x :: r => uptoBulkEntry x + uptoBulkEntries r
def uptoBulkEntry {H : Type} : Lit × DataW H → Nat
  | (.string bytes, d) => bytes.length + uptoBulk d + 1
  | (_, d) => uptoBulk d + 1
 end
def uptoSmall : (H : Type) → List (DataW H) → Bool := fun _ ds => decide (uptoBulkAll ds ≤ 1048576)
def OpenSpec.upto (s : _root_.Go.ChangeSpec) : _root_.Go.OpenSpec := { _root_.Go.OpenSpec.ofChange s with cond := some uptoSmall }

/-- 'laws.FnExactRootOf', WHERE WHAT IT READS IS OF BULK AT MOST 1048576: true; the input reads as it did. -/
def fnExactRootOfUptoRow : OpenClaim := { program := "ytmpiijnhbeipiaa", sum := "3729c7d5a8f03f0713d13d6be3476c6dc53887c4147d6005d52cf97a6052badc", func := "loop.example/g00918/laws.FnExactRootOf", spec := "fnExactRootOf", apart := false, narrowed := true }
def FnExactRootOfUptoSaid : Prop := fnExactRootOfUptoRow.holds Try.pinned (OpenSpec.upto fnExactRootOfSpec)

/-- 'laws.FnExactSegmentLength', WHERE WHAT IT READS IS OF BULK AT MOST 1048576: true; the input reads as it did. -/
def fnExactSegmentLengthUptoRow : OpenClaim := { program := "ytmpiijnhbeipiaa", sum := "3729c7d5a8f03f0713d13d6be3476c6dc53887c4147d6005d52cf97a6052badc", func := "loop.example/g00918/laws.FnExactSegmentLength", spec := "fnExactSegmentLength", apart := false, narrowed := true }
def FnExactSegmentLengthUptoSaid : Prop := fnExactSegmentLengthUptoRow.holds Try.pinned (OpenSpec.upto fnExactSegmentLengthSpec)

/-- 'laws.FnExactStrokeLength', WHERE WHAT IT READS IS OF BULK AT MOST 1048576: true; the input reads as it did. -/
def fnExactStrokeLengthUptoRow : OpenClaim := { program := "ytmpiijnhbeipiaa", sum := "3729c7d5a8f03f0713d13d6be3476c6dc53887c4147d6005d52cf97a6052badc", func := "loop.example/g00918/laws.FnExactStrokeLength", spec := "fnExactStrokeLength", apart := false, narrowed := true }
def FnExactStrokeLengthUptoSaid : Prop := fnExactStrokeLengthUptoRow.holds Try.pinned (OpenSpec.upto fnExactStrokeLengthSpec)

/-- 'laws.FnExactTurnOf', WHERE WHAT IT READS IS OF BULK AT MOST 1048576: true; the input reads as it did. -/
def fnExactTurnOfUptoRow : OpenClaim := { program := "ytmpiijnhbeipiaa", sum := "3729c7d5a8f03f0713d13d6be3476c6dc53887c4147d6005d52cf97a6052badc", func := "loop.example/g00918/laws.FnExactTurnOf", spec := "fnExactTurnOf", apart := false, narrowed := true }
def FnExactTurnOfUptoSaid : Prop := fnExactTurnOfUptoRow.holds Try.pinned (OpenSpec.upto fnExactTurnOfSpec)

/-- 'laws.FnExactSegmentsMeet', WHERE WHAT IT READS IS OF BULK AT MOST 1048576: true; the input reads as it did. -/
def fnExactSegmentsMeetUptoRow : OpenClaim := { program := "ytmpiijnhbeipiaa", sum := "3729c7d5a8f03f0713d13d6be3476c6dc53887c4147d6005d52cf97a6052badc", func := "loop.example/g00918/laws.FnExactSegmentsMeet", spec := "fnExactSegmentsMeet", unfollowed := true, recurses := true, apart := false, narrowed := true }
def FnExactSegmentsMeetUptoSaid : Prop := fnExactSegmentsMeetUptoRow.holds Try.pinned (OpenSpec.upto fnExactSegmentsMeetSpec)

/-- 'laws.FnExactCrossingCount', WHERE WHAT IT READS IS OF BULK AT MOST 1048576: true; the input reads as it did. -/
def fnExactCrossingCountUptoRow : OpenClaim := { program := "ytmpiijnhbeipiaa", sum := "3729c7d5a8f03f0713d13d6be3476c6dc53887c4147d6005d52cf97a6052badc", func := "loop.example/g00918/laws.FnExactCrossingCount", spec := "fnExactCrossingCount", unfollowed := true, recurses := true, apart := false, narrowed := true }
def FnExactCrossingCountUptoSaid : Prop := fnExactCrossingCountUptoRow.holds Try.pinned (OpenSpec.upto fnExactCrossingCountSpec)

/-- 'laws.FnExactStrokeArea', WHERE WHAT IT READS IS OF BULK AT MOST 1048576: true; the input reads as it did. -/
def fnExactStrokeAreaUptoRow : OpenClaim := { program := "ytmpiijnhbeipiaa", sum := "3729c7d5a8f03f0713d13d6be3476c6dc53887c4147d6005d52cf97a6052badc", func := "loop.example/g00918/laws.FnExactStrokeArea", spec := "fnExactStrokeArea", apart := false, narrowed := true }
def FnExactStrokeAreaUptoSaid : Prop := fnExactStrokeAreaUptoRow.holds Try.pinned (OpenSpec.upto fnExactStrokeAreaSpec)

/-- 'laws.FnExactStraightOf', WHERE WHAT IT READS IS OF BULK AT MOST 1048576: true; the input reads as it did. -/
def fnExactStraightOfUptoRow : OpenClaim := { program := "ytmpiijnhbeipiaa", sum := "3729c7d5a8f03f0713d13d6be3476c6dc53887c4147d6005d52cf97a6052badc", func := "loop.example/g00918/laws.FnExactStraightOf", spec := "fnExactStraightOf", apart := false, narrowed := true }
def FnExactStraightOfUptoSaid : Prop := fnExactStraightOfUptoRow.holds Try.pinned (OpenSpec.upto fnExactStraightOfSpec)

/-- 'laws.FnExactNearestPoint', WHERE WHAT IT READS IS OF BULK AT MOST 1048576: true; the input reads as it did. -/
def fnExactNearestPointUptoRow : OpenClaim := { program := "ytmpiijnhbeipiaa", sum := "3729c7d5a8f03f0713d13d6be3476c6dc53887c4147d6005d52cf97a6052badc", func := "loop.example/g00918/laws.FnExactNearestPoint", spec := "fnExactNearestPoint", apart := false, narrowed := true }
def FnExactNearestPointUptoSaid : Prop := fnExactNearestPointUptoRow.holds Try.pinned (OpenSpec.upto fnExactNearestPointSpec)

/-- 'laws.FnRoots', WHERE WHAT IT READS IS OF BULK AT MOST 1048576: true; the input reads as it did. -/
def fnRootsUptoRow : OpenClaim := { program := "ytmpiijnhbeipiaa", sum := "3729c7d5a8f03f0713d13d6be3476c6dc53887c4147d6005d52cf97a6052badc", func := "loop.example/g00918/laws.FnRoots", spec := "fnRoots", apart := false, narrowed := true }
def FnRootsUptoSaid : Prop := fnRootsUptoRow.holds Try.pinned (OpenSpec.upto fnRootsSpec)

/-- 'laws.FnMeets', WHERE WHAT IT READS IS OF BULK AT MOST 1048576: true; the input reads as it did. -/
def fnMeetsUptoRow : OpenClaim := { program := "ytmpiijnhbeipiaa", sum := "3729c7d5a8f03f0713d13d6be3476c6dc53887c4147d6005d52cf97a6052badc", func := "loop.example/g00918/laws.FnMeets", spec := "fnMeets", unfollowed := true, recurses := true, apart := false, narrowed := true }
def FnMeetsUptoSaid : Prop := fnMeetsUptoRow.holds Try.pinned (OpenSpec.upto fnMeetsSpec)

end Rows
end Go.Proofs.Ytmpiijnhbeipiaa
