/-
  No cell of these rows narrows 'for every input' (looked for: loops, veiled, ifaces, maps, wideKeys, modest, calm, conditions, laid).
  DERIVED. THE GIVEN ROWS OF THIS SEAT. 11 by the template 'for every input the law returns true; each argument reads behind the call as it read before'; 0 by the template 'total and deterministic' (their statements: YthpmckfjlbiiiaaTotals.lean).
  GIVEN WITH THE SEED: the statements are not yours to turn. If you find one false, say at which input.
  Laid BY PROGRAM, IN A SANDBOX (cutbox-rows.mjs): the forced cells as the released guide's own fill.sh prints them over the translation 38dc58272caf713a… (all of the seat's roots in one cut). By AI agents, Wed Nov 11 2026. No macro, syntax, notation, axiom, sorry.
-/
import Derived.Test.YthpmckfjlbiiiaaChecked
import GoSem.Claim
import GoSem.ClaimJoined
import GoSem.ClaimMapViews
import Derived.JoinedTies
import Derived.KernelRfl
namespace Go.Proofs.Ythpmckfjlbiiiaa
/- THE CELL 'sum', in the pinned program and in every row, IS THE sha256 OF THE DUMP (.gsa) THAT YthpmckfjlbiiiaaProg.lean LOADS. Nothing in Lean hashes anything: it is a label: what it is worth is what the hold of that sum in a sandbox is worth. -/
noncomputable def Try.pinned : Pinned := { name := "ythpmckfjlbiiiaa", sum := "38dc58272caf713af65595fa7fcd11b691f97b5b039cc65cba4ef07cc749bd62", checked := Try.checked }
namespace Rows
def none {H : Type} : Left H := { results := [], args := [] }

/-- 'laws.FnExactEnvelopeOf': WHATEVER THE INPUT: true; the input reads as it did. -/
def fnExactEnvelopeOfSpec : ChangeSpec := { name := "fnExactEnvelopeOf", fn := fun _ => fun
  | [d1, d2, d3] => { results := [.lit (.bool true)], args := [d1, d2, d3] }
  | _ => none }
def fnExactEnvelopeOfRow : OpenClaim := { program := "ythpmckfjlbiiiaa", sum := "38dc58272caf713af65595fa7fcd11b691f97b5b039cc65cba4ef07cc749bd62", func := "loop.example/g00918/laws.FnExactEnvelopeOf", spec := "fnExactEnvelopeOf", unfollowed := true, recurses := true, apart := false }
def FnExactEnvelopeOfSaid : Prop := fnExactEnvelopeOfRow.holds Try.pinned (OpenSpec.ofChange fnExactEnvelopeOfSpec)

/-- ITS FALSE NEIGHBOUR: 'it returns false'. Refute it at one input. -/
def fnExactEnvelopeOfWrong : ChangeSpec := { name := "fnExactEnvelopeOf", fn := fun _ => fun
  | [d1, d2, d3] => { results := [.lit (.bool false)], args := [d1, d2, d3] }
  | _ => none }
def FnExactEnvelopeOfWrongFalsely : Prop := fnExactEnvelopeOfRow.holds Try.pinned (OpenSpec.ofChange fnExactEnvelopeOfWrong)

/-- 'laws.FnExactValidEnvelope': WHATEVER THE INPUT: true; the input reads as it did. -/
def fnExactValidEnvelopeSpec : ChangeSpec := { name := "fnExactValidEnvelope", fn := fun _ => fun
  | [d] => { results := [.lit (.bool true)], args := [d] }
  | _ => none }
def fnExactValidEnvelopeRow : OpenClaim := { program := "ythpmckfjlbiiiaa", sum := "38dc58272caf713af65595fa7fcd11b691f97b5b039cc65cba4ef07cc749bd62", func := "loop.example/g00918/laws.FnExactValidEnvelope", spec := "fnExactValidEnvelope", apart := false }
def FnExactValidEnvelopeSaid : Prop := fnExactValidEnvelopeRow.holds Try.pinned (OpenSpec.ofChange fnExactValidEnvelopeSpec)

/-- ITS FALSE NEIGHBOUR: 'it returns false'. Refute it at one input. -/
def fnExactValidEnvelopeWrong : ChangeSpec := { name := "fnExactValidEnvelope", fn := fun _ => fun
  | [d] => { results := [.lit (.bool false)], args := [d] }
  | _ => none }
def FnExactValidEnvelopeWrongFalsely : Prop := fnExactValidEnvelopeRow.holds Try.pinned (OpenSpec.ofChange fnExactValidEnvelopeWrong)

/-- 'laws.FnExactOutsideOf': WHATEVER THE INPUT: true; the input reads as it did. -/
def fnExactOutsideOfSpec : ChangeSpec := { name := "fnExactOutsideOf", fn := fun _ => fun
  | [d1, d2] => { results := [.lit (.bool true)], args := [d1, d2] }
  | _ => none }
def fnExactOutsideOfRow : OpenClaim := { program := "ythpmckfjlbiiiaa", sum := "38dc58272caf713af65595fa7fcd11b691f97b5b039cc65cba4ef07cc749bd62", func := "loop.example/g00918/laws.FnExactOutsideOf", spec := "fnExactOutsideOf", apart := false }
def FnExactOutsideOfSaid : Prop := fnExactOutsideOfRow.holds Try.pinned (OpenSpec.ofChange fnExactOutsideOfSpec)

/-- ITS FALSE NEIGHBOUR: 'it returns false'. Refute it at one input. -/
def fnExactOutsideOfWrong : ChangeSpec := { name := "fnExactOutsideOf", fn := fun _ => fun
  | [d1, d2] => { results := [.lit (.bool false)], args := [d1, d2] }
  | _ => none }
def FnExactOutsideOfWrongFalsely : Prop := fnExactOutsideOfRow.holds Try.pinned (OpenSpec.ofChange fnExactOutsideOfWrong)

/-- 'laws.FnExactEndsBound': WHATEVER THE INPUT: true; the input reads as it did. -/
def fnExactEndsBoundSpec : ChangeSpec := { name := "fnExactEndsBound", fn := fun _ => fun
  | [d1, d2] => { results := [.lit (.bool true)], args := [d1, d2] }
  | _ => none }
def fnExactEndsBoundRow : OpenClaim := { program := "ythpmckfjlbiiiaa", sum := "38dc58272caf713af65595fa7fcd11b691f97b5b039cc65cba4ef07cc749bd62", func := "loop.example/g00918/laws.FnExactEndsBound", spec := "fnExactEndsBound", apart := false }
def FnExactEndsBoundSaid : Prop := fnExactEndsBoundRow.holds Try.pinned (OpenSpec.ofChange fnExactEndsBoundSpec)

/-- ITS FALSE NEIGHBOUR: 'it returns false'. Refute it at one input. -/
def fnExactEndsBoundWrong : ChangeSpec := { name := "fnExactEndsBound", fn := fun _ => fun
  | [d1, d2] => { results := [.lit (.bool false)], args := [d1, d2] }
  | _ => none }
def FnExactEndsBoundWrongFalsely : Prop := fnExactEndsBoundRow.holds Try.pinned (OpenSpec.ofChange fnExactEndsBoundWrong)

/-- 'laws.FnExactLowerBound': WHATEVER THE INPUT: true; the input reads as it did. -/
def fnExactLowerBoundSpec : ChangeSpec := { name := "fnExactLowerBound", fn := fun _ => fun
  | [d1, d2, d3] => { results := [.lit (.bool true)], args := [d1, d2, d3] }
  | _ => none }
def fnExactLowerBoundRow : OpenClaim := { program := "ythpmckfjlbiiiaa", sum := "38dc58272caf713af65595fa7fcd11b691f97b5b039cc65cba4ef07cc749bd62", func := "loop.example/g00918/laws.FnExactLowerBound", spec := "fnExactLowerBound", unfollowed := true, recurses := true, apart := false }
def FnExactLowerBoundSaid : Prop := fnExactLowerBoundRow.holds Try.pinned (OpenSpec.ofChange fnExactLowerBoundSpec)

/-- ITS FALSE NEIGHBOUR: 'it returns false'. Refute it at one input. -/
def fnExactLowerBoundWrong : ChangeSpec := { name := "fnExactLowerBound", fn := fun _ => fun
  | [d1, d2, d3] => { results := [.lit (.bool false)], args := [d1, d2, d3] }
  | _ => none }
def FnExactLowerBoundWrongFalsely : Prop := fnExactLowerBoundRow.holds Try.pinned (OpenSpec.ofChange fnExactLowerBoundWrong)

/-- 'laws.FnExactNearestOf': WHATEVER THE INPUT: true; the input reads as it did. -/
def fnExactNearestOfSpec : ChangeSpec := { name := "fnExactNearestOf", fn := fun _ => fun
  | [d1, d2, d3] => { results := [.lit (.bool true)], args := [d1, d2, d3] }
  | _ => none }
def fnExactNearestOfRow : OpenClaim := { program := "ythpmckfjlbiiiaa", sum := "38dc58272caf713af65595fa7fcd11b691f97b5b039cc65cba4ef07cc749bd62", func := "loop.example/g00918/laws.FnExactNearestOf", spec := "fnExactNearestOf", unfollowed := true, recurses := true, apart := false }
def FnExactNearestOfSaid : Prop := fnExactNearestOfRow.holds Try.pinned (OpenSpec.ofChange fnExactNearestOfSpec)

/-- ITS FALSE NEIGHBOUR: 'it returns false'. Refute it at one input. -/
def fnExactNearestOfWrong : ChangeSpec := { name := "fnExactNearestOf", fn := fun _ => fun
  | [d1, d2, d3] => { results := [.lit (.bool false)], args := [d1, d2, d3] }
  | _ => none }
def FnExactNearestOfWrongFalsely : Prop := fnExactNearestOfRow.holds Try.pinned (OpenSpec.ofChange fnExactNearestOfWrong)

/-- 'laws.FnExactNearestPruned': WHATEVER THE INPUT: true; the input reads as it did. -/
def fnExactNearestPrunedSpec : ChangeSpec := { name := "fnExactNearestPruned", fn := fun _ => fun
  | [d1, d2, d3] => { results := [.lit (.bool true)], args := [d1, d2, d3] }
  | _ => none }
def fnExactNearestPrunedRow : OpenClaim := { program := "ythpmckfjlbiiiaa", sum := "38dc58272caf713af65595fa7fcd11b691f97b5b039cc65cba4ef07cc749bd62", func := "loop.example/g00918/laws.FnExactNearestPruned", spec := "fnExactNearestPruned", unfollowed := true, recurses := true, apart := false }
def FnExactNearestPrunedSaid : Prop := fnExactNearestPrunedRow.holds Try.pinned (OpenSpec.ofChange fnExactNearestPrunedSpec)

/-- ITS FALSE NEIGHBOUR: 'it returns false'. Refute it at one input. -/
def fnExactNearestPrunedWrong : ChangeSpec := { name := "fnExactNearestPruned", fn := fun _ => fun
  | [d1, d2, d3] => { results := [.lit (.bool false)], args := [d1, d2, d3] }
  | _ => none }
def FnExactNearestPrunedWrongFalsely : Prop := fnExactNearestPrunedRow.holds Try.pinned (OpenSpec.ofChange fnExactNearestPrunedWrong)

/-- 'laws.FnExactWithinCost': WHATEVER THE INPUT: true; the input reads as it did. -/
def fnExactWithinCostSpec : ChangeSpec := { name := "fnExactWithinCost", fn := fun _ => fun
  | [d1, d2, d3, d4] => { results := [.lit (.bool true)], args := [d1, d2, d3, d4] }
  | _ => none }
def fnExactWithinCostRow : OpenClaim := { program := "ythpmckfjlbiiiaa", sum := "38dc58272caf713af65595fa7fcd11b691f97b5b039cc65cba4ef07cc749bd62", func := "loop.example/g00918/laws.FnExactWithinCost", spec := "fnExactWithinCost", unfollowed := true, recurses := true, apart := false }
def FnExactWithinCostSaid : Prop := fnExactWithinCostRow.holds Try.pinned (OpenSpec.ofChange fnExactWithinCostSpec)

/-- ITS FALSE NEIGHBOUR: 'it returns false'. Refute it at one input. -/
def fnExactWithinCostWrong : ChangeSpec := { name := "fnExactWithinCost", fn := fun _ => fun
  | [d1, d2, d3, d4] => { results := [.lit (.bool false)], args := [d1, d2, d3, d4] }
  | _ => none }
def FnExactWithinCostWrongFalsely : Prop := fnExactWithinCostRow.holds Try.pinned (OpenSpec.ofChange fnExactWithinCostWrong)

/-- 'laws.FnExactBoundOrder': WHATEVER THE INPUT: true; the input reads as it did. -/
def fnExactBoundOrderSpec : ChangeSpec := { name := "fnExactBoundOrder", fn := fun _ => fun
  | [d1, d2, d3] => { results := [.lit (.bool true)], args := [d1, d2, d3] }
  | _ => none }
def fnExactBoundOrderRow : OpenClaim := { program := "ythpmckfjlbiiiaa", sum := "38dc58272caf713af65595fa7fcd11b691f97b5b039cc65cba4ef07cc749bd62", func := "loop.example/g00918/laws.FnExactBoundOrder", spec := "fnExactBoundOrder", unfollowed := true, recurses := true, apart := false }
def FnExactBoundOrderSaid : Prop := fnExactBoundOrderRow.holds Try.pinned (OpenSpec.ofChange fnExactBoundOrderSpec)

/-- ITS FALSE NEIGHBOUR: 'it returns false'. Refute it at one input. -/
def fnExactBoundOrderWrong : ChangeSpec := { name := "fnExactBoundOrder", fn := fun _ => fun
  | [d1, d2, d3] => { results := [.lit (.bool false)], args := [d1, d2, d3] }
  | _ => none }
def FnExactBoundOrderWrongFalsely : Prop := fnExactBoundOrderRow.holds Try.pinned (OpenSpec.ofChange fnExactBoundOrderWrong)

/-- 'laws.FnExactElastic': WHATEVER THE INPUT: true; the input reads as it did. -/
def fnExactElasticSpec : ChangeSpec := { name := "fnExactElastic", fn := fun _ => fun
  | [d1, d2, d3] => { results := [.lit (.bool true)], args := [d1, d2, d3] }
  | _ => none }
def fnExactElasticRow : OpenClaim := { program := "ythpmckfjlbiiiaa", sum := "38dc58272caf713af65595fa7fcd11b691f97b5b039cc65cba4ef07cc749bd62", func := "loop.example/g00918/laws.FnExactElastic", spec := "fnExactElastic", apart := false }
def FnExactElasticSaid : Prop := fnExactElasticRow.holds Try.pinned (OpenSpec.ofChange fnExactElasticSpec)

/-- ITS FALSE NEIGHBOUR: 'it returns false'. Refute it at one input. -/
def fnExactElasticWrong : ChangeSpec := { name := "fnExactElastic", fn := fun _ => fun
  | [d1, d2, d3] => { results := [.lit (.bool false)], args := [d1, d2, d3] }
  | _ => none }
def FnExactElasticWrongFalsely : Prop := fnExactElasticRow.holds Try.pinned (OpenSpec.ofChange fnExactElasticWrong)

/-- 'laws.FnExactElasticPath': WHATEVER THE INPUT: true; the input reads as it did. -/
def fnExactElasticPathSpec : ChangeSpec := { name := "fnExactElasticPath", fn := fun _ => fun
  | [d1, d2, d3] => { results := [.lit (.bool true)], args := [d1, d2, d3] }
  | _ => none }
def fnExactElasticPathRow : OpenClaim := { program := "ythpmckfjlbiiiaa", sum := "38dc58272caf713af65595fa7fcd11b691f97b5b039cc65cba4ef07cc749bd62", func := "loop.example/g00918/laws.FnExactElasticPath", spec := "fnExactElasticPath", apart := false }
def FnExactElasticPathSaid : Prop := fnExactElasticPathRow.holds Try.pinned (OpenSpec.ofChange fnExactElasticPathSpec)

/-- ITS FALSE NEIGHBOUR: 'it returns false'. Refute it at one input. -/
def fnExactElasticPathWrong : ChangeSpec := { name := "fnExactElasticPath", fn := fun _ => fun
  | [d1, d2, d3] => { results := [.lit (.bool false)], args := [d1, d2, d3] }
  | _ => none }
def FnExactElasticPathWrongFalsely : Prop := fnExactElasticPathRow.holds Try.pinned (OpenSpec.ofChange fnExactElasticPathWrong)

/- THE SECOND FORM. 'bulk': how many values and letters a reading holds, each counted each time it is reached (what is shared counts as often as it is met; a slice's spare places count too). A statement '..UptoSaid' is the law's where the arguments, and the package variables that the reading takes, are together of bulk at most 1048576: NARROWER than '..Said'. Prove '..Said' where nothing that the law and all that it calls make is longer than what came in: it says more and counts as full. Else prove '..UptoSaid'. A law counts once. -/
mutual
def uptoBulk {H : Type} : DataW H → Nat
  | .lit (.string bytes) => bytes.length + 1
  | .lit _ => 1
  | .nil => 1
  | .ptr d => uptoBulk d + 1
  | .slice elems spare => uptoBulkAll elems + uptoBulkAll spare + 1
  | .agg parts => uptoBulkAll parts + 1
  | .iface _ d => uptoBulk d + 1
  | .map entries => uptoBulkEntries entries + 1
  | .held _ => 1
def uptoBulkAll {H : Type} : List (DataW H) → Nat
  | [] => 0
  | d :: r => uptoBulk d + uptoBulkAll r
def uptoBulkEntries {H : Type} : List (Lit × DataW H) → Nat
  | [] => 0
  | x :: r => uptoBulkEntry x + uptoBulkEntries r
def uptoBulkEntry {H : Type} : Lit × DataW H → Nat
  | (.string bytes, d) => bytes.length + uptoBulk d + 1
  | (_, d) => uptoBulk d + 1
 end
def uptoSmall : (H : Type) → List (DataW H) → Bool := fun _ ds => decide (uptoBulkAll ds ≤ 1048576)
def OpenSpec.upto (s : _root_.Go.ChangeSpec) : _root_.Go.OpenSpec := { _root_.Go.OpenSpec.ofChange s with cond := some uptoSmall }

/-- 'laws.FnExactEnvelopeOf', WHERE WHAT IT READS IS OF BULK AT MOST 1048576: true; the input reads as it did. -/
def fnExactEnvelopeOfUptoRow : OpenClaim := { program := "ythpmckfjlbiiiaa", sum := "38dc58272caf713af65595fa7fcd11b691f97b5b039cc65cba4ef07cc749bd62", func := "loop.example/g00918/laws.FnExactEnvelopeOf", spec := "fnExactEnvelopeOf", unfollowed := true, recurses := true, apart := false, narrowed := true }
def FnExactEnvelopeOfUptoSaid : Prop := fnExactEnvelopeOfUptoRow.holds Try.pinned (OpenSpec.upto fnExactEnvelopeOfSpec)

/-- 'laws.FnExactValidEnvelope', WHERE WHAT IT READS IS OF BULK AT MOST 1048576: true; the input reads as it did. -/
def fnExactValidEnvelopeUptoRow : OpenClaim := { program := "ythpmckfjlbiiiaa", sum := "38dc58272caf713af65595fa7fcd11b691f97b5b039cc65cba4ef07cc749bd62", func := "loop.example/g00918/laws.FnExactValidEnvelope", spec := "fnExactValidEnvelope", apart := false, narrowed := true }
def FnExactValidEnvelopeUptoSaid : Prop := fnExactValidEnvelopeUptoRow.holds Try.pinned (OpenSpec.upto fnExactValidEnvelopeSpec)

/-- 'laws.FnExactOutsideOf', WHERE WHAT IT READS IS OF BULK AT MOST 1048576: true; the input reads as it did. -/
def fnExactOutsideOfUptoRow : OpenClaim := { program := "ythpmckfjlbiiiaa", sum := "38dc58272caf713af65595fa7fcd11b691f97b5b039cc65cba4ef07cc749bd62", func := "loop.example/g00918/laws.FnExactOutsideOf", spec := "fnExactOutsideOf", apart := false, narrowed := true }
def FnExactOutsideOfUptoSaid : Prop := fnExactOutsideOfUptoRow.holds Try.pinned (OpenSpec.upto fnExactOutsideOfSpec)

/-- 'laws.FnExactEndsBound', WHERE WHAT IT READS IS OF BULK AT MOST 1048576: true; the input reads as it did. -/
def fnExactEndsBoundUptoRow : OpenClaim := { program := "ythpmckfjlbiiiaa", sum := "38dc58272caf713af65595fa7fcd11b691f97b5b039cc65cba4ef07cc749bd62", func := "loop.example/g00918/laws.FnExactEndsBound", spec := "fnExactEndsBound", apart := false, narrowed := true }
def FnExactEndsBoundUptoSaid : Prop := fnExactEndsBoundUptoRow.holds Try.pinned (OpenSpec.upto fnExactEndsBoundSpec)

/-- 'laws.FnExactLowerBound', WHERE WHAT IT READS IS OF BULK AT MOST 1048576: true; the input reads as it did. -/
def fnExactLowerBoundUptoRow : OpenClaim := { program := "ythpmckfjlbiiiaa", sum := "38dc58272caf713af65595fa7fcd11b691f97b5b039cc65cba4ef07cc749bd62", func := "loop.example/g00918/laws.FnExactLowerBound", spec := "fnExactLowerBound", unfollowed := true, recurses := true, apart := false, narrowed := true }
def FnExactLowerBoundUptoSaid : Prop := fnExactLowerBoundUptoRow.holds Try.pinned (OpenSpec.upto fnExactLowerBoundSpec)

/-- 'laws.FnExactNearestOf', WHERE WHAT IT READS IS OF BULK AT MOST 1048576: true; the input reads as it did. -/
def fnExactNearestOfUptoRow : OpenClaim := { program := "ythpmckfjlbiiiaa", sum := "38dc58272caf713af65595fa7fcd11b691f97b5b039cc65cba4ef07cc749bd62", func := "loop.example/g00918/laws.FnExactNearestOf", spec := "fnExactNearestOf", unfollowed := true, recurses := true, apart := false, narrowed := true }
def FnExactNearestOfUptoSaid : Prop := fnExactNearestOfUptoRow.holds Try.pinned (OpenSpec.upto fnExactNearestOfSpec)

/-- 'laws.FnExactNearestPruned', WHERE WHAT IT READS IS OF BULK AT MOST 1048576: true; the input reads as it did. -/
def fnExactNearestPrunedUptoRow : OpenClaim := { program := "ythpmckfjlbiiiaa", sum := "38dc58272caf713af65595fa7fcd11b691f97b5b039cc65cba4ef07cc749bd62", func := "loop.example/g00918/laws.FnExactNearestPruned", spec := "fnExactNearestPruned", unfollowed := true, recurses := true, apart := false, narrowed := true }
def FnExactNearestPrunedUptoSaid : Prop := fnExactNearestPrunedUptoRow.holds Try.pinned (OpenSpec.upto fnExactNearestPrunedSpec)

/-- 'laws.FnExactWithinCost', WHERE WHAT IT READS IS OF BULK AT MOST 1048576: true; the input reads as it did. -/
def fnExactWithinCostUptoRow : OpenClaim := { program := "ythpmckfjlbiiiaa", sum := "38dc58272caf713af65595fa7fcd11b691f97b5b039cc65cba4ef07cc749bd62", func := "loop.example/g00918/laws.FnExactWithinCost", spec := "fnExactWithinCost", unfollowed := true, recurses := true, apart := false, narrowed := true }
def FnExactWithinCostUptoSaid : Prop := fnExactWithinCostUptoRow.holds Try.pinned (OpenSpec.upto fnExactWithinCostSpec)

/-- 'laws.FnExactBoundOrder', WHERE WHAT IT READS IS OF BULK AT MOST 1048576: true; the input reads as it did. -/
def fnExactBoundOrderUptoRow : OpenClaim := { program := "ythpmckfjlbiiiaa", sum := "38dc58272caf713af65595fa7fcd11b691f97b5b039cc65cba4ef07cc749bd62", func := "loop.example/g00918/laws.FnExactBoundOrder", spec := "fnExactBoundOrder", unfollowed := true, recurses := true, apart := false, narrowed := true }
def FnExactBoundOrderUptoSaid : Prop := fnExactBoundOrderUptoRow.holds Try.pinned (OpenSpec.upto fnExactBoundOrderSpec)

/-- 'laws.FnExactElastic', WHERE WHAT IT READS IS OF BULK AT MOST 1048576: true; the input reads as it did. -/
def fnExactElasticUptoRow : OpenClaim := { program := "ythpmckfjlbiiiaa", sum := "38dc58272caf713af65595fa7fcd11b691f97b5b039cc65cba4ef07cc749bd62", func := "loop.example/g00918/laws.FnExactElastic", spec := "fnExactElastic", apart := false, narrowed := true }
def FnExactElasticUptoSaid : Prop := fnExactElasticUptoRow.holds Try.pinned (OpenSpec.upto fnExactElasticSpec)

/-- 'laws.FnExactElasticPath', WHERE WHAT IT READS IS OF BULK AT MOST 1048576: true; the input reads as it did. -/
def fnExactElasticPathUptoRow : OpenClaim := { program := "ythpmckfjlbiiiaa", sum := "38dc58272caf713af65595fa7fcd11b691f97b5b039cc65cba4ef07cc749bd62", func := "loop.example/g00918/laws.FnExactElasticPath", spec := "fnExactElasticPath", apart := false, narrowed := true }
def FnExactElasticPathUptoSaid : Prop := fnExactElasticPathUptoRow.holds Try.pinned (OpenSpec.upto fnExactElasticPathSpec)

end Rows
end Go.Proofs.Ythpmckfjlbiiiaa
