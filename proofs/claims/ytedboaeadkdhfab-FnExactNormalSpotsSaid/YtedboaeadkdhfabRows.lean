/-
  No cell of these rows narrows 'for every input' (looked for: loops, veiled, ifaces, maps, wideKeys, modest, calm, conditions, laid).
  DERIVED. THE GIVEN ROWS OF THIS SEAT. 9 by the template 'for every input the law returns true; each argument reads behind the call as it read before'; 0 by the template 'total and deterministic' (their statements: YtedboaeadkdhfabTotals.lean).
  GIVEN WITH THE SEED: the statements are not yours to turn. If you find one false, say at which input.
  Laid BY PROGRAM, IN A SANDBOX (cutbox-rows.mjs): the forced cells as the released guide's own fill.sh prints them over the translation d925cbde8d0cb95e… (all of the seat's roots in one cut). By AI agents, Wed Nov 11 2026. No macro, syntax, notation, axiom, sorry.
-/
import Derived.Test.YtedboaeadkdhfabChecked
import GoSem.Claim
import GoSem.ClaimJoined
import GoSem.ClaimMapViews
import Derived.JoinedTies
import Derived.KernelRfl
namespace Go.Proofs.Ytedboaeadkdhfab
/- THE CELL 'sum', in the pinned program and in every row, IS THE sha256 OF THE DUMP (.gsa) THAT YtedboaeadkdhfabProg.lean LOADS. Nothing in Lean hashes anything: it is a label: what it is worth is what the hold of that sum in a sandbox is worth. -/
noncomputable def Try.pinned : Pinned := { name := "ytedboaeadkdhfab", sum := "d925cbde8d0cb95e3cd9cec8858838507d632d6bbe0e47f8e1f605804118958c", checked := Try.checked }
namespace Rows
def none {H : Type} : Left H := { results := [], args := [] }

/-- 'laws.FnExactNormalSpots': WHATEVER THE INPUT: true; the input reads as it did. -/
def fnExactNormalSpotsSpec : ChangeSpec := { name := "fnExactNormalSpots", fn := fun _ => fun
  | [d1, d2] => { results := [.lit (.bool true)], args := [d1, d2] }
  | _ => none }
def fnExactNormalSpotsRow : OpenClaim := { program := "ytedboaeadkdhfab", sum := "d925cbde8d0cb95e3cd9cec8858838507d632d6bbe0e47f8e1f605804118958c", func := "loop.example/g00918/laws.FnExactNormalSpots", spec := "fnExactNormalSpots", unfollowed := true, recurses := true, apart := false }
def FnExactNormalSpotsSaid : Prop := fnExactNormalSpotsRow.holds Try.pinned (OpenSpec.ofChange fnExactNormalSpotsSpec)

/-- ITS FALSE NEIGHBOUR: 'it returns false'. Refute it at one input. -/
def fnExactNormalSpotsWrong : ChangeSpec := { name := "fnExactNormalSpots", fn := fun _ => fun
  | [d1, d2] => { results := [.lit (.bool false)], args := [d1, d2] }
  | _ => none }
def FnExactNormalSpotsWrongFalsely : Prop := fnExactNormalSpotsRow.holds Try.pinned (OpenSpec.ofChange fnExactNormalSpotsWrong)

/-- 'laws.FnExactStraightenInk': WHATEVER THE INPUT: true; the input reads as it did. -/
def fnExactStraightenInkSpec : ChangeSpec := { name := "fnExactStraightenInk", fn := fun _ => fun
  | [d1, d2, d3] => { results := [.lit (.bool true)], args := [d1, d2, d3] }
  | _ => none }
def fnExactStraightenInkRow : OpenClaim := { program := "ytedboaeadkdhfab", sum := "d925cbde8d0cb95e3cd9cec8858838507d632d6bbe0e47f8e1f605804118958c", func := "loop.example/g00918/laws.FnExactStraightenInk", spec := "fnExactStraightenInk", apart := false }
def FnExactStraightenInkSaid : Prop := fnExactStraightenInkRow.holds Try.pinned (OpenSpec.ofChange fnExactStraightenInkSpec)

/-- ITS FALSE NEIGHBOUR: 'it returns false'. Refute it at one input. -/
def fnExactStraightenInkWrong : ChangeSpec := { name := "fnExactStraightenInk", fn := fun _ => fun
  | [d1, d2, d3] => { results := [.lit (.bool false)], args := [d1, d2, d3] }
  | _ => none }
def FnExactStraightenInkWrongFalsely : Prop := fnExactStraightenInkRow.holds Try.pinned (OpenSpec.ofChange fnExactStraightenInkWrong)

/-- 'laws.FnExactFitInk': WHATEVER THE INPUT: true; the input reads as it did. -/
def fnExactFitInkSpec : ChangeSpec := { name := "fnExactFitInk", fn := fun _ => fun
  | [d1, d2] => { results := [.lit (.bool true)], args := [d1, d2] }
  | _ => none }
def fnExactFitInkRow : OpenClaim := { program := "ytedboaeadkdhfab", sum := "d925cbde8d0cb95e3cd9cec8858838507d632d6bbe0e47f8e1f605804118958c", func := "loop.example/g00918/laws.FnExactFitInk", spec := "fnExactFitInk", apart := false }
def FnExactFitInkSaid : Prop := fnExactFitInkRow.holds Try.pinned (OpenSpec.ofChange fnExactFitInkSpec)

/-- ITS FALSE NEIGHBOUR: 'it returns false'. Refute it at one input. -/
def fnExactFitInkWrong : ChangeSpec := { name := "fnExactFitInk", fn := fun _ => fun
  | [d1, d2] => { results := [.lit (.bool false)], args := [d1, d2] }
  | _ => none }
def FnExactFitInkWrongFalsely : Prop := fnExactFitInkRow.holds Try.pinned (OpenSpec.ofChange fnExactFitInkWrong)

/-- 'laws.FnExactResample': WHATEVER THE INPUT: true; the input reads as it did. -/
def fnExactResampleSpec : ChangeSpec := { name := "fnExactResample", fn := fun _ => fun
  | [d1, d2] => { results := [.lit (.bool true)], args := [d1, d2] }
  | _ => none }
def fnExactResampleRow : OpenClaim := { program := "ytedboaeadkdhfab", sum := "d925cbde8d0cb95e3cd9cec8858838507d632d6bbe0e47f8e1f605804118958c", func := "loop.example/g00918/laws.FnExactResample", spec := "fnExactResample", unfollowed := true, recurses := true, apart := false }
def FnExactResampleSaid : Prop := fnExactResampleRow.holds Try.pinned (OpenSpec.ofChange fnExactResampleSpec)

/-- ITS FALSE NEIGHBOUR: 'it returns false'. Refute it at one input. -/
def fnExactResampleWrong : ChangeSpec := { name := "fnExactResample", fn := fun _ => fun
  | [d1, d2] => { results := [.lit (.bool false)], args := [d1, d2] }
  | _ => none }
def FnExactResampleWrongFalsely : Prop := fnExactResampleRow.holds Try.pinned (OpenSpec.ofChange fnExactResampleWrong)

/-- 'laws.FnArcs': WHATEVER THE INPUT: true; the input reads as it did. -/
def fnArcsSpec : ChangeSpec := { name := "fnArcs", fn := fun _ => fun
  | [d] => { results := [.lit (.bool true)], args := [d] }
  | _ => none }
def fnArcsRow : OpenClaim := { program := "ytedboaeadkdhfab", sum := "d925cbde8d0cb95e3cd9cec8858838507d632d6bbe0e47f8e1f605804118958c", func := "loop.example/g00918/laws.FnArcs", spec := "fnArcs", apart := false }
def FnArcsSaid : Prop := fnArcsRow.holds Try.pinned (OpenSpec.ofChange fnArcsSpec)

/-- ITS FALSE NEIGHBOUR: 'it returns false'. Refute it at one input. -/
def fnArcsWrong : ChangeSpec := { name := "fnArcs", fn := fun _ => fun
  | [d] => { results := [.lit (.bool false)], args := [d] }
  | _ => none }
def FnArcsWrongFalsely : Prop := fnArcsRow.holds Try.pinned (OpenSpec.ofChange fnArcsWrong)

/-- 'laws.FnSlants': WHATEVER THE INPUT: true; the input reads as it did. -/
def fnSlantsSpec : ChangeSpec := { name := "fnSlants", fn := fun _ => fun
  | [d] => { results := [.lit (.bool true)], args := [d] }
  | _ => none }
def fnSlantsRow : OpenClaim := { program := "ytedboaeadkdhfab", sum := "d925cbde8d0cb95e3cd9cec8858838507d632d6bbe0e47f8e1f605804118958c", func := "loop.example/g00918/laws.FnSlants", spec := "fnSlants", apart := false }
def FnSlantsSaid : Prop := fnSlantsRow.holds Try.pinned (OpenSpec.ofChange fnSlantsSpec)

/-- ITS FALSE NEIGHBOUR: 'it returns false'. Refute it at one input. -/
def fnSlantsWrong : ChangeSpec := { name := "fnSlants", fn := fun _ => fun
  | [d] => { results := [.lit (.bool false)], args := [d] }
  | _ => none }
def FnSlantsWrongFalsely : Prop := fnSlantsRow.holds Try.pinned (OpenSpec.ofChange fnSlantsWrong)

/-- 'laws.FnNormalSpots': WHATEVER THE INPUT: true; the input reads as it did. -/
def fnNormalSpotsSpec : ChangeSpec := { name := "fnNormalSpots", fn := fun _ => fun
  | [d] => { results := [.lit (.bool true)], args := [d] }
  | _ => none }
def fnNormalSpotsRow : OpenClaim := { program := "ytedboaeadkdhfab", sum := "d925cbde8d0cb95e3cd9cec8858838507d632d6bbe0e47f8e1f605804118958c", func := "loop.example/g00918/laws.FnNormalSpots", spec := "fnNormalSpots", unfollowed := true, recurses := true, apart := false }
def FnNormalSpotsSaid : Prop := fnNormalSpotsRow.holds Try.pinned (OpenSpec.ofChange fnNormalSpotsSpec)

/-- ITS FALSE NEIGHBOUR: 'it returns false'. Refute it at one input. -/
def fnNormalSpotsWrong : ChangeSpec := { name := "fnNormalSpots", fn := fun _ => fun
  | [d] => { results := [.lit (.bool false)], args := [d] }
  | _ => none }
def FnNormalSpotsWrongFalsely : Prop := fnNormalSpotsRow.holds Try.pinned (OpenSpec.ofChange fnNormalSpotsWrong)

/-- 'laws.FnFittedInk': WHATEVER THE INPUT: true; the input reads as it did. -/
def fnFittedInkSpec : ChangeSpec := { name := "fnFittedInk", fn := fun _ => fun
  | [d] => { results := [.lit (.bool true)], args := [d] }
  | _ => none }
def fnFittedInkRow : OpenClaim := { program := "ytedboaeadkdhfab", sum := "d925cbde8d0cb95e3cd9cec8858838507d632d6bbe0e47f8e1f605804118958c", func := "loop.example/g00918/laws.FnFittedInk", spec := "fnFittedInk", unfollowed := true, recurses := true, apart := false }
def FnFittedInkSaid : Prop := fnFittedInkRow.holds Try.pinned (OpenSpec.ofChange fnFittedInkSpec)

/-- ITS FALSE NEIGHBOUR: 'it returns false'. Refute it at one input. -/
def fnFittedInkWrong : ChangeSpec := { name := "fnFittedInk", fn := fun _ => fun
  | [d] => { results := [.lit (.bool false)], args := [d] }
  | _ => none }
def FnFittedInkWrongFalsely : Prop := fnFittedInkRow.holds Try.pinned (OpenSpec.ofChange fnFittedInkWrong)

/-- 'laws.FnAreas': WHATEVER THE INPUT: true; the input reads as it did. -/
def fnAreasSpec : ChangeSpec := { name := "fnAreas", fn := fun _ => fun
  | [d] => { results := [.lit (.bool true)], args := [d] }
  | _ => none }
def fnAreasRow : OpenClaim := { program := "ytedboaeadkdhfab", sum := "d925cbde8d0cb95e3cd9cec8858838507d632d6bbe0e47f8e1f605804118958c", func := "loop.example/g00918/laws.FnAreas", spec := "fnAreas", apart := false }
def FnAreasSaid : Prop := fnAreasRow.holds Try.pinned (OpenSpec.ofChange fnAreasSpec)

/-- ITS FALSE NEIGHBOUR: 'it returns false'. Refute it at one input. -/
def fnAreasWrong : ChangeSpec := { name := "fnAreas", fn := fun _ => fun
  | [d] => { results := [.lit (.bool false)], args := [d] }
  | _ => none }
def FnAreasWrongFalsely : Prop := fnAreasRow.holds Try.pinned (OpenSpec.ofChange fnAreasWrong)

/- THE SECOND FORM. 'bulk': how many values and letters a reading holds, each counted each time it is reached (what is shared counts as often as it is met; a slice's spare places count too). A statement '..UptoSaid' is the law's where the arguments, and the package variables that the reading takes, are together of bulk at most 1048576: NARROWER than '..Said'. Prove '..Said' where nothing that the law and all that it calls make is longer than what came in: it says more and counts as full. Else prove '..UptoSaid'. A law counts once. -/
mutual
def uptoBulk {H : Type} : DataW H → Nat
  | .lit (.string bytes) => bytes.length + 1
  | .lit _ => 1
  | .nil => 1
  | .ptr d => uptoBulk d + 1
  | .slice elems spare => uptoBulkAll elems + uptoBulkAll spare + 1
  | .agg parts => uptoBulkAll parts + 1
  | .iface _ d => uptoBulk d + 1
  | .map entries => uptoBulkEntries entries + 1
  | .held _ => 1
def uptoBulkAll {H : Type} : List (DataW H) → Nat
  | [] => 0
  | d :: r => uptoBulk d + uptoBulkAll r
def uptoBulkEntries {H : Type} : List (Lit × DataW H) → Nat
  | [] => 0
  | x :: r => uptoBulkEntry x + uptoBulkEntries r
def uptoBulkEntry {H : Type} : Lit × DataW H → Nat
  | (.string bytes, d) => bytes.length + uptoBulk d + 1
  | (_, d) => uptoBulk d + 1
 end
def uptoSmall : (H : Type) → List (DataW H) → Bool := fun _ ds => decide (uptoBulkAll ds ≤ 1048576)
def OpenSpec.upto (s : _root_.Go.ChangeSpec) : _root_.Go.OpenSpec := { _root_.Go.OpenSpec.ofChange s with cond := some uptoSmall }

/-- 'laws.FnExactNormalSpots', WHERE WHAT IT READS IS OF BULK AT MOST 1048576: true; the input reads as it did. -/
def fnExactNormalSpotsUptoRow : OpenClaim := { program := "ytedboaeadkdhfab", sum := "d925cbde8d0cb95e3cd9cec8858838507d632d6bbe0e47f8e1f605804118958c", func := "loop.example/g00918/laws.FnExactNormalSpots", spec := "fnExactNormalSpots", unfollowed := true, recurses := true, apart := false, narrowed := true }
def FnExactNormalSpotsUptoSaid : Prop := fnExactNormalSpotsUptoRow.holds Try.pinned (OpenSpec.upto fnExactNormalSpotsSpec)

/-- 'laws.FnExactStraightenInk', WHERE WHAT IT READS IS OF BULK AT MOST 1048576: true; the input reads as it did. -/
def fnExactStraightenInkUptoRow : OpenClaim := { program := "ytedboaeadkdhfab", sum := "d925cbde8d0cb95e3cd9cec8858838507d632d6bbe0e47f8e1f605804118958c", func := "loop.example/g00918/laws.FnExactStraightenInk", spec := "fnExactStraightenInk", apart := false, narrowed := true }
def FnExactStraightenInkUptoSaid : Prop := fnExactStraightenInkUptoRow.holds Try.pinned (OpenSpec.upto fnExactStraightenInkSpec)

/-- 'laws.FnExactFitInk', WHERE WHAT IT READS IS OF BULK AT MOST 1048576: true; the input reads as it did. -/
def fnExactFitInkUptoRow : OpenClaim := { program := "ytedboaeadkdhfab", sum := "d925cbde8d0cb95e3cd9cec8858838507d632d6bbe0e47f8e1f605804118958c", func := "loop.example/g00918/laws.FnExactFitInk", spec := "fnExactFitInk", apart := false, narrowed := true }
def FnExactFitInkUptoSaid : Prop := fnExactFitInkUptoRow.holds Try.pinned (OpenSpec.upto fnExactFitInkSpec)

/-- 'laws.FnExactResample', WHERE WHAT IT READS IS OF BULK AT MOST 1048576: true; the input reads as it did. -/
def fnExactResampleUptoRow : OpenClaim := { program := "ytedboaeadkdhfab", sum := "d925cbde8d0cb95e3cd9cec8858838507d632d6bbe0e47f8e1f605804118958c", func := "loop.example/g00918/laws.FnExactResample", spec := "fnExactResample", unfollowed := true, recurses := true, apart := false, narrowed := true }
def FnExactResampleUptoSaid : Prop := fnExactResampleUptoRow.holds Try.pinned (OpenSpec.upto fnExactResampleSpec)

/-- 'laws.FnArcs', WHERE WHAT IT READS IS OF BULK AT MOST 1048576: true; the input reads as it did. -/
def fnArcsUptoRow : OpenClaim := { program := "ytedboaeadkdhfab", sum := "d925cbde8d0cb95e3cd9cec8858838507d632d6bbe0e47f8e1f605804118958c", func := "loop.example/g00918/laws.FnArcs", spec := "fnArcs", apart := false, narrowed := true }
def FnArcsUptoSaid : Prop := fnArcsUptoRow.holds Try.pinned (OpenSpec.upto fnArcsSpec)

/-- 'laws.FnSlants', WHERE WHAT IT READS IS OF BULK AT MOST 1048576: true; the input reads as it did. -/
def fnSlantsUptoRow : OpenClaim := { program := "ytedboaeadkdhfab", sum := "d925cbde8d0cb95e3cd9cec8858838507d632d6bbe0e47f8e1f605804118958c", func := "loop.example/g00918/laws.FnSlants", spec := "fnSlants", apart := false, narrowed := true }
def FnSlantsUptoSaid : Prop := fnSlantsUptoRow.holds Try.pinned (OpenSpec.upto fnSlantsSpec)

/-- 'laws.FnNormalSpots', WHERE WHAT IT READS IS OF BULK AT MOST 1048576: true; the input reads as it did. -/
def fnNormalSpotsUptoRow : OpenClaim := { program := "ytedboaeadkdhfab", sum := "d925cbde8d0cb95e3cd9cec8858838507d632d6bbe0e47f8e1f605804118958c", func := "loop.example/g00918/laws.FnNormalSpots", spec := "fnNormalSpots", unfollowed := true, recurses := true, apart := false, narrowed := true }
def FnNormalSpotsUptoSaid : Prop := fnNormalSpotsUptoRow.holds Try.pinned (OpenSpec.upto fnNormalSpotsSpec)

/-- 'laws.FnFittedInk', WHERE WHAT IT READS IS OF BULK AT MOST 1048576: true; the input reads as it did. -/
def fnFittedInkUptoRow : OpenClaim := { program := "ytedboaeadkdhfab", sum := "d925cbde8d0cb95e3cd9cec8858838507d632d6bbe0e47f8e1f605804118958c", func := "loop.example/g00918/laws.FnFittedInk", spec := "fnFittedInk", unfollowed := true, recurses := true, apart := false, narrowed := true }
def FnFittedInkUptoSaid : Prop := fnFittedInkUptoRow.holds Try.pinned (OpenSpec.upto fnFittedInkSpec)

/-- 'laws.FnAreas', WHERE WHAT IT READS IS OF BULK AT MOST 1048576: true; the input reads as it did. -/
def fnAreasUptoRow : OpenClaim := { program := "ytedboaeadkdhfab", sum := "d925cbde8d0cb95e3cd9cec8858838507d632d6bbe0e47f8e1f605804118958c", func := "loop.example/g00918/laws.FnAreas", spec := "fnAreas", apart := false, narrowed := true }
def FnAreasUptoSaid : Prop := fnAreasUptoRow.holds Try.pinned (OpenSpec.upto fnAreasSpec)

end Rows
end Go.Proofs.Ytedboaeadkdhfab
