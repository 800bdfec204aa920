/-
  No cell of these rows narrows 'for every input' (looked for: loops, veiled, ifaces, maps, wideKeys, modest, calm, conditions, laid).
  DERIVED. THE GIVEN ROWS OF THIS SEAT. 10 by the template 'for every input the law returns true; each argument reads behind the call as it read before'; 0 by the template 'total and deterministic' (their statements: YtedboaeadkdhfaaTotals.lean).
  GIVEN WITH THE SEED: the statements are not yours to turn. If you find one false, say at which input.
  Laid BY PROGRAM, IN A SANDBOX (cutbox-rows.mjs): the forced cells as the released guide's own fill.sh prints them over the translation 12993c6c27006384… (all of the seat's roots in one cut). By AI agents, Wed Nov 11 2026. No macro, syntax, notation, axiom, sorry.
-/
import Derived.Test.YtedboaeadkdhfaaChecked
import GoSem.Claim
import GoSem.ClaimJoined
import GoSem.ClaimMapViews
import Derived.JoinedTies
import Derived.KernelRfl
namespace Go.Proofs.Ytedboaeadkdhfaa
/- THE CELL 'sum', in the pinned program and in every row, IS THE sha256 OF THE DUMP (.gsa) THAT YtedboaeadkdhfaaProg.lean LOADS. Nothing in Lean hashes anything: it is a label: what it is worth is what the hold of that sum in a sandbox is worth. -/
noncomputable def Try.pinned : Pinned := { name := "ytedboaeadkdhfaa", sum := "12993c6c27006384347ecfdad11a301167609529eece4631242b65e2e5858955", checked := Try.checked }
namespace Rows
def none {H : Type} : Left H := { results := [], args := [] }

/-- 'laws.FnExactValidFeat': WHATEVER THE INPUT: true; the input reads as it did. -/
def fnExactValidFeatSpec : ChangeSpec := { name := "fnExactValidFeat", fn := fun _ => fun
  | [d] => { results := [.lit (.bool true)], args := [d] }
  | _ => none }
def fnExactValidFeatRow : OpenClaim := { program := "ytedboaeadkdhfaa", sum := "12993c6c27006384347ecfdad11a301167609529eece4631242b65e2e5858955", func := "loop.example/g00918/laws.FnExactValidFeat", spec := "fnExactValidFeat", apart := false }
def FnExactValidFeatSaid : Prop := fnExactValidFeatRow.holds Try.pinned (OpenSpec.ofChange fnExactValidFeatSpec)

/-- ITS FALSE NEIGHBOUR: 'it returns false'. Refute it at one input. -/
def fnExactValidFeatWrong : ChangeSpec := { name := "fnExactValidFeat", fn := fun _ => fun
  | [d] => { results := [.lit (.bool false)], args := [d] }
  | _ => none }
def FnExactValidFeatWrongFalsely : Prop := fnExactValidFeatRow.holds Try.pinned (OpenSpec.ofChange fnExactValidFeatWrong)

/-- 'laws.FnExactValidFeats': WHATEVER THE INPUT: true; the input reads as it did. -/
def fnExactValidFeatsSpec : ChangeSpec := { name := "fnExactValidFeats", fn := fun _ => fun
  | [d] => { results := [.lit (.bool true)], args := [d] }
  | _ => none }
def fnExactValidFeatsRow : OpenClaim := { program := "ytedboaeadkdhfaa", sum := "12993c6c27006384347ecfdad11a301167609529eece4631242b65e2e5858955", func := "loop.example/g00918/laws.FnExactValidFeats", spec := "fnExactValidFeats", apart := false }
def FnExactValidFeatsSaid : Prop := fnExactValidFeatsRow.holds Try.pinned (OpenSpec.ofChange fnExactValidFeatsSpec)

/-- ITS FALSE NEIGHBOUR: 'it returns false'. Refute it at one input. -/
def fnExactValidFeatsWrong : ChangeSpec := { name := "fnExactValidFeats", fn := fun _ => fun
  | [d] => { results := [.lit (.bool false)], args := [d] }
  | _ => none }
def FnExactValidFeatsWrongFalsely : Prop := fnExactValidFeatsRow.holds Try.pinned (OpenSpec.ofChange fnExactValidFeatsWrong)

/-- 'laws.FnExactSameFeats': WHATEVER THE INPUT: true; the input reads as it did. -/
def fnExactSameFeatsSpec : ChangeSpec := { name := "fnExactSameFeats", fn := fun _ => fun
  | [d1, d2] => { results := [.lit (.bool true)], args := [d1, d2] }
  | _ => none }
def fnExactSameFeatsRow : OpenClaim := { program := "ytedboaeadkdhfaa", sum := "12993c6c27006384347ecfdad11a301167609529eece4631242b65e2e5858955", func := "loop.example/g00918/laws.FnExactSameFeats", spec := "fnExactSameFeats", apart := false }
def FnExactSameFeatsSaid : Prop := fnExactSameFeatsRow.holds Try.pinned (OpenSpec.ofChange fnExactSameFeatsSpec)

/-- ITS FALSE NEIGHBOUR: 'it returns false'. Refute it at one input. -/
def fnExactSameFeatsWrong : ChangeSpec := { name := "fnExactSameFeats", fn := fun _ => fun
  | [d1, d2] => { results := [.lit (.bool false)], args := [d1, d2] }
  | _ => none }
def FnExactSameFeatsWrongFalsely : Prop := fnExactSameFeatsRow.holds Try.pinned (OpenSpec.ofChange fnExactSameFeatsWrong)

/-- 'laws.FnExactMirrorFeats': WHATEVER THE INPUT: true; the input reads as it did. -/
def fnExactMirrorFeatsSpec : ChangeSpec := { name := "fnExactMirrorFeats", fn := fun _ => fun
  | [d] => { results := [.lit (.bool true)], args := [d] }
  | _ => none }
def fnExactMirrorFeatsRow : OpenClaim := { program := "ytedboaeadkdhfaa", sum := "12993c6c27006384347ecfdad11a301167609529eece4631242b65e2e5858955", func := "loop.example/g00918/laws.FnExactMirrorFeats", spec := "fnExactMirrorFeats", unfollowed := true, recurses := true, apart := false }
def FnExactMirrorFeatsSaid : Prop := fnExactMirrorFeatsRow.holds Try.pinned (OpenSpec.ofChange fnExactMirrorFeatsSpec)

/-- ITS FALSE NEIGHBOUR: 'it returns false'. Refute it at one input. -/
def fnExactMirrorFeatsWrong : ChangeSpec := { name := "fnExactMirrorFeats", fn := fun _ => fun
  | [d] => { results := [.lit (.bool false)], args := [d] }
  | _ => none }
def FnExactMirrorFeatsWrongFalsely : Prop := fnExactMirrorFeatsRow.holds Try.pinned (OpenSpec.ofChange fnExactMirrorFeatsWrong)

/-- 'laws.FnExactBackFeats': WHATEVER THE INPUT: true; the input reads as it did. -/
def fnExactBackFeatsSpec : ChangeSpec := { name := "fnExactBackFeats", fn := fun _ => fun
  | [d] => { results := [.lit (.bool true)], args := [d] }
  | _ => none }
def fnExactBackFeatsRow : OpenClaim := { program := "ytedboaeadkdhfaa", sum := "12993c6c27006384347ecfdad11a301167609529eece4631242b65e2e5858955", func := "loop.example/g00918/laws.FnExactBackFeats", spec := "fnExactBackFeats", unfollowed := true, recurses := true, apart := false }
def FnExactBackFeatsSaid : Prop := fnExactBackFeatsRow.holds Try.pinned (OpenSpec.ofChange fnExactBackFeatsSpec)

/-- ITS FALSE NEIGHBOUR: 'it returns false'. Refute it at one input. -/
def fnExactBackFeatsWrong : ChangeSpec := { name := "fnExactBackFeats", fn := fun _ => fun
  | [d] => { results := [.lit (.bool false)], args := [d] }
  | _ => none }
def FnExactBackFeatsWrongFalsely : Prop := fnExactBackFeatsRow.holds Try.pinned (OpenSpec.ofChange fnExactBackFeatsWrong)

/-- 'laws.FnExactDirectionCounts': WHATEVER THE INPUT: true; the input reads as it did. -/
def fnExactDirectionCountsSpec : ChangeSpec := { name := "fnExactDirectionCounts", fn := fun _ => fun
  | [d] => { results := [.lit (.bool true)], args := [d] }
  | _ => none }
def fnExactDirectionCountsRow : OpenClaim := { program := "ytedboaeadkdhfaa", sum := "12993c6c27006384347ecfdad11a301167609529eece4631242b65e2e5858955", func := "loop.example/g00918/laws.FnExactDirectionCounts", spec := "fnExactDirectionCounts", apart := false }
def FnExactDirectionCountsSaid : Prop := fnExactDirectionCountsRow.holds Try.pinned (OpenSpec.ofChange fnExactDirectionCountsSpec)

/-- ITS FALSE NEIGHBOUR: 'it returns false'. Refute it at one input. -/
def fnExactDirectionCountsWrong : ChangeSpec := { name := "fnExactDirectionCounts", fn := fun _ => fun
  | [d] => { results := [.lit (.bool false)], args := [d] }
  | _ => none }
def FnExactDirectionCountsWrongFalsely : Prop := fnExactDirectionCountsRow.holds Try.pinned (OpenSpec.ofChange fnExactDirectionCountsWrong)

/-- 'laws.FnExactMiddleFeat': WHATEVER THE INPUT: true; the input reads as it did. -/
def fnExactMiddleFeatSpec : ChangeSpec := { name := "fnExactMiddleFeat", fn := fun _ => fun
  | [d] => { results := [.lit (.bool true)], args := [d] }
  | _ => none }
def fnExactMiddleFeatRow : OpenClaim := { program := "ytedboaeadkdhfaa", sum := "12993c6c27006384347ecfdad11a301167609529eece4631242b65e2e5858955", func := "loop.example/g00918/laws.FnExactMiddleFeat", spec := "fnExactMiddleFeat", apart := false }
def FnExactMiddleFeatSaid : Prop := fnExactMiddleFeatRow.holds Try.pinned (OpenSpec.ofChange fnExactMiddleFeatSpec)

/-- ITS FALSE NEIGHBOUR: 'it returns false'. Refute it at one input. -/
def fnExactMiddleFeatWrong : ChangeSpec := { name := "fnExactMiddleFeat", fn := fun _ => fun
  | [d] => { results := [.lit (.bool false)], args := [d] }
  | _ => none }
def FnExactMiddleFeatWrongFalsely : Prop := fnExactMiddleFeatRow.holds Try.pinned (OpenSpec.ofChange fnExactMiddleFeatWrong)

/-- 'laws.FnExactCenterOf': WHATEVER THE INPUT: true; the input reads as it did. -/
def fnExactCenterOfSpec : ChangeSpec := { name := "fnExactCenterOf", fn := fun _ => fun
  | [d] => { results := [.lit (.bool true)], args := [d] }
  | _ => none }
def fnExactCenterOfRow : OpenClaim := { program := "ytedboaeadkdhfaa", sum := "12993c6c27006384347ecfdad11a301167609529eece4631242b65e2e5858955", func := "loop.example/g00918/laws.FnExactCenterOf", spec := "fnExactCenterOf", apart := false }
def FnExactCenterOfSaid : Prop := fnExactCenterOfRow.holds Try.pinned (OpenSpec.ofChange fnExactCenterOfSpec)

/-- ITS FALSE NEIGHBOUR: 'it returns false'. Refute it at one input. -/
def fnExactCenterOfWrong : ChangeSpec := { name := "fnExactCenterOf", fn := fun _ => fun
  | [d] => { results := [.lit (.bool false)], args := [d] }
  | _ => none }
def FnExactCenterOfWrongFalsely : Prop := fnExactCenterOfRow.holds Try.pinned (OpenSpec.ofChange fnExactCenterOfWrong)

/-- 'laws.FnExactBaseLineOf': WHATEVER THE INPUT: true; the input reads as it did. -/
def fnExactBaseLineOfSpec : ChangeSpec := { name := "fnExactBaseLineOf", fn := fun _ => fun
  | [d] => { results := [.lit (.bool true)], args := [d] }
  | _ => none }
def fnExactBaseLineOfRow : OpenClaim := { program := "ytedboaeadkdhfaa", sum := "12993c6c27006384347ecfdad11a301167609529eece4631242b65e2e5858955", func := "loop.example/g00918/laws.FnExactBaseLineOf", spec := "fnExactBaseLineOf", unfollowed := true, recurses := true, apart := false }
def FnExactBaseLineOfSaid : Prop := fnExactBaseLineOfRow.holds Try.pinned (OpenSpec.ofChange fnExactBaseLineOfSpec)

/-- ITS FALSE NEIGHBOUR: 'it returns false'. Refute it at one input. -/
def fnExactBaseLineOfWrong : ChangeSpec := { name := "fnExactBaseLineOf", fn := fun _ => fun
  | [d] => { results := [.lit (.bool false)], args := [d] }
  | _ => none }
def FnExactBaseLineOfWrongFalsely : Prop := fnExactBaseLineOfRow.holds Try.pinned (OpenSpec.ofChange fnExactBaseLineOfWrong)

/-- 'laws.FnExactMiddleHeight': WHATEVER THE INPUT: true; the input reads as it did. -/
def fnExactMiddleHeightSpec : ChangeSpec := { name := "fnExactMiddleHeight", fn := fun _ => fun
  | [d] => { results := [.lit (.bool true)], args := [d] }
  | _ => none }
def fnExactMiddleHeightRow : OpenClaim := { program := "ytedboaeadkdhfaa", sum := "12993c6c27006384347ecfdad11a301167609529eece4631242b65e2e5858955", func := "loop.example/g00918/laws.FnExactMiddleHeight", spec := "fnExactMiddleHeight", unfollowed := true, recurses := true, apart := false }
def FnExactMiddleHeightSaid : Prop := fnExactMiddleHeightRow.holds Try.pinned (OpenSpec.ofChange fnExactMiddleHeightSpec)

/-- ITS FALSE NEIGHBOUR: 'it returns false'. Refute it at one input. -/
def fnExactMiddleHeightWrong : ChangeSpec := { name := "fnExactMiddleHeight", fn := fun _ => fun
  | [d] => { results := [.lit (.bool false)], args := [d] }
  | _ => none }
def FnExactMiddleHeightWrongFalsely : Prop := fnExactMiddleHeightRow.holds Try.pinned (OpenSpec.ofChange fnExactMiddleHeightWrong)

/- THE SECOND FORM. 'bulk': how many values and letters a reading holds, each counted each time it is reached (what is shared counts as often as it is met; a slice's spare places count too). A statement '..UptoSaid' is the law's where the arguments, and the package variables that the reading takes, are together of bulk at most 1048576: NARROWER than '..Said'. Prove '..Said' where nothing that the law and all that it calls make is longer than what came in: it says more and counts as full. Else prove '..UptoSaid'. A law counts once. -/
mutual
def uptoBulk {H : Type} : DataW H → Nat
  | .lit (.string bytes) => bytes.length + 1
  | .lit _ => 1
  | .nil => 1
  | .ptr d => uptoBulk d + 1
  | .slice elems spare => uptoBulkAll elems + uptoBulkAll spare + 1
  | .agg parts => uptoBulkAll parts + 1
  | .iface _ d => uptoBulk d + 1
  | .map entries => uptoBulkEntries entries + 1
  | .held _ => 1
def uptoBulkAll {H : Type} : List (DataW H) → Nat
  | [] => 0
  | d :: r => uptoBulk d + uptoBulkAll r
def uptoBulkEntries {H : Type} : List (Lit × DataW H) → Nat
  | [] => 0
  | x :: r => uptoBulkEntry x + uptoBulkEntries r
def uptoBulkEntry {H : Type} : Lit × DataW H → Nat
  | (.string bytes, d) => bytes.length + uptoBulk d + 1
  | (_, d) => uptoBulk d + 1
 end
def uptoSmall : (H : Type) → List (DataW H) → Bool := fun _ ds => decide (uptoBulkAll ds ≤ 1048576)
def OpenSpec.upto (s : _root_.Go.ChangeSpec) : _root_.Go.OpenSpec := { _root_.Go.OpenSpec.ofChange s with cond := some uptoSmall }

/-- 'laws.FnExactValidFeat', WHERE WHAT IT READS IS OF BULK AT MOST 1048576: true; the input reads as it did. -/
def fnExactValidFeatUptoRow : OpenClaim := { program := "ytedboaeadkdhfaa", sum := "12993c6c27006384347ecfdad11a301167609529eece4631242b65e2e5858955", func := "loop.example/g00918/laws.FnExactValidFeat", spec := "fnExactValidFeat", apart := false, narrowed := true }
def FnExactValidFeatUptoSaid : Prop := fnExactValidFeatUptoRow.holds Try.pinned (OpenSpec.upto fnExactValidFeatSpec)

/-- 'laws.FnExactValidFeats', WHERE WHAT IT READS IS OF BULK AT MOST 1048576: true; the input reads as it did. -/
def fnExactValidFeatsUptoRow : OpenClaim := { program := "ytedboaeadkdhfaa", sum := "12993c6c27006384347ecfdad11a301167609529eece4631242b65e2e5858955", func := "loop.example/g00918/laws.FnExactValidFeats", spec := "fnExactValidFeats", apart := false, narrowed := true }
def FnExactValidFeatsUptoSaid : Prop := fnExactValidFeatsUptoRow.holds Try.pinned (OpenSpec.upto fnExactValidFeatsSpec)

/-- 'laws.FnExactSameFeats', WHERE WHAT IT READS IS OF BULK AT MOST 1048576: true; the input reads as it did. -/
def fnExactSameFeatsUptoRow : OpenClaim := { program := "ytedboaeadkdhfaa", sum := "12993c6c27006384347ecfdad11a301167609529eece4631242b65e2e5858955", func := "loop.example/g00918/laws.FnExactSameFeats", spec := "fnExactSameFeats", apart := false, narrowed := true }
def FnExactSameFeatsUptoSaid : Prop := fnExactSameFeatsUptoRow.holds Try.pinned (OpenSpec.upto fnExactSameFeatsSpec)

/-- 'laws.FnExactMirrorFeats', WHERE WHAT IT READS IS OF BULK AT MOST 1048576: true; the input reads as it did. -/
def fnExactMirrorFeatsUptoRow : OpenClaim := { program := "ytedboaeadkdhfaa", sum := "12993c6c27006384347ecfdad11a301167609529eece4631242b65e2e5858955", func := "loop.example/g00918/laws.FnExactMirrorFeats", spec := "fnExactMirrorFeats", unfollowed := true, recurses := true, apart := false, narrowed := true }
def FnExactMirrorFeatsUptoSaid : Prop := fnExactMirrorFeatsUptoRow.holds Try.pinned (OpenSpec.upto fnExactMirrorFeatsSpec)

/-- 'laws.FnExactBackFeats', WHERE WHAT IT READS IS OF BULK AT MOST 1048576: true; the input reads as it did. -/
def fnExactBackFeatsUptoRow : OpenClaim := { program := "ytedboaeadkdhfaa", sum := "12993c6c27006384347ecfdad11a301167609529eece4631242b65e2e5858955", func := "loop.example/g00918/laws.FnExactBackFeats", spec := "fnExactBackFeats", unfollowed := true, recurses := true, apart := false, narrowed := true }
def FnExactBackFeatsUptoSaid : Prop := fnExactBackFeatsUptoRow.holds Try.pinned (OpenSpec.upto fnExactBackFeatsSpec)

/-- 'laws.FnExactDirectionCounts', WHERE WHAT IT READS IS OF BULK AT MOST 1048576: true; the input reads as it did. -/
def fnExactDirectionCountsUptoRow : OpenClaim := { program := "ytedboaeadkdhfaa", sum := "12993c6c27006384347ecfdad11a301167609529eece4631242b65e2e5858955", func := "loop.example/g00918/laws.FnExactDirectionCounts", spec := "fnExactDirectionCounts", apart := false, narrowed := true }
def FnExactDirectionCountsUptoSaid : Prop := fnExactDirectionCountsUptoRow.holds Try.pinned (OpenSpec.upto fnExactDirectionCountsSpec)

/-- 'laws.FnExactMiddleFeat', WHERE WHAT IT READS IS OF BULK AT MOST 1048576: true; the input reads as it did. -/
def fnExactMiddleFeatUptoRow : OpenClaim := { program := "ytedboaeadkdhfaa", sum := "12993c6c27006384347ecfdad11a301167609529eece4631242b65e2e5858955", func := "loop.example/g00918/laws.FnExactMiddleFeat", spec := "fnExactMiddleFeat", apart := false, narrowed := true }
def FnExactMiddleFeatUptoSaid : Prop := fnExactMiddleFeatUptoRow.holds Try.pinned (OpenSpec.upto fnExactMiddleFeatSpec)

/-- 'laws.FnExactCenterOf', WHERE WHAT IT READS IS OF BULK AT MOST 1048576: true; the input reads as it did. -/
def fnExactCenterOfUptoRow : OpenClaim := { program := "ytedboaeadkdhfaa", sum := "12993c6c27006384347ecfdad11a301167609529eece4631242b65e2e5858955", func := "loop.example/g00918/laws.FnExactCenterOf", spec := "fnExactCenterOf", apart := false, narrowed := true }
def FnExactCenterOfUptoSaid : Prop := fnExactCenterOfUptoRow.holds Try.pinned (OpenSpec.upto fnExactCenterOfSpec)

/-- 'laws.FnExactBaseLineOf', WHERE WHAT IT READS IS OF BULK AT MOST 1048576: true; the input reads as it did. -/
def fnExactBaseLineOfUptoRow : OpenClaim := { program := "ytedboaeadkdhfaa", sum := "12993c6c27006384347ecfdad11a301167609529eece4631242b65e2e5858955", func := "loop.example/g00918/laws.FnExactBaseLineOf", spec := "fnExactBaseLineOf", unfollowed := true, recurses := true, apart := false, narrowed := true }
def FnExactBaseLineOfUptoSaid : Prop := fnExactBaseLineOfUptoRow.holds Try.pinned (OpenSpec.upto fnExactBaseLineOfSpec)

/-- 'laws.FnExactMiddleHeight', WHERE WHAT IT READS IS OF BULK AT MOST 1048576: true; the input reads as it did. -/
def fnExactMiddleHeightUptoRow : OpenClaim := { program := "ytedboaeadkdhfaa", sum := "12993c6c27006384347ecfdad11a301167609529eece4631242b65e2e5858955", func := "loop.example/g00918/laws.FnExactMiddleHeight", spec := "fnExactMiddleHeight", unfollowed := true, recurses := true, apart := false, narrowed := true }
def FnExactMiddleHeightUptoSaid : Prop := fnExactMiddleHeightUptoRow.holds Try.pinned (OpenSpec.upto fnExactMiddleHeightSpec)

end Rows
end Go.Proofs.Ytedboaeadkdhfaa
