/-
  No cell of these rows narrows 'for every input' (looked for: loops, veiled, ifaces, maps, wideKeys, modest, calm, conditions, laid).
  DERIVED. THE GIVEN ROWS OF THIS SEAT. 10 by the template 'for every input the law returns true; each argument reads behind the call as it read before'; 0 by the template 'total and deterministic' (their statements: YtmphnhffelfbgaaTotals.lean).
  GIVEN WITH THE SEED: the statements are not yours to turn. If you find one false, say at which input.
  Laid BY PROGRAM, IN A SANDBOX (cutbox-rows.mjs): the forced cells as the released guide's own fill.sh prints them over the translation 43402775e3098138… (all of the seat's roots in one cut). By AI agents, Wed Nov 11 2026. No macro, syntax, notation, axiom, sorry.
-/
import Derived.Test.YtmphnhffelfbgaaChecked
import GoSem.Claim
import GoSem.ClaimJoined
import GoSem.ClaimMapViews
import Derived.JoinedTies
import Derived.KernelRfl
namespace Go.Proofs.Ytmphnhffelfbgaa
/- THE CELL 'sum', in the pinned program and in every row, IS THE sha256 OF THE DUMP (.gsa) THAT YtmphnhffelfbgaaProg.lean LOADS. Nothing in Lean hashes anything: it is a label: what it is worth is what the hold of that sum in a sandbox is worth. -/
noncomputable def Try.pinned : Pinned := { name := "ytmphnhffelfbgaa", sum := "43402775e30981386fe346a2df2e17f1c2f3e774c00dc85a88aa5c0fd92bade6", checked := Try.checked }
namespace Rows
def none {H : Type} : Left H := { results := [], args := [] }

/-- 'laws.FnExactSpotsOf': WHATEVER THE INPUT: true; the input reads as it did. -/
def fnExactSpotsOfSpec : ChangeSpec := { name := "fnExactSpotsOf", fn := fun _ => fun
  | [d] => { results := [.lit (.bool true)], args := [d] }
  | _ => none }
def fnExactSpotsOfRow : OpenClaim := { program := "ytmphnhffelfbgaa", sum := "43402775e30981386fe346a2df2e17f1c2f3e774c00dc85a88aa5c0fd92bade6", func := "loop.example/g00918/laws.FnExactSpotsOf", spec := "fnExactSpotsOf", apart := false }
def FnExactSpotsOfSaid : Prop := fnExactSpotsOfRow.holds Try.pinned (OpenSpec.ofChange fnExactSpotsOfSpec)

/-- ITS FALSE NEIGHBOUR: 'it returns false'. Refute it at one input. -/
def fnExactSpotsOfWrong : ChangeSpec := { name := "fnExactSpotsOf", fn := fun _ => fun
  | [d] => { results := [.lit (.bool false)], args := [d] }
  | _ => none }
def FnExactSpotsOfWrongFalsely : Prop := fnExactSpotsOfRow.holds Try.pinned (OpenSpec.ofChange fnExactSpotsOfWrong)

/-- 'laws.FnExactArcsOf': WHATEVER THE INPUT: true; the input reads as it did. -/
def fnExactArcsOfSpec : ChangeSpec := { name := "fnExactArcsOf", fn := fun _ => fun
  | [d] => { results := [.lit (.bool true)], args := [d] }
  | _ => none }
def fnExactArcsOfRow : OpenClaim := { program := "ytmphnhffelfbgaa", sum := "43402775e30981386fe346a2df2e17f1c2f3e774c00dc85a88aa5c0fd92bade6", func := "loop.example/g00918/laws.FnExactArcsOf", spec := "fnExactArcsOf", apart := false }
def FnExactArcsOfSaid : Prop := fnExactArcsOfRow.holds Try.pinned (OpenSpec.ofChange fnExactArcsOfSpec)

/-- ITS FALSE NEIGHBOUR: 'it returns false'. Refute it at one input. -/
def fnExactArcsOfWrong : ChangeSpec := { name := "fnExactArcsOf", fn := fun _ => fun
  | [d] => { results := [.lit (.bool false)], args := [d] }
  | _ => none }
def FnExactArcsOfWrongFalsely : Prop := fnExactArcsOfRow.holds Try.pinned (OpenSpec.ofChange fnExactArcsOfWrong)

/-- 'laws.FnExactLongestPause': WHATEVER THE INPUT: true; the input reads as it did. -/
def fnExactLongestPauseSpec : ChangeSpec := { name := "fnExactLongestPause", fn := fun _ => fun
  | [d] => { results := [.lit (.bool true)], args := [d] }
  | _ => none }
def fnExactLongestPauseRow : OpenClaim := { program := "ytmphnhffelfbgaa", sum := "43402775e30981386fe346a2df2e17f1c2f3e774c00dc85a88aa5c0fd92bade6", func := "loop.example/g00918/laws.FnExactLongestPause", spec := "fnExactLongestPause", apart := false }
def FnExactLongestPauseSaid : Prop := fnExactLongestPauseRow.holds Try.pinned (OpenSpec.ofChange fnExactLongestPauseSpec)

/-- ITS FALSE NEIGHBOUR: 'it returns false'. Refute it at one input. -/
def fnExactLongestPauseWrong : ChangeSpec := { name := "fnExactLongestPause", fn := fun _ => fun
  | [d] => { results := [.lit (.bool false)], args := [d] }
  | _ => none }
def FnExactLongestPauseWrongFalsely : Prop := fnExactLongestPauseRow.holds Try.pinned (OpenSpec.ofChange fnExactLongestPauseWrong)

/-- 'laws.FnExactSpeedsOf': WHATEVER THE INPUT: true; the input reads as it did. -/
def fnExactSpeedsOfSpec : ChangeSpec := { name := "fnExactSpeedsOf", fn := fun _ => fun
  | [d] => { results := [.lit (.bool true)], args := [d] }
  | _ => none }
def fnExactSpeedsOfRow : OpenClaim := { program := "ytmphnhffelfbgaa", sum := "43402775e30981386fe346a2df2e17f1c2f3e774c00dc85a88aa5c0fd92bade6", func := "loop.example/g00918/laws.FnExactSpeedsOf", spec := "fnExactSpeedsOf", apart := false }
def FnExactSpeedsOfSaid : Prop := fnExactSpeedsOfRow.holds Try.pinned (OpenSpec.ofChange fnExactSpeedsOfSpec)

/-- ITS FALSE NEIGHBOUR: 'it returns false'. Refute it at one input. -/
def fnExactSpeedsOfWrong : ChangeSpec := { name := "fnExactSpeedsOf", fn := fun _ => fun
  | [d] => { results := [.lit (.bool false)], args := [d] }
  | _ => none }
def FnExactSpeedsOfWrongFalsely : Prop := fnExactSpeedsOfRow.holds Try.pinned (OpenSpec.ofChange fnExactSpeedsOfWrong)

/-- 'laws.FnExactSpotAt': WHATEVER THE INPUT: true; the input reads as it did. -/
def fnExactSpotAtSpec : ChangeSpec := { name := "fnExactSpotAt", fn := fun _ => fun
  | [d1, d2, d3] => { results := [.lit (.bool true)], args := [d1, d2, d3] }
  | _ => none }
def fnExactSpotAtRow : OpenClaim := { program := "ytmphnhffelfbgaa", sum := "43402775e30981386fe346a2df2e17f1c2f3e774c00dc85a88aa5c0fd92bade6", func := "loop.example/g00918/laws.FnExactSpotAt", spec := "fnExactSpotAt", apart := false }
def FnExactSpotAtSaid : Prop := fnExactSpotAtRow.holds Try.pinned (OpenSpec.ofChange fnExactSpotAtSpec)

/-- ITS FALSE NEIGHBOUR: 'it returns false'. Refute it at one input. -/
def fnExactSpotAtWrong : ChangeSpec := { name := "fnExactSpotAt", fn := fun _ => fun
  | [d1, d2, d3] => { results := [.lit (.bool false)], args := [d1, d2, d3] }
  | _ => none }
def FnExactSpotAtWrongFalsely : Prop := fnExactSpotAtRow.holds Try.pinned (OpenSpec.ofChange fnExactSpotAtWrong)

/-- 'laws.FnExactResample': WHATEVER THE INPUT: true; the input reads as it did. -/
def fnExactResampleSpec : ChangeSpec := { name := "fnExactResample", fn := fun _ => fun
  | [d1, d2] => { results := [.lit (.bool true)], args := [d1, d2] }
  | _ => none }
def fnExactResampleRow : OpenClaim := { program := "ytmphnhffelfbgaa", sum := "43402775e30981386fe346a2df2e17f1c2f3e774c00dc85a88aa5c0fd92bade6", func := "loop.example/g00918/laws.FnExactResample", spec := "fnExactResample", unfollowed := true, recurses := true, apart := false }
def FnExactResampleSaid : Prop := fnExactResampleRow.holds Try.pinned (OpenSpec.ofChange fnExactResampleSpec)

/-- ITS FALSE NEIGHBOUR: 'it returns false'. Refute it at one input. -/
def fnExactResampleWrong : ChangeSpec := { name := "fnExactResample", fn := fun _ => fun
  | [d1, d2] => { results := [.lit (.bool false)], args := [d1, d2] }
  | _ => none }
def FnExactResampleWrongFalsely : Prop := fnExactResampleRow.holds Try.pinned (OpenSpec.ofChange fnExactResampleWrong)

/-- 'laws.FnExactReverseStroke': WHATEVER THE INPUT: true; the input reads as it did. -/
def fnExactReverseStrokeSpec : ChangeSpec := { name := "fnExactReverseStroke", fn := fun _ => fun
  | [d] => { results := [.lit (.bool true)], args := [d] }
  | _ => none }
def fnExactReverseStrokeRow : OpenClaim := { program := "ytmphnhffelfbgaa", sum := "43402775e30981386fe346a2df2e17f1c2f3e774c00dc85a88aa5c0fd92bade6", func := "loop.example/g00918/laws.FnExactReverseStroke", spec := "fnExactReverseStroke", apart := false }
def FnExactReverseStrokeSaid : Prop := fnExactReverseStrokeRow.holds Try.pinned (OpenSpec.ofChange fnExactReverseStrokeSpec)

/-- ITS FALSE NEIGHBOUR: 'it returns false'. Refute it at one input. -/
def fnExactReverseStrokeWrong : ChangeSpec := { name := "fnExactReverseStroke", fn := fun _ => fun
  | [d] => { results := [.lit (.bool false)], args := [d] }
  | _ => none }
def FnExactReverseStrokeWrongFalsely : Prop := fnExactReverseStrokeRow.holds Try.pinned (OpenSpec.ofChange fnExactReverseStrokeWrong)

/-- 'laws.FnExactThinStroke': WHATEVER THE INPUT: true; the input reads as it did. -/
def fnExactThinStrokeSpec : ChangeSpec := { name := "fnExactThinStroke", fn := fun _ => fun
  | [d1, d2] => { results := [.lit (.bool true)], args := [d1, d2] }
  | _ => none }
def fnExactThinStrokeRow : OpenClaim := { program := "ytmphnhffelfbgaa", sum := "43402775e30981386fe346a2df2e17f1c2f3e774c00dc85a88aa5c0fd92bade6", func := "loop.example/g00918/laws.FnExactThinStroke", spec := "fnExactThinStroke", apart := false }
def FnExactThinStrokeSaid : Prop := fnExactThinStrokeRow.holds Try.pinned (OpenSpec.ofChange fnExactThinStrokeSpec)

/-- ITS FALSE NEIGHBOUR: 'it returns false'. Refute it at one input. -/
def fnExactThinStrokeWrong : ChangeSpec := { name := "fnExactThinStroke", fn := fun _ => fun
  | [d1, d2] => { results := [.lit (.bool false)], args := [d1, d2] }
  | _ => none }
def FnExactThinStrokeWrongFalsely : Prop := fnExactThinStrokeRow.holds Try.pinned (OpenSpec.ofChange fnExactThinStrokeWrong)

/-- 'laws.FnExactSmoothStroke': WHATEVER THE INPUT: true; the input reads as it did. -/
def fnExactSmoothStrokeSpec : ChangeSpec := { name := "fnExactSmoothStroke", fn := fun _ => fun
  | [d] => { results := [.lit (.bool true)], args := [d] }
  | _ => none }
def fnExactSmoothStrokeRow : OpenClaim := { program := "ytmphnhffelfbgaa", sum := "43402775e30981386fe346a2df2e17f1c2f3e774c00dc85a88aa5c0fd92bade6", func := "loop.example/g00918/laws.FnExactSmoothStroke", spec := "fnExactSmoothStroke", apart := false }
def FnExactSmoothStrokeSaid : Prop := fnExactSmoothStrokeRow.holds Try.pinned (OpenSpec.ofChange fnExactSmoothStrokeSpec)

/-- ITS FALSE NEIGHBOUR: 'it returns false'. Refute it at one input. -/
def fnExactSmoothStrokeWrong : ChangeSpec := { name := "fnExactSmoothStroke", fn := fun _ => fun
  | [d] => { results := [.lit (.bool false)], args := [d] }
  | _ => none }
def FnExactSmoothStrokeWrongFalsely : Prop := fnExactSmoothStrokeRow.holds Try.pinned (OpenSpec.ofChange fnExactSmoothStrokeWrong)

/-- 'laws.FnExactSameSpots': WHATEVER THE INPUT: true; the input reads as it did. -/
def fnExactSameSpotsSpec : ChangeSpec := { name := "fnExactSameSpots", fn := fun _ => fun
  | [d1, d2] => { results := [.lit (.bool true)], args := [d1, d2] }
  | _ => none }
def fnExactSameSpotsRow : OpenClaim := { program := "ytmphnhffelfbgaa", sum := "43402775e30981386fe346a2df2e17f1c2f3e774c00dc85a88aa5c0fd92bade6", func := "loop.example/g00918/laws.FnExactSameSpots", spec := "fnExactSameSpots", apart := false }
def FnExactSameSpotsSaid : Prop := fnExactSameSpotsRow.holds Try.pinned (OpenSpec.ofChange fnExactSameSpotsSpec)

/-- ITS FALSE NEIGHBOUR: 'it returns false'. Refute it at one input. -/
def fnExactSameSpotsWrong : ChangeSpec := { name := "fnExactSameSpots", fn := fun _ => fun
  | [d1, d2] => { results := [.lit (.bool false)], args := [d1, d2] }
  | _ => none }
def FnExactSameSpotsWrongFalsely : Prop := fnExactSameSpotsRow.holds Try.pinned (OpenSpec.ofChange fnExactSameSpotsWrong)

/- THE SECOND FORM. 'bulk': how many values and letters a reading holds, each counted each time it is reached (what is shared counts as often as it is met; a slice's spare places count too). A statement '..UptoSaid' is the law's where the arguments, and the package variables that the reading takes, are together of bulk at most 1048576: NARROWER than '..Said'. Prove '..Said' where nothing that the law and all that it calls make is longer than what came in: it says more and counts as full. Else prove '..UptoSaid'. A law counts once. -/
mutual
def uptoBulk {H : Type} : DataW H → Nat
  | .lit (.string bytes) => bytes.length + 1
  | .lit _ => 1
  | .nil => 1
  | .ptr d => uptoBulk d + 1
  | .slice elems spare => uptoBulkAll elems + uptoBulkAll spare + 1
  | .agg parts => uptoBulkAll parts + 1
  | .iface _ d => uptoBulk d + 1
  | .map entries => uptoBulkEntries entries + 1
  | .held _ => 1
def uptoBulkAll {H : Type} : List (DataW H) → Nat
  | [] => 0
  | d :: r => uptoBulk d + uptoBulkAll r
def uptoBulkEntries {H : Type} : List (Lit × DataW H) → Nat
  | [] => 0
  | x :: r => uptoBulkEntry x + uptoBulkEntries r
def uptoBulkEntry {H : Type} : Lit × DataW H → Nat
  | (.string bytes, d) => bytes.length + uptoBulk d + 1
  | (_, d) => uptoBulk d + 1
 end
def uptoSmall : (H : Type) → List (DataW H) → Bool := fun _ ds => decide (uptoBulkAll ds ≤ 1048576)
def OpenSpec.upto (s : _root_.Go.ChangeSpec) : _root_.Go.OpenSpec := { _root_.Go.OpenSpec.ofChange s with cond := some uptoSmall }

/-- 'laws.FnExactSpotsOf', WHERE WHAT IT READS IS OF BULK AT MOST 1048576: true; the input reads as it did. -/
def fnExactSpotsOfUptoRow : OpenClaim := { program := "ytmphnhffelfbgaa", sum := "43402775e30981386fe346a2df2e17f1c2f3e774c00dc85a88aa5c0fd92bade6", func := "loop.example/g00918/laws.FnExactSpotsOf", spec := "fnExactSpotsOf", apart := false, narrowed := true }
def FnExactSpotsOfUptoSaid : Prop := fnExactSpotsOfUptoRow.holds Try.pinned (OpenSpec.upto fnExactSpotsOfSpec)

/-- 'laws.FnExactArcsOf', WHERE WHAT IT READS IS OF BULK AT MOST 1048576: true; the input reads as it did. -/
def fnExactArcsOfUptoRow : OpenClaim := { program := "ytmphnhffelfbgaa", sum := "43402775e30981386fe346a2df2e17f1c2f3e774c00dc85a88aa5c0fd92bade6", func := "loop.example/g00918/laws.FnExactArcsOf", spec := "fnExactArcsOf", apart := false, narrowed := true }
def FnExactArcsOfUptoSaid : Prop := fnExactArcsOfUptoRow.holds Try.pinned (OpenSpec.upto fnExactArcsOfSpec)

/-- 'laws.FnExactLongestPause', WHERE WHAT IT READS IS OF BULK AT MOST 1048576: true; the input reads as it did. -/
def fnExactLongestPauseUptoRow : OpenClaim := { program := "ytmphnhffelfbgaa", sum := "43402775e30981386fe346a2df2e17f1c2f3e774c00dc85a88aa5c0fd92bade6", func := "loop.example/g00918/laws.FnExactLongestPause", spec := "fnExactLongestPause", apart := false, narrowed := true }
def FnExactLongestPauseUptoSaid : Prop := fnExactLongestPauseUptoRow.holds Try.pinned (OpenSpec.upto fnExactLongestPauseSpec)

/-- 'laws.FnExactSpeedsOf', WHERE WHAT IT READS IS OF BULK AT MOST 1048576: true; the input reads as it did. -/
def fnExactSpeedsOfUptoRow : OpenClaim := { program := "ytmphnhffelfbgaa", sum := "43402775e30981386fe346a2df2e17f1c2f3e774c00dc85a88aa5c0fd92bade6", func := "loop.example/g00918/laws.FnExactSpeedsOf", spec := "fnExactSpeedsOf", apart := false, narrowed := true }
def FnExactSpeedsOfUptoSaid : Prop := fnExactSpeedsOfUptoRow.holds Try.pinned (OpenSpec.upto fnExactSpeedsOfSpec)

/-- 'laws.FnExactSpotAt', WHERE WHAT IT READS IS OF BULK AT MOST 1048576: true; the input reads as it did. -/
def fnExactSpotAtUptoRow : OpenClaim := { program := "ytmphnhffelfbgaa", sum := "43402775e30981386fe346a2df2e17f1c2f3e774c00dc85a88aa5c0fd92bade6", func := "loop.example/g00918/laws.FnExactSpotAt", spec := "fnExactSpotAt", apart := false, narrowed := true }
def FnExactSpotAtUptoSaid : Prop := fnExactSpotAtUptoRow.holds Try.pinned (OpenSpec.upto fnExactSpotAtSpec)

/-- 'laws.FnExactResample', WHERE WHAT IT READS IS OF BULK AT MOST 1048576: true; the input reads as it did. -/
def fnExactResampleUptoRow : OpenClaim := { program := "ytmphnhffelfbgaa", sum := "43402775e30981386fe346a2df2e17f1c2f3e774c00dc85a88aa5c0fd92bade6", func := "loop.example/g00918/laws.FnExactResample", spec := "fnExactResample", unfollowed := true, recurses := true, apart := false, narrowed := true }
def FnExactResampleUptoSaid : Prop := fnExactResampleUptoRow.holds Try.pinned (OpenSpec.upto fnExactResampleSpec)

/-- 'laws.FnExactReverseStroke', WHERE WHAT IT READS IS OF BULK AT MOST 1048576: true; the input reads as it did. -/
def fnExactReverseStrokeUptoRow : OpenClaim := { program := "ytmphnhffelfbgaa", sum := "43402775e30981386fe346a2df2e17f1c2f3e774c00dc85a88aa5c0fd92bade6", func := "loop.example/g00918/laws.FnExactReverseStroke", spec := "fnExactReverseStroke", apart := false, narrowed := true }
def FnExactReverseStrokeUptoSaid : Prop := fnExactReverseStrokeUptoRow.holds Try.pinned (OpenSpec.upto fnExactReverseStrokeSpec)

/-- 'laws.FnExactThinStroke', WHERE WHAT IT READS IS OF BULK AT MOST 1048576: true; the input reads as it did. -/
def fnExactThinStrokeUptoRow : OpenClaim := { program := "ytmphnhffelfbgaa", sum := "43402775e30981386fe346a2df2e17f1c2f3e774c00dc85a88aa5c0fd92bade6", func := "loop.example/g00918/laws.FnExactThinStroke", spec := "fnExactThinStroke", apart := false, narrowed := true }
def FnExactThinStrokeUptoSaid : Prop := fnExactThinStrokeUptoRow.holds Try.pinned (OpenSpec.upto fnExactThinStrokeSpec)

/-- 'laws.FnExactSmoothStroke', WHERE WHAT IT READS IS OF BULK AT MOST 1048576: true; the input reads as it did. -/
def fnExactSmoothStrokeUptoRow : OpenClaim := { program := "ytmphnhffelfbgaa", sum := "43402775e30981386fe346a2df2e17f1c2f3e774c00dc85a88aa5c0fd92bade6", func := "loop.example/g00918/laws.FnExactSmoothStroke", spec := "fnExactSmoothStroke", apart := false, narrowed := true }
def FnExactSmoothStrokeUptoSaid : Prop := fnExactSmoothStrokeUptoRow.holds Try.pinned (OpenSpec.upto fnExactSmoothStrokeSpec)

/-- 'laws.FnExactSameSpots', WHERE WHAT IT READS IS OF BULK AT MOST 1048576: true; the input reads as it did. -/
def fnExactSameSpotsUptoRow : OpenClaim := { program := "ytmphnhffelfbgaa", sum := "43402775e30981386fe346a2df2e17f1c2f3e774c00dc85a88aa5c0fd92bade6", func := "loop.example/g00918/laws.FnExactSameSpots", spec := "fnExactSameSpots", apart := false, narrowed := true }
def FnExactSameSpotsUptoSaid : Prop := fnExactSameSpotsUptoRow.holds Try.pinned (OpenSpec.upto fnExactSameSpotsSpec)

end Rows
end Go.Proofs.Ytmphnhffelfbgaa
