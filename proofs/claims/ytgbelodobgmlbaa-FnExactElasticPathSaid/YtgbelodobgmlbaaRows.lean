/-
  No cell of these rows narrows 'for every input' (looked for: loops, veiled, ifaces, maps, wideKeys, modest, calm, conditions, laid).
  DERIVED. THE GIVEN ROWS OF THIS SEAT. 9 by the template 'for every input the law returns true; each argument reads behind the call as it read before'; 0 by the template 'total and deterministic' (their statements: YtgbelodobgmlbaaTotals.lean).
  GIVEN WITH THE SEED: the statements are not yours to turn. If you find one false, say at which input.
  Laid BY PROGRAM, IN A SANDBOX (cutbox-rows.mjs): the forced cells as the released guide's own fill.sh prints them over the translation d39735f1313c4ab2… (all of the seat's roots in one cut). By AI agents, Wed Nov 11 2026. No macro, syntax, notation, axiom, sorry.
-/
import Derived.Test.YtgbelodobgmlbaaChecked
import GoSem.Claim
import GoSem.ClaimJoined
import GoSem.ClaimMapViews
import Derived.JoinedTies
import Derived.KernelRfl
namespace Go.Proofs.Ytgbelodobgmlbaa
/- THE CELL 'sum', in the pinned program and in every row, IS THE sha256 OF THE DUMP (.gsa) THAT YtgbelodobgmlbaaProg.lean LOADS. Nothing in Lean hashes anything: it is a label: what it is worth is what the hold of that sum in a sandbox is worth. -/
noncomputable def Try.pinned : Pinned := { name := "ytgbelodobgmlbaa", sum := "d39735f1313c4ab2a2197d43298f94da6d9611307bf31953a6b2f7dca5d32d5e", checked := Try.checked }
namespace Rows
def none {H : Type} : Left H := { results := [], args := [] }

/-- 'laws.FnExactValidSeq': WHATEVER THE INPUT: true; the input reads as it did. -/
def fnExactValidSeqSpec : ChangeSpec := { name := "fnExactValidSeq", fn := fun _ => fun
  | [d] => { results := [.lit (.bool true)], args := [d] }
  | _ => none }
def fnExactValidSeqRow : OpenClaim := { program := "ytgbelodobgmlbaa", sum := "d39735f1313c4ab2a2197d43298f94da6d9611307bf31953a6b2f7dca5d32d5e", func := "loop.example/g00918/laws.FnExactValidSeq", spec := "fnExactValidSeq", apart := false }
def FnExactValidSeqSaid : Prop := fnExactValidSeqRow.holds Try.pinned (OpenSpec.ofChange fnExactValidSeqSpec)

/-- ITS FALSE NEIGHBOUR: 'it returns false'. Refute it at one input. -/
def fnExactValidSeqWrong : ChangeSpec := { name := "fnExactValidSeq", fn := fun _ => fun
  | [d] => { results := [.lit (.bool false)], args := [d] }
  | _ => none }
def FnExactValidSeqWrongFalsely : Prop := fnExactValidSeqRow.holds Try.pinned (OpenSpec.ofChange fnExactValidSeqWrong)

/-- 'laws.FnExactFeatCost': WHATEVER THE INPUT: true; the input reads as it did. -/
def fnExactFeatCostSpec : ChangeSpec := { name := "fnExactFeatCost", fn := fun _ => fun
  | [d1, d2] => { results := [.lit (.bool true)], args := [d1, d2] }
  | _ => none }
def fnExactFeatCostRow : OpenClaim := { program := "ytgbelodobgmlbaa", sum := "d39735f1313c4ab2a2197d43298f94da6d9611307bf31953a6b2f7dca5d32d5e", func := "loop.example/g00918/laws.FnExactFeatCost", spec := "fnExactFeatCost", apart := false }
def FnExactFeatCostSaid : Prop := fnExactFeatCostRow.holds Try.pinned (OpenSpec.ofChange fnExactFeatCostSpec)

/-- ITS FALSE NEIGHBOUR: 'it returns false'. Refute it at one input. -/
def fnExactFeatCostWrong : ChangeSpec := { name := "fnExactFeatCost", fn := fun _ => fun
  | [d1, d2] => { results := [.lit (.bool false)], args := [d1, d2] }
  | _ => none }
def FnExactFeatCostWrongFalsely : Prop := fnExactFeatCostRow.holds Try.pinned (OpenSpec.ofChange fnExactFeatCostWrong)

/-- 'laws.FnExactElastic': WHATEVER THE INPUT: true; the input reads as it did. -/
def fnExactElasticSpec : ChangeSpec := { name := "fnExactElastic", fn := fun _ => fun
  | [d1, d2, d3] => { results := [.lit (.bool true)], args := [d1, d2, d3] }
  | _ => none }
def fnExactElasticRow : OpenClaim := { program := "ytgbelodobgmlbaa", sum := "d39735f1313c4ab2a2197d43298f94da6d9611307bf31953a6b2f7dca5d32d5e", func := "loop.example/g00918/laws.FnExactElastic", spec := "fnExactElastic", apart := false }
def FnExactElasticSaid : Prop := fnExactElasticRow.holds Try.pinned (OpenSpec.ofChange fnExactElasticSpec)

/-- ITS FALSE NEIGHBOUR: 'it returns false'. Refute it at one input. -/
def fnExactElasticWrong : ChangeSpec := { name := "fnExactElastic", fn := fun _ => fun
  | [d1, d2, d3] => { results := [.lit (.bool false)], args := [d1, d2, d3] }
  | _ => none }
def FnExactElasticWrongFalsely : Prop := fnExactElasticRow.holds Try.pinned (OpenSpec.ofChange fnExactElasticWrong)

/-- 'laws.FnExactElasticPath': WHATEVER THE INPUT: true; the input reads as it did. -/
def fnExactElasticPathSpec : ChangeSpec := { name := "fnExactElasticPath", fn := fun _ => fun
  | [d1, d2, d3] => { results := [.lit (.bool true)], args := [d1, d2, d3] }
  | _ => none }
def fnExactElasticPathRow : OpenClaim := { program := "ytgbelodobgmlbaa", sum := "d39735f1313c4ab2a2197d43298f94da6d9611307bf31953a6b2f7dca5d32d5e", func := "loop.example/g00918/laws.FnExactElasticPath", spec := "fnExactElasticPath", apart := false }
def FnExactElasticPathSaid : Prop := fnExactElasticPathRow.holds Try.pinned (OpenSpec.ofChange fnExactElasticPathSpec)

/-- ITS FALSE NEIGHBOUR: 'it returns false'. Refute it at one input. -/
def fnExactElasticPathWrong : ChangeSpec := { name := "fnExactElasticPath", fn := fun _ => fun
  | [d1, d2, d3] => { results := [.lit (.bool false)], args := [d1, d2, d3] }
  | _ => none }
def FnExactElasticPathWrongFalsely : Prop := fnExactElasticPathRow.holds Try.pinned (OpenSpec.ofChange fnExactElasticPathWrong)

/-- 'laws.FnExactValidPath': WHATEVER THE INPUT: true; the input reads as it did. -/
def fnExactValidPathSpec : ChangeSpec := { name := "fnExactValidPath", fn := fun _ => fun
  | [d1, d2, d3, d4] => { results := [.lit (.bool true)], args := [d1, d2, d3, d4] }
  | _ => none }
def fnExactValidPathRow : OpenClaim := { program := "ytgbelodobgmlbaa", sum := "d39735f1313c4ab2a2197d43298f94da6d9611307bf31953a6b2f7dca5d32d5e", func := "loop.example/g00918/laws.FnExactValidPath", spec := "fnExactValidPath", apart := false }
def FnExactValidPathSaid : Prop := fnExactValidPathRow.holds Try.pinned (OpenSpec.ofChange fnExactValidPathSpec)

/-- ITS FALSE NEIGHBOUR: 'it returns false'. Refute it at one input. -/
def fnExactValidPathWrong : ChangeSpec := { name := "fnExactValidPath", fn := fun _ => fun
  | [d1, d2, d3, d4] => { results := [.lit (.bool false)], args := [d1, d2, d3, d4] }
  | _ => none }
def FnExactValidPathWrongFalsely : Prop := fnExactValidPathRow.holds Try.pinned (OpenSpec.ofChange fnExactValidPathWrong)

/-- 'laws.FnExactReversePath': WHATEVER THE INPUT: true; the input reads as it did. -/
def fnExactReversePathSpec : ChangeSpec := { name := "fnExactReversePath", fn := fun _ => fun
  | [d] => { results := [.lit (.bool true)], args := [d] }
  | _ => none }
def fnExactReversePathRow : OpenClaim := { program := "ytgbelodobgmlbaa", sum := "d39735f1313c4ab2a2197d43298f94da6d9611307bf31953a6b2f7dca5d32d5e", func := "loop.example/g00918/laws.FnExactReversePath", spec := "fnExactReversePath", unfollowed := true, recurses := true, apart := false }
def FnExactReversePathSaid : Prop := fnExactReversePathRow.holds Try.pinned (OpenSpec.ofChange fnExactReversePathSpec)

/-- ITS FALSE NEIGHBOUR: 'it returns false'. Refute it at one input. -/
def fnExactReversePathWrong : ChangeSpec := { name := "fnExactReversePath", fn := fun _ => fun
  | [d] => { results := [.lit (.bool false)], args := [d] }
  | _ => none }
def FnExactReversePathWrongFalsely : Prop := fnExactReversePathRow.holds Try.pinned (OpenSpec.ofChange fnExactReversePathWrong)

/-- 'laws.FnExactPathCost': WHATEVER THE INPUT: true; the input reads as it did. -/
def fnExactPathCostSpec : ChangeSpec := { name := "fnExactPathCost", fn := fun _ => fun
  | [d1, d2, d3] => { results := [.lit (.bool true)], args := [d1, d2, d3] }
  | _ => none }
def fnExactPathCostRow : OpenClaim := { program := "ytgbelodobgmlbaa", sum := "d39735f1313c4ab2a2197d43298f94da6d9611307bf31953a6b2f7dca5d32d5e", func := "loop.example/g00918/laws.FnExactPathCost", spec := "fnExactPathCost", apart := false }
def FnExactPathCostSaid : Prop := fnExactPathCostRow.holds Try.pinned (OpenSpec.ofChange fnExactPathCostSpec)

/-- ITS FALSE NEIGHBOUR: 'it returns false'. Refute it at one input. -/
def fnExactPathCostWrong : ChangeSpec := { name := "fnExactPathCost", fn := fun _ => fun
  | [d1, d2, d3] => { results := [.lit (.bool false)], args := [d1, d2, d3] }
  | _ => none }
def FnExactPathCostWrongFalsely : Prop := fnExactPathCostRow.holds Try.pinned (OpenSpec.ofChange fnExactPathCostWrong)

/-- 'laws.FnExactBlendFeats': WHATEVER THE INPUT: true; the input reads as it did. -/
def fnExactBlendFeatsSpec : ChangeSpec := { name := "fnExactBlendFeats", fn := fun _ => fun
  | [d1, d2, d3] => { results := [.lit (.bool true)], args := [d1, d2, d3] }
  | _ => none }
def fnExactBlendFeatsRow : OpenClaim := { program := "ytgbelodobgmlbaa", sum := "d39735f1313c4ab2a2197d43298f94da6d9611307bf31953a6b2f7dca5d32d5e", func := "loop.example/g00918/laws.FnExactBlendFeats", spec := "fnExactBlendFeats", apart := false }
def FnExactBlendFeatsSaid : Prop := fnExactBlendFeatsRow.holds Try.pinned (OpenSpec.ofChange fnExactBlendFeatsSpec)

/-- ITS FALSE NEIGHBOUR: 'it returns false'. Refute it at one input. -/
def fnExactBlendFeatsWrong : ChangeSpec := { name := "fnExactBlendFeats", fn := fun _ => fun
  | [d1, d2, d3] => { results := [.lit (.bool false)], args := [d1, d2, d3] }
  | _ => none }
def FnExactBlendFeatsWrongFalsely : Prop := fnExactBlendFeatsRow.holds Try.pinned (OpenSpec.ofChange fnExactBlendFeatsWrong)

/-- 'laws.FnExactPartElastic': WHATEVER THE INPUT: true; the input reads as it did. -/
def fnExactPartElasticSpec : ChangeSpec := { name := "fnExactPartElastic", fn := fun _ => fun
  | [d1, d2] => { results := [.lit (.bool true)], args := [d1, d2] }
  | _ => none }
def fnExactPartElasticRow : OpenClaim := { program := "ytgbelodobgmlbaa", sum := "d39735f1313c4ab2a2197d43298f94da6d9611307bf31953a6b2f7dca5d32d5e", func := "loop.example/g00918/laws.FnExactPartElastic", spec := "fnExactPartElastic", apart := false }
def FnExactPartElasticSaid : Prop := fnExactPartElasticRow.holds Try.pinned (OpenSpec.ofChange fnExactPartElasticSpec)

/-- ITS FALSE NEIGHBOUR: 'it returns false'. Refute it at one input. -/
def fnExactPartElasticWrong : ChangeSpec := { name := "fnExactPartElastic", fn := fun _ => fun
  | [d1, d2] => { results := [.lit (.bool false)], args := [d1, d2] }
  | _ => none }
def FnExactPartElasticWrongFalsely : Prop := fnExactPartElasticRow.holds Try.pinned (OpenSpec.ofChange fnExactPartElasticWrong)

/- THE SECOND FORM. 'bulk': how many values and letters a reading holds, each counted each time it is reached (what is shared counts as often as it is met; a slice's spare places count too). A statement '..UptoSaid' is the law's where the arguments, and the package variables that the reading takes, are together of bulk at most 1048576: NARROWER than '..Said'. Prove '..Said' where nothing that the law and all that it calls make is longer than what came in: it says more and counts as full. Else prove '..UptoSaid'. A law counts once. -/
mutual
def uptoBulk {H : Type} : DataW H → Nat
  | .lit (.string bytes) => bytes.length + 1
  | .lit _ => 1
  | .nil => 1
  | .ptr d => uptoBulk d + 1
  | .slice elems spare => uptoBulkAll elems + uptoBulkAll spare + 1
  | .agg parts => uptoBulkAll parts + 1
  | .iface _ d => uptoBulk d + 1
  | .map entries => uptoBulkEntries entries + 1
  | .held _ => 1
def uptoBulkAll {H : Type} : List (DataW H) → Nat
  | [] => 0
  | d :: r => uptoBulk d + uptoBulkAll r
def uptoBulkEntries {H : Type} : List (Lit × DataW H) → Nat
  | [] => 0
  | x :: r => uptoBulkEntry x + uptoBulkEntries r
def uptoBulkEntry {H : Type} : Lit × DataW H → Nat
  | (.string bytes, d) => bytes.length + uptoBulk d + 1
  | (_, d) => uptoBulk d + 1
 end
def uptoSmall : (H : Type) → List (DataW H) → Bool := fun _ ds => decide (uptoBulkAll ds ≤ 1048576)
def OpenSpec.upto (s : _root_.Go.ChangeSpec) : _root_.Go.OpenSpec := { _root_.Go.OpenSpec.ofChange s with cond := some uptoSmall }

/-- 'laws.FnExactValidSeq', WHERE WHAT IT READS IS OF BULK AT MOST 1048576: true; the input reads as it did. -/
def fnExactValidSeqUptoRow : OpenClaim := { program := "ytgbelodobgmlbaa", sum := "d39735f1313c4ab2a2197d43298f94da6d9611307bf31953a6b2f7dca5d32d5e", func := "loop.example/g00918/laws.FnExactValidSeq", spec := "fnExactValidSeq", apart := false, narrowed := true }
def FnExactValidSeqUptoSaid : Prop := fnExactValidSeqUptoRow.holds Try.pinned (OpenSpec.upto fnExactValidSeqSpec)

/-- 'laws.FnExactFeatCost', WHERE WHAT IT READS IS OF BULK AT MOST 1048576: true; the input reads as it did. -/
def fnExactFeatCostUptoRow : OpenClaim := { program := "ytgbelodobgmlbaa", sum := "d39735f1313c4ab2a2197d43298f94da6d9611307bf31953a6b2f7dca5d32d5e", func := "loop.example/g00918/laws.FnExactFeatCost", spec := "fnExactFeatCost", apart := false, narrowed := true }
def FnExactFeatCostUptoSaid : Prop := fnExactFeatCostUptoRow.holds Try.pinned (OpenSpec.upto fnExactFeatCostSpec)

/-- 'laws.FnExactElastic', WHERE WHAT IT READS IS OF BULK AT MOST 1048576: true; the input reads as it did. -/
def fnExactElasticUptoRow : OpenClaim := { program := "ytgbelodobgmlbaa", sum := "d39735f1313c4ab2a2197d43298f94da6d9611307bf31953a6b2f7dca5d32d5e", func := "loop.example/g00918/laws.FnExactElastic", spec := "fnExactElastic", apart := false, narrowed := true }
def FnExactElasticUptoSaid : Prop := fnExactElasticUptoRow.holds Try.pinned (OpenSpec.upto fnExactElasticSpec)

/-- 'laws.FnExactElasticPath', WHERE WHAT IT READS IS OF BULK AT MOST 1048576: true; the input reads as it did. -/
def fnExactElasticPathUptoRow : OpenClaim := { program := "ytgbelodobgmlbaa", sum := "d39735f1313c4ab2a2197d43298f94da6d9611307bf31953a6b2f7dca5d32d5e", func := "loop.example/g00918/laws.FnExactElasticPath", spec := "fnExactElasticPath", apart := false, narrowed := true }
def FnExactElasticPathUptoSaid : Prop := fnExactElasticPathUptoRow.holds Try.pinned (OpenSpec.upto fnExactElasticPathSpec)

/-- 'laws.FnExactValidPath', WHERE WHAT IT READS IS OF BULK AT MOST 1048576: true; the input reads as it did. -/
def fnExactValidPathUptoRow : OpenClaim := { program := "ytgbelodobgmlbaa", sum := "d39735f1313c4ab2a2197d43298f94da6d9611307bf31953a6b2f7dca5d32d5e", func := "loop.example/g00918/laws.FnExactValidPath", spec := "fnExactValidPath", apart := false, narrowed := true }
def FnExactValidPathUptoSaid : Prop := fnExactValidPathUptoRow.holds Try.pinned (OpenSpec.upto fnExactValidPathSpec)

/-- 'laws.FnExactReversePath', WHERE WHAT IT READS IS OF BULK AT MOST 1048576: true; the input reads as it did. -/
def fnExactReversePathUptoRow : OpenClaim := { program := "ytgbelodobgmlbaa", sum := "d39735f1313c4ab2a2197d43298f94da6d9611307bf31953a6b2f7dca5d32d5e", func := "loop.example/g00918/laws.FnExactReversePath", spec := "fnExactReversePath", unfollowed := true, recurses := true, apart := false, narrowed := true }
def FnExactReversePathUptoSaid : Prop := fnExactReversePathUptoRow.holds Try.pinned (OpenSpec.upto fnExactReversePathSpec)

/-- 'laws.FnExactPathCost', WHERE WHAT IT READS IS OF BULK AT MOST 1048576: true; the input reads as it did. -/
def fnExactPathCostUptoRow : OpenClaim := { program := "ytgbelodobgmlbaa", sum := "d39735f1313c4ab2a2197d43298f94da6d9611307bf31953a6b2f7dca5d32d5e", func := "loop.example/g00918/laws.FnExactPathCost", spec := "fnExactPathCost", apart := false, narrowed := true }
def FnExactPathCostUptoSaid : Prop := fnExactPathCostUptoRow.holds Try.pinned (OpenSpec.upto fnExactPathCostSpec)

/-- 'laws.FnExactBlendFeats', WHERE WHAT IT READS IS OF BULK AT MOST 1048576: true; the input reads as it did. -/
def fnExactBlendFeatsUptoRow : OpenClaim := { program := "ytgbelodobgmlbaa", sum := "d39735f1313c4ab2a2197d43298f94da6d9611307bf31953a6b2f7dca5d32d5e", func := "loop.example/g00918/laws.FnExactBlendFeats", spec := "fnExactBlendFeats", apart := false, narrowed := true }
def FnExactBlendFeatsUptoSaid : Prop := fnExactBlendFeatsUptoRow.holds Try.pinned (OpenSpec.upto fnExactBlendFeatsSpec)

/-- 'laws.FnExactPartElastic', WHERE WHAT IT READS IS OF BULK AT MOST 1048576: true; the input reads as it did. -/
def fnExactPartElasticUptoRow : OpenClaim := { program := "ytgbelodobgmlbaa", sum := "d39735f1313c4ab2a2197d43298f94da6d9611307bf31953a6b2f7dca5d32d5e", func := "loop.example/g00918/laws.FnExactPartElastic", spec := "fnExactPartElastic", apart := false, narrowed := true }
def FnExactPartElasticUptoSaid : Prop := fnExactPartElasticUptoRow.holds Try.pinned (OpenSpec.upto fnExactPartElasticSpec)

end Rows
end Go.Proofs.Ytgbelodobgmlbaa
