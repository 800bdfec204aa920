/-
  No cell of these rows narrows 'for every input' (looked for: loops, veiled, ifaces, maps, wideKeys, modest, calm, conditions, laid).
  DERIVED. THE GIVEN ROWS OF THIS SEAT. 10 by the template 'for every input the law returns true; each argument reads behind the call as it read before'; 0 by the template 'total and deterministic' (their statements: YtimkochgnjggdaaTotals.lean).
  GIVEN WITH THE SEED: the statements are not yours to turn. If you find one false, say at which input.
  Laid BY PROGRAM, IN A SANDBOX (cutbox-rows.mjs): the forced cells as the released guide's own fill.sh prints them over the translation 0bd0fb410e9486ca… (all of the seat's roots in one cut). By AI agents, Wed Nov 11 2026. No macro, syntax, notation, axiom, sorry.
-/
import Derived.Test.YtimkochgnjggdaaChecked
import GoSem.Claim
import GoSem.ClaimJoined
import GoSem.ClaimMapViews
import Derived.JoinedTies
import Derived.KernelRfl
namespace Go.Proofs.Ytimkochgnjggdaa
/- THE CELL 'sum', in the pinned program and in every row, IS THE sha256 OF THE DUMP (.gsa) THAT YtimkochgnjggdaaProg.lean LOADS. Nothing in Lean hashes anything: it is a label: what it is worth is what the hold of that sum in a sandbox is worth. -/
noncomputable def Try.pinned : Pinned := { name := "ytimkochgnjggdaa", sum := "0bd0fb410e9486ca452efb12e1bcf21631fe77ddf8dd9638668fb58bae5563e3", checked := Try.checked }
namespace Rows
def none {H : Type} : Left H := { results := [], args := [] }

/-- 'laws.FnExactInputOf': WHATEVER THE INPUT: true; the input reads as it did. -/
def fnExactInputOfSpec : ChangeSpec := { name := "fnExactInputOf", fn := fun _ => fun
  | [d] => { results := [.lit (.bool true)], args := [d] }
  | _ => none }
def fnExactInputOfRow : OpenClaim := { program := "ytimkochgnjggdaa", sum := "0bd0fb410e9486ca452efb12e1bcf21631fe77ddf8dd9638668fb58bae5563e3", func := "loop.example/g00918/laws.FnExactInputOf", spec := "fnExactInputOf", apart := false }
def FnExactInputOfSaid : Prop := fnExactInputOfRow.holds Try.pinned (OpenSpec.ofChange fnExactInputOfSpec)

/-- ITS FALSE NEIGHBOUR: 'it returns false'. Refute it at one input. -/
def fnExactInputOfWrong : ChangeSpec := { name := "fnExactInputOf", fn := fun _ => fun
  | [d] => { results := [.lit (.bool false)], args := [d] }
  | _ => none }
def FnExactInputOfWrongFalsely : Prop := fnExactInputOfRow.holds Try.pinned (OpenSpec.ofChange fnExactInputOfWrong)

/-- 'laws.FnExactNewPerceptron': WHATEVER THE INPUT: true; the input reads as it did. -/
def fnExactNewPerceptronSpec : ChangeSpec := { name := "fnExactNewPerceptron", fn := fun _ => fun
  | [d] => { results := [.lit (.bool true)], args := [d] }
  | _ => none }
def fnExactNewPerceptronRow : OpenClaim := { program := "ytimkochgnjggdaa", sum := "0bd0fb410e9486ca452efb12e1bcf21631fe77ddf8dd9638668fb58bae5563e3", func := "loop.example/g00918/laws.FnExactNewPerceptron", spec := "fnExactNewPerceptron", inPlace := ["internal/bytealg.IndexByteString", "internal/bytealg.IndexString"], named := ["internal/bytealg.MaxLen"], apart := false }
def FnExactNewPerceptronSaid : Prop := fnExactNewPerceptronRow.holds Try.pinned (OpenSpec.ofChange fnExactNewPerceptronSpec)

/-- ITS FALSE NEIGHBOUR: 'it returns false'. Refute it at one input. -/
def fnExactNewPerceptronWrong : ChangeSpec := { name := "fnExactNewPerceptron", fn := fun _ => fun
  | [d] => { results := [.lit (.bool false)], args := [d] }
  | _ => none }
def FnExactNewPerceptronWrongFalsely : Prop := fnExactNewPerceptronRow.holds Try.pinned (OpenSpec.ofChange fnExactNewPerceptronWrong)

/-- 'laws.FnExactValidPerceptron': WHATEVER THE INPUT: true; the input reads as it did. -/
def fnExactValidPerceptronSpec : ChangeSpec := { name := "fnExactValidPerceptron", fn := fun _ => fun
  | [d] => { results := [.lit (.bool true)], args := [d] }
  | _ => none }
def fnExactValidPerceptronRow : OpenClaim := { program := "ytimkochgnjggdaa", sum := "0bd0fb410e9486ca452efb12e1bcf21631fe77ddf8dd9638668fb58bae5563e3", func := "loop.example/g00918/laws.FnExactValidPerceptron", spec := "fnExactValidPerceptron", inPlace := ["internal/bytealg.IndexByteString", "internal/bytealg.IndexString"], unfollowed := true, recurses := true, named := ["internal/bytealg.MaxLen"], apart := false }
def FnExactValidPerceptronSaid : Prop := fnExactValidPerceptronRow.holds Try.pinned (OpenSpec.ofChange fnExactValidPerceptronSpec)

/-- ITS FALSE NEIGHBOUR: 'it returns false'. Refute it at one input. -/
def fnExactValidPerceptronWrong : ChangeSpec := { name := "fnExactValidPerceptron", fn := fun _ => fun
  | [d] => { results := [.lit (.bool false)], args := [d] }
  | _ => none }
def FnExactValidPerceptronWrongFalsely : Prop := fnExactValidPerceptronRow.holds Try.pinned (OpenSpec.ofChange fnExactValidPerceptronWrong)

/-- 'laws.FnExactSamePerceptron': WHATEVER THE INPUT: true; the input reads as it did. -/
def fnExactSamePerceptronSpec : ChangeSpec := { name := "fnExactSamePerceptron", fn := fun _ => fun
  | [d1, d2] => { results := [.lit (.bool true)], args := [d1, d2] }
  | _ => none }
def fnExactSamePerceptronRow : OpenClaim := { program := "ytimkochgnjggdaa", sum := "0bd0fb410e9486ca452efb12e1bcf21631fe77ddf8dd9638668fb58bae5563e3", func := "loop.example/g00918/laws.FnExactSamePerceptron", spec := "fnExactSamePerceptron", unfollowed := true, recurses := true, apart := false }
def FnExactSamePerceptronSaid : Prop := fnExactSamePerceptronRow.holds Try.pinned (OpenSpec.ofChange fnExactSamePerceptronSpec)

/-- ITS FALSE NEIGHBOUR: 'it returns false'. Refute it at one input. -/
def fnExactSamePerceptronWrong : ChangeSpec := { name := "fnExactSamePerceptron", fn := fun _ => fun
  | [d1, d2] => { results := [.lit (.bool false)], args := [d1, d2] }
  | _ => none }
def FnExactSamePerceptronWrongFalsely : Prop := fnExactSamePerceptronRow.holds Try.pinned (OpenSpec.ofChange fnExactSamePerceptronWrong)

/-- 'laws.FnExactScoresOf': WHATEVER THE INPUT: true; the input reads as it did. -/
def fnExactScoresOfSpec : ChangeSpec := { name := "fnExactScoresOf", fn := fun _ => fun
  | [d1, d2] => { results := [.lit (.bool true)], args := [d1, d2] }
  | _ => none }
def fnExactScoresOfRow : OpenClaim := { program := "ytimkochgnjggdaa", sum := "0bd0fb410e9486ca452efb12e1bcf21631fe77ddf8dd9638668fb58bae5563e3", func := "loop.example/g00918/laws.FnExactScoresOf", spec := "fnExactScoresOf", inPlace := ["internal/bytealg.IndexByteString", "internal/bytealg.IndexString"], unfollowed := true, recurses := true, named := ["internal/bytealg.MaxLen"], apart := false }
def FnExactScoresOfSaid : Prop := fnExactScoresOfRow.holds Try.pinned (OpenSpec.ofChange fnExactScoresOfSpec)

/-- ITS FALSE NEIGHBOUR: 'it returns false'. Refute it at one input. -/
def fnExactScoresOfWrong : ChangeSpec := { name := "fnExactScoresOf", fn := fun _ => fun
  | [d1, d2] => { results := [.lit (.bool false)], args := [d1, d2] }
  | _ => none }
def FnExactScoresOfWrongFalsely : Prop := fnExactScoresOfRow.holds Try.pinned (OpenSpec.ofChange fnExactScoresOfWrong)

/-- 'laws.FnExactClassify': WHATEVER THE INPUT: true; the input reads as it did. -/
def fnExactClassifySpec : ChangeSpec := { name := "fnExactClassify", fn := fun _ => fun
  | [d1, d2] => { results := [.lit (.bool true)], args := [d1, d2] }
  | _ => none }
def fnExactClassifyRow : OpenClaim := { program := "ytimkochgnjggdaa", sum := "0bd0fb410e9486ca452efb12e1bcf21631fe77ddf8dd9638668fb58bae5563e3", func := "loop.example/g00918/laws.FnExactClassify", spec := "fnExactClassify", inPlace := ["internal/bytealg.IndexByteString", "internal/bytealg.IndexString"], unfollowed := true, recurses := true, named := ["internal/bytealg.MaxLen"], apart := false }
def FnExactClassifySaid : Prop := fnExactClassifyRow.holds Try.pinned (OpenSpec.ofChange fnExactClassifySpec)

/-- ITS FALSE NEIGHBOUR: 'it returns false'. Refute it at one input. -/
def fnExactClassifyWrong : ChangeSpec := { name := "fnExactClassify", fn := fun _ => fun
  | [d1, d2] => { results := [.lit (.bool false)], args := [d1, d2] }
  | _ => none }
def FnExactClassifyWrongFalsely : Prop := fnExactClassifyRow.holds Try.pinned (OpenSpec.ofChange fnExactClassifyWrong)

/-- 'laws.FnExactTrainOne': WHATEVER THE INPUT: true; the input reads as it did. -/
def fnExactTrainOneSpec : ChangeSpec := { name := "fnExactTrainOne", fn := fun _ => fun
  | [d1, d2] => { results := [.lit (.bool true)], args := [d1, d2] }
  | _ => none }
def fnExactTrainOneRow : OpenClaim := { program := "ytimkochgnjggdaa", sum := "0bd0fb410e9486ca452efb12e1bcf21631fe77ddf8dd9638668fb58bae5563e3", func := "loop.example/g00918/laws.FnExactTrainOne", spec := "fnExactTrainOne", inPlace := ["internal/bytealg.IndexByteString", "internal/bytealg.IndexString"], unfollowed := true, recurses := true, named := ["internal/bytealg.MaxLen"], apart := false }
def FnExactTrainOneSaid : Prop := fnExactTrainOneRow.holds Try.pinned (OpenSpec.ofChange fnExactTrainOneSpec)

/-- ITS FALSE NEIGHBOUR: 'it returns false'. Refute it at one input. -/
def fnExactTrainOneWrong : ChangeSpec := { name := "fnExactTrainOne", fn := fun _ => fun
  | [d1, d2] => { results := [.lit (.bool false)], args := [d1, d2] }
  | _ => none }
def FnExactTrainOneWrongFalsely : Prop := fnExactTrainOneRow.holds Try.pinned (OpenSpec.ofChange fnExactTrainOneWrong)

/-- 'laws.FnExactTrainEpoch': WHATEVER THE INPUT: true; the input reads as it did. -/
def fnExactTrainEpochSpec : ChangeSpec := { name := "fnExactTrainEpoch", fn := fun _ => fun
  | [d1, d2] => { results := [.lit (.bool true)], args := [d1, d2] }
  | _ => none }
def fnExactTrainEpochRow : OpenClaim := { program := "ytimkochgnjggdaa", sum := "0bd0fb410e9486ca452efb12e1bcf21631fe77ddf8dd9638668fb58bae5563e3", func := "loop.example/g00918/laws.FnExactTrainEpoch", spec := "fnExactTrainEpoch", inPlace := ["internal/bytealg.IndexByteString", "internal/bytealg.IndexString"], unfollowed := true, recurses := true, named := ["internal/bytealg.MaxLen"], apart := false }
def FnExactTrainEpochSaid : Prop := fnExactTrainEpochRow.holds Try.pinned (OpenSpec.ofChange fnExactTrainEpochSpec)

/-- ITS FALSE NEIGHBOUR: 'it returns false'. Refute it at one input. -/
def fnExactTrainEpochWrong : ChangeSpec := { name := "fnExactTrainEpoch", fn := fun _ => fun
  | [d1, d2] => { results := [.lit (.bool false)], args := [d1, d2] }
  | _ => none }
def FnExactTrainEpochWrongFalsely : Prop := fnExactTrainEpochRow.holds Try.pinned (OpenSpec.ofChange fnExactTrainEpochWrong)

/-- 'laws.FnExactTrain': WHATEVER THE INPUT: true; the input reads as it did. -/
def fnExactTrainSpec : ChangeSpec := { name := "fnExactTrain", fn := fun _ => fun
  | [d1, d2, d3] => { results := [.lit (.bool true)], args := [d1, d2, d3] }
  | _ => none }
def fnExactTrainRow : OpenClaim := { program := "ytimkochgnjggdaa", sum := "0bd0fb410e9486ca452efb12e1bcf21631fe77ddf8dd9638668fb58bae5563e3", func := "loop.example/g00918/laws.FnExactTrain", spec := "fnExactTrain", inPlace := ["internal/bytealg.IndexByteString", "internal/bytealg.IndexString"], unfollowed := true, recurses := true, named := ["internal/bytealg.MaxLen"], apart := false }
def FnExactTrainSaid : Prop := fnExactTrainRow.holds Try.pinned (OpenSpec.ofChange fnExactTrainSpec)

/-- ITS FALSE NEIGHBOUR: 'it returns false'. Refute it at one input. -/
def fnExactTrainWrong : ChangeSpec := { name := "fnExactTrain", fn := fun _ => fun
  | [d1, d2, d3] => { results := [.lit (.bool false)], args := [d1, d2, d3] }
  | _ => none }
def FnExactTrainWrongFalsely : Prop := fnExactTrainRow.holds Try.pinned (OpenSpec.ofChange fnExactTrainWrong)

/-- 'laws.FnExactMistakesOf': WHATEVER THE INPUT: true; the input reads as it did. -/
def fnExactMistakesOfSpec : ChangeSpec := { name := "fnExactMistakesOf", fn := fun _ => fun
  | [d1, d2] => { results := [.lit (.bool true)], args := [d1, d2] }
  | _ => none }
def fnExactMistakesOfRow : OpenClaim := { program := "ytimkochgnjggdaa", sum := "0bd0fb410e9486ca452efb12e1bcf21631fe77ddf8dd9638668fb58bae5563e3", func := "loop.example/g00918/laws.FnExactMistakesOf", spec := "fnExactMistakesOf", inPlace := ["internal/bytealg.IndexByteString", "internal/bytealg.IndexString"], unfollowed := true, recurses := true, named := ["internal/bytealg.MaxLen"], apart := false }
def FnExactMistakesOfSaid : Prop := fnExactMistakesOfRow.holds Try.pinned (OpenSpec.ofChange fnExactMistakesOfSpec)

/-- ITS FALSE NEIGHBOUR: 'it returns false'. Refute it at one input. -/
def fnExactMistakesOfWrong : ChangeSpec := { name := "fnExactMistakesOf", fn := fun _ => fun
  | [d1, d2] => { results := [.lit (.bool false)], args := [d1, d2] }
  | _ => none }
def FnExactMistakesOfWrongFalsely : Prop := fnExactMistakesOfRow.holds Try.pinned (OpenSpec.ofChange fnExactMistakesOfWrong)

/- THE SECOND FORM. 'bulk': how many values and letters a reading holds, each counted each time it is reached (what is shared counts as often as it is met; a slice's spare places count too). A statement '..UptoSaid' is the law's where the arguments, and the package variables that the reading takes, are together of bulk at most 1048576: NARROWER than '..Said'. Prove '..Said' where nothing that the law and all that it calls make is longer than what came in: it says more and counts as full. Else prove '..UptoSaid'. A law counts once. -/
mutual
def uptoBulk {H : Type} : DataW H → Nat
  | .lit (.string bytes) => bytes.length + 1
  | .lit _ => 1
  | .nil => 1
  | .ptr d => uptoBulk d + 1
  | .slice elems spare => uptoBulkAll elems + uptoBulkAll spare + 1
  | .agg parts => uptoBulkAll parts + 1
  | .iface _ d => uptoBulk d + 1
  | .map entries => uptoBulkEntries entries + 1
  | .held _ => 1
def uptoBulkAll {H : Type} : List (DataW H) → Nat
  | [] => 0
  | d :: r => uptoBulk d + uptoBulkAll r
def uptoBulkEntries {H : Type} : List (Lit × DataW H) → Nat
  | [] => 0
  | x :: r => uptoBulkEntry x + uptoBulkEntries r
def uptoBulkEntry {H : Type} : Lit × DataW H → Nat
  | (.string bytes, d) => bytes.length + uptoBulk d + 1
  | (_, d) => uptoBulk d + 1
 end
def uptoSmall : (H : Type) → List (DataW H) → Bool := fun _ ds => decide (uptoBulkAll ds ≤ 1048576)
def OpenSpec.upto (s : _root_.Go.ChangeSpec) : _root_.Go.OpenSpec := { _root_.Go.OpenSpec.ofChange s with cond := some uptoSmall }

/-- 'laws.FnExactInputOf', WHERE WHAT IT READS IS OF BULK AT MOST 1048576: true; the input reads as it did. -/
def fnExactInputOfUptoRow : OpenClaim := { program := "ytimkochgnjggdaa", sum := "0bd0fb410e9486ca452efb12e1bcf21631fe77ddf8dd9638668fb58bae5563e3", func := "loop.example/g00918/laws.FnExactInputOf", spec := "fnExactInputOf", apart := false, narrowed := true }
def FnExactInputOfUptoSaid : Prop := fnExactInputOfUptoRow.holds Try.pinned (OpenSpec.upto fnExactInputOfSpec)

/-- 'laws.FnExactNewPerceptron', WHERE WHAT IT READS IS OF BULK AT MOST 1048576: true; the input reads as it did. -/
def fnExactNewPerceptronUptoRow : OpenClaim := { program := "ytimkochgnjggdaa", sum := "0bd0fb410e9486ca452efb12e1bcf21631fe77ddf8dd9638668fb58bae5563e3", func := "loop.example/g00918/laws.FnExactNewPerceptron", spec := "fnExactNewPerceptron", inPlace := ["internal/bytealg.IndexByteString", "internal/bytealg.IndexString"], named := ["internal/bytealg.MaxLen"], apart := false, narrowed := true }
def FnExactNewPerceptronUptoSaid : Prop := fnExactNewPerceptronUptoRow.holds Try.pinned (OpenSpec.upto fnExactNewPerceptronSpec)

/-- 'laws.FnExactValidPerceptron', WHERE WHAT IT READS IS OF BULK AT MOST 1048576: true; the input reads as it did. -/
def fnExactValidPerceptronUptoRow : OpenClaim := { program := "ytimkochgnjggdaa", sum := "0bd0fb410e9486ca452efb12e1bcf21631fe77ddf8dd9638668fb58bae5563e3", func := "loop.example/g00918/laws.FnExactValidPerceptron", spec := "fnExactValidPerceptron", inPlace := ["internal/bytealg.IndexByteString", "internal/bytealg.IndexString"], unfollowed := true, recurses := true, named := ["internal/bytealg.MaxLen"], apart := false, narrowed := true }
def FnExactValidPerceptronUptoSaid : Prop := fnExactValidPerceptronUptoRow.holds Try.pinned (OpenSpec.upto fnExactValidPerceptronSpec)

/-- 'laws.FnExactSamePerceptron', WHERE WHAT IT READS IS OF BULK AT MOST 1048576: true; the input reads as it did. -/
def fnExactSamePerceptronUptoRow : OpenClaim := { program := "ytimkochgnjggdaa", sum := "0bd0fb410e9486ca452efb12e1bcf21631fe77ddf8dd9638668fb58bae5563e3", func := "loop.example/g00918/laws.FnExactSamePerceptron", spec := "fnExactSamePerceptron", unfollowed := true, recurses := true, apart := false, narrowed := true }
def FnExactSamePerceptronUptoSaid : Prop := fnExactSamePerceptronUptoRow.holds Try.pinned (OpenSpec.upto fnExactSamePerceptronSpec)

/-- 'laws.FnExactScoresOf', WHERE WHAT IT READS IS OF BULK AT MOST 1048576: true; the input reads as it did. -/
def fnExactScoresOfUptoRow : OpenClaim := { program := "ytimkochgnjggdaa", sum := "0bd0fb410e9486ca452efb12e1bcf21631fe77ddf8dd9638668fb58bae5563e3", func := "loop.example/g00918/laws.FnExactScoresOf", spec := "fnExactScoresOf", inPlace := ["internal/bytealg.IndexByteString", "internal/bytealg.IndexString"], unfollowed := true, recurses := true, named := ["internal/bytealg.MaxLen"], apart := false, narrowed := true }
def FnExactScoresOfUptoSaid : Prop := fnExactScoresOfUptoRow.holds Try.pinned (OpenSpec.upto fnExactScoresOfSpec)

/-- 'laws.FnExactClassify', WHERE WHAT IT READS IS OF BULK AT MOST 1048576: true; the input reads as it did. -/
def fnExactClassifyUptoRow : OpenClaim := { program := "ytimkochgnjggdaa", sum := "0bd0fb410e9486ca452efb12e1bcf21631fe77ddf8dd9638668fb58bae5563e3", func := "loop.example/g00918/laws.FnExactClassify", spec := "fnExactClassify", inPlace := ["internal/bytealg.IndexByteString", "internal/bytealg.IndexString"], unfollowed := true, recurses := true, named := ["internal/bytealg.MaxLen"], apart := false, narrowed := true }
def FnExactClassifyUptoSaid : Prop := fnExactClassifyUptoRow.holds Try.pinned (OpenSpec.upto fnExactClassifySpec)

/-- 'laws.FnExactTrainOne', WHERE WHAT IT READS IS OF BULK AT MOST 1048576: true; the input reads as it did. -/
def fnExactTrainOneUptoRow : OpenClaim := { program := "ytimkochgnjggdaa", sum := "0bd0fb410e9486ca452efb12e1bcf21631fe77ddf8dd9638668fb58bae5563e3", func := "loop.example/g00918/laws.FnExactTrainOne", spec := "fnExactTrainOne", inPlace := ["internal/bytealg.IndexByteString", "internal/bytealg.IndexString"], unfollowed := true, recurses := true, named := ["internal/bytealg.MaxLen"], apart := false, narrowed := true }
def FnExactTrainOneUptoSaid : Prop := fnExactTrainOneUptoRow.holds Try.pinned (OpenSpec.upto fnExactTrainOneSpec)

/-- 'laws.FnExactTrainEpoch', WHERE WHAT IT READS IS OF BULK AT MOST 1048576: true; the input reads as it did. -/
def fnExactTrainEpochUptoRow : OpenClaim := { program := "ytimkochgnjggdaa", sum := "0bd0fb410e9486ca452efb12e1bcf21631fe77ddf8dd9638668fb58bae5563e3", func := "loop.example/g00918/laws.FnExactTrainEpoch", spec := "fnExactTrainEpoch", inPlace := ["internal/bytealg.IndexByteString", "internal/bytealg.IndexString"], unfollowed := true, recurses := true, named := ["internal/bytealg.MaxLen"], apart := false, narrowed := true }
def FnExactTrainEpochUptoSaid : Prop := fnExactTrainEpochUptoRow.holds Try.pinned (OpenSpec.upto fnExactTrainEpochSpec)

/-- 'laws.FnExactTrain', WHERE WHAT IT READS IS OF BULK AT MOST 1048576: true; the input reads as it did. -/
def fnExactTrainUptoRow : OpenClaim := { program := "ytimkochgnjggdaa", sum := "0bd0fb410e9486ca452efb12e1bcf21631fe77ddf8dd9638668fb58bae5563e3", func := "loop.example/g00918/laws.FnExactTrain", spec := "fnExactTrain", inPlace := ["internal/bytealg.IndexByteString", "internal/bytealg.IndexString"], unfollowed := true, recurses := true, named := ["internal/bytealg.MaxLen"], apart := false, narrowed := true }
def FnExactTrainUptoSaid : Prop := fnExactTrainUptoRow.holds Try.pinned (OpenSpec.upto fnExactTrainSpec)

/-- 'laws.FnExactMistakesOf', WHERE WHAT IT READS IS OF BULK AT MOST 1048576: true; the input reads as it did. -/
def fnExactMistakesOfUptoRow : OpenClaim := { program := "ytimkochgnjggdaa", sum := "0bd0fb410e9486ca452efb12e1bcf21631fe77ddf8dd9638668fb58bae5563e3", func := "loop.example/g00918/laws.FnExactMistakesOf", spec := "fnExactMistakesOf", inPlace := ["internal/bytealg.IndexByteString", "internal/bytealg.IndexString"], unfollowed := true, recurses := true, named := ["internal/bytealg.MaxLen"], apart := false, narrowed := true }
def FnExactMistakesOfUptoSaid : Prop := fnExactMistakesOfUptoRow.holds Try.pinned (OpenSpec.upto fnExactMistakesOfSpec)

end Rows
end Go.Proofs.Ytimkochgnjggdaa
