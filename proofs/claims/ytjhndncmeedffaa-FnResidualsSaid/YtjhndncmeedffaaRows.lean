/-
  No cell of these rows narrows 'for every input' (looked for: loops, veiled, ifaces, maps, wideKeys, modest, calm, conditions, laid).
  DERIVED. THE GIVEN ROWS OF THIS SEAT. 8 by the template 'for every input the law returns true; each argument reads behind the call as it read before'; 0 by the template 'total and deterministic' (their statements: YtjhndncmeedffaaTotals.lean).
  GIVEN WITH THE SEED: the statements are not yours to turn. If you find one false, say at which input.
  Laid BY PROGRAM, IN A SANDBOX (cutbox-rows.mjs): the forced cells as the released guide's own fill.sh prints them over the translation 7ffbe5c53afa3bdb… (all of the seat's roots in one cut). By AI agents, Wed Nov 11 2026. No macro, syntax, notation, axiom, sorry.
-/
import Derived.Test.YtjhndncmeedffaaChecked
import GoSem.Claim
import GoSem.ClaimJoined
import GoSem.ClaimMapViews
import Derived.JoinedTies
import Derived.KernelRfl
namespace Go.Proofs.Ytjhndncmeedffaa
/- THE CELL 'sum', in the pinned program and in every row, IS THE sha256 OF THE DUMP (.gsa) THAT YtjhndncmeedffaaProg.lean LOADS. Nothing in Lean hashes anything: it is a label: what it is worth is what the hold of that sum in a sandbox is worth. -/
noncomputable def Try.pinned : Pinned := { name := "ytjhndncmeedffaa", sum := "7ffbe5c53afa3bdb223a9942ea7fdf82b94f32c1ec6f4ed228c90d2080377257", checked := Try.checked }
namespace Rows
def none {H : Type} : Left H := { results := [], args := [] }

/-- 'laws.FnExactUnpackBits': WHATEVER THE INPUT: true; the input reads as it did. -/
def fnExactUnpackBitsSpec : ChangeSpec := { name := "fnExactUnpackBits", fn := fun _ => fun
  | [d] => { results := [.lit (.bool true)], args := [d] }
  | _ => none }
def fnExactUnpackBitsRow : OpenClaim := { program := "ytjhndncmeedffaa", sum := "7ffbe5c53afa3bdb223a9942ea7fdf82b94f32c1ec6f4ed228c90d2080377257", func := "loop.example/g00918/laws.FnExactUnpackBits", spec := "fnExactUnpackBits", inPlace := ["internal/abi.NoEscape"], apart := false }
def FnExactUnpackBitsSaid : Prop := fnExactUnpackBitsRow.holds Try.pinned (OpenSpec.ofChange fnExactUnpackBitsSpec)

/-- ITS FALSE NEIGHBOUR: 'it returns false'. Refute it at one input. -/
def fnExactUnpackBitsWrong : ChangeSpec := { name := "fnExactUnpackBits", fn := fun _ => fun
  | [d] => { results := [.lit (.bool false)], args := [d] }
  | _ => none }
def FnExactUnpackBitsWrongFalsely : Prop := fnExactUnpackBitsRow.holds Try.pinned (OpenSpec.ofChange fnExactUnpackBitsWrong)

/-- 'laws.FnExactNumberBits': WHATEVER THE INPUT: true; the input reads as it did. -/
def fnExactNumberBitsSpec : ChangeSpec := { name := "fnExactNumberBits", fn := fun _ => fun
  | [d1, d2] => { results := [.lit (.bool true)], args := [d1, d2] }
  | _ => none }
def fnExactNumberBitsRow : OpenClaim := { program := "ytjhndncmeedffaa", sum := "7ffbe5c53afa3bdb223a9942ea7fdf82b94f32c1ec6f4ed228c90d2080377257", func := "loop.example/g00918/laws.FnExactNumberBits", spec := "fnExactNumberBits", inPlace := ["internal/abi.NoEscape"], apart := false }
def FnExactNumberBitsSaid : Prop := fnExactNumberBitsRow.holds Try.pinned (OpenSpec.ofChange fnExactNumberBitsSpec)

/-- ITS FALSE NEIGHBOUR: 'it returns false'. Refute it at one input. -/
def fnExactNumberBitsWrong : ChangeSpec := { name := "fnExactNumberBits", fn := fun _ => fun
  | [d1, d2] => { results := [.lit (.bool false)], args := [d1, d2] }
  | _ => none }
def FnExactNumberBitsWrongFalsely : Prop := fnExactNumberBitsRow.holds Try.pinned (OpenSpec.ofChange fnExactNumberBitsWrong)

/-- 'laws.FnExactRiceBits': WHATEVER THE INPUT: true; the input reads as it did. -/
def fnExactRiceBitsSpec : ChangeSpec := { name := "fnExactRiceBits", fn := fun _ => fun
  | [d1, d2] => { results := [.lit (.bool true)], args := [d1, d2] }
  | _ => none }
def fnExactRiceBitsRow : OpenClaim := { program := "ytjhndncmeedffaa", sum := "7ffbe5c53afa3bdb223a9942ea7fdf82b94f32c1ec6f4ed228c90d2080377257", func := "loop.example/g00918/laws.FnExactRiceBits", spec := "fnExactRiceBits", inPlace := ["internal/abi.NoEscape"], unfollowed := true, recurses := true, apart := false }
def FnExactRiceBitsSaid : Prop := fnExactRiceBitsRow.holds Try.pinned (OpenSpec.ofChange fnExactRiceBitsSpec)

/-- ITS FALSE NEIGHBOUR: 'it returns false'. Refute it at one input. -/
def fnExactRiceBitsWrong : ChangeSpec := { name := "fnExactRiceBits", fn := fun _ => fun
  | [d1, d2] => { results := [.lit (.bool false)], args := [d1, d2] }
  | _ => none }
def FnExactRiceBitsWrongFalsely : Prop := fnExactRiceBitsRow.holds Try.pinned (OpenSpec.ofChange fnExactRiceBitsWrong)

/-- 'laws.FnExactResidualsOf': WHATEVER THE INPUT: true; the input reads as it did. -/
def fnExactResidualsOfSpec : ChangeSpec := { name := "fnExactResidualsOf", fn := fun _ => fun
  | [d] => { results := [.lit (.bool true)], args := [d] }
  | _ => none }
def fnExactResidualsOfRow : OpenClaim := { program := "ytjhndncmeedffaa", sum := "7ffbe5c53afa3bdb223a9942ea7fdf82b94f32c1ec6f4ed228c90d2080377257", func := "loop.example/g00918/laws.FnExactResidualsOf", spec := "fnExactResidualsOf", apart := false }
def FnExactResidualsOfSaid : Prop := fnExactResidualsOfRow.holds Try.pinned (OpenSpec.ofChange fnExactResidualsOfSpec)

/-- ITS FALSE NEIGHBOUR: 'it returns false'. Refute it at one input. -/
def fnExactResidualsOfWrong : ChangeSpec := { name := "fnExactResidualsOf", fn := fun _ => fun
  | [d] => { results := [.lit (.bool false)], args := [d] }
  | _ => none }
def FnExactResidualsOfWrongFalsely : Prop := fnExactResidualsOfRow.holds Try.pinned (OpenSpec.ofChange fnExactResidualsOfWrong)

/-- 'laws.FnExactFromResiduals': WHATEVER THE INPUT: true; the input reads as it did. -/
def fnExactFromResidualsSpec : ChangeSpec := { name := "fnExactFromResiduals", fn := fun _ => fun
  | [d] => { results := [.lit (.bool true)], args := [d] }
  | _ => none }
def fnExactFromResidualsRow : OpenClaim := { program := "ytjhndncmeedffaa", sum := "7ffbe5c53afa3bdb223a9942ea7fdf82b94f32c1ec6f4ed228c90d2080377257", func := "loop.example/g00918/laws.FnExactFromResiduals", spec := "fnExactFromResiduals", apart := false }
def FnExactFromResidualsSaid : Prop := fnExactFromResidualsRow.holds Try.pinned (OpenSpec.ofChange fnExactFromResidualsSpec)

/-- ITS FALSE NEIGHBOUR: 'it returns false'. Refute it at one input. -/
def fnExactFromResidualsWrong : ChangeSpec := { name := "fnExactFromResiduals", fn := fun _ => fun
  | [d] => { results := [.lit (.bool false)], args := [d] }
  | _ => none }
def FnExactFromResidualsWrongFalsely : Prop := fnExactFromResidualsRow.holds Try.pinned (OpenSpec.ofChange fnExactFromResidualsWrong)

/-- 'laws.FnExactBestRice': WHATEVER THE INPUT: true; the input reads as it did. -/
def fnExactBestRiceSpec : ChangeSpec := { name := "fnExactBestRice", fn := fun _ => fun
  | [d] => { results := [.lit (.bool true)], args := [d] }
  | _ => none }
def fnExactBestRiceRow : OpenClaim := { program := "ytjhndncmeedffaa", sum := "7ffbe5c53afa3bdb223a9942ea7fdf82b94f32c1ec6f4ed228c90d2080377257", func := "loop.example/g00918/laws.FnExactBestRice", spec := "fnExactBestRice", apart := false }
def FnExactBestRiceSaid : Prop := fnExactBestRiceRow.holds Try.pinned (OpenSpec.ofChange fnExactBestRiceSpec)

/-- ITS FALSE NEIGHBOUR: 'it returns false'. Refute it at one input. -/
def fnExactBestRiceWrong : ChangeSpec := { name := "fnExactBestRice", fn := fun _ => fun
  | [d] => { results := [.lit (.bool false)], args := [d] }
  | _ => none }
def FnExactBestRiceWrongFalsely : Prop := fnExactBestRiceRow.holds Try.pinned (OpenSpec.ofChange fnExactBestRiceWrong)

/-- 'laws.FnExactChecksumOf': WHATEVER THE INPUT: true; the input reads as it did. -/
def fnExactChecksumOfSpec : ChangeSpec := { name := "fnExactChecksumOf", fn := fun _ => fun
  | [d] => { results := [.lit (.bool true)], args := [d] }
  | _ => none }
def fnExactChecksumOfRow : OpenClaim := { program := "ytjhndncmeedffaa", sum := "7ffbe5c53afa3bdb223a9942ea7fdf82b94f32c1ec6f4ed228c90d2080377257", func := "loop.example/g00918/laws.FnExactChecksumOf", spec := "fnExactChecksumOf", apart := false }
def FnExactChecksumOfSaid : Prop := fnExactChecksumOfRow.holds Try.pinned (OpenSpec.ofChange fnExactChecksumOfSpec)

/-- ITS FALSE NEIGHBOUR: 'it returns false'. Refute it at one input. -/
def fnExactChecksumOfWrong : ChangeSpec := { name := "fnExactChecksumOf", fn := fun _ => fun
  | [d] => { results := [.lit (.bool false)], args := [d] }
  | _ => none }
def FnExactChecksumOfWrongFalsely : Prop := fnExactChecksumOfRow.holds Try.pinned (OpenSpec.ofChange fnExactChecksumOfWrong)

/-- 'laws.FnResiduals': WHATEVER THE INPUT: true; the input reads as it did. -/
def fnResidualsSpec : ChangeSpec := { name := "fnResiduals", fn := fun _ => fun
  | [d1, d2] => { results := [.lit (.bool true)], args := [d1, d2] }
  | _ => none }
def fnResidualsRow : OpenClaim := { program := "ytjhndncmeedffaa", sum := "7ffbe5c53afa3bdb223a9942ea7fdf82b94f32c1ec6f4ed228c90d2080377257", func := "loop.example/g00918/laws.FnResiduals", spec := "fnResiduals", apart := false }
def FnResidualsSaid : Prop := fnResidualsRow.holds Try.pinned (OpenSpec.ofChange fnResidualsSpec)

/-- ITS FALSE NEIGHBOUR: 'it returns false'. Refute it at one input. -/
def fnResidualsWrong : ChangeSpec := { name := "fnResiduals", fn := fun _ => fun
  | [d1, d2] => { results := [.lit (.bool false)], args := [d1, d2] }
  | _ => none }
def FnResidualsWrongFalsely : Prop := fnResidualsRow.holds Try.pinned (OpenSpec.ofChange fnResidualsWrong)

/- THE SECOND FORM. 'bulk': how many values and letters a reading holds, each counted each time it is reached (what is shared counts as often as it is met; a slice's spare places count too). A statement '..UptoSaid' is the law's where the arguments, and the package variables that the reading takes, are together of bulk at most 1048576: NARROWER than '..Said'. Prove '..Said' where nothing that the law and all that it calls make is longer than what came in: it says more and counts as full. Else prove '..UptoSaid'. A law counts once. -/
mutual
def uptoBulk {H : Type} : DataW H → Nat
  | .lit (.string bytes) => bytes.length + 1
  | .lit _ => 1
  | .nil => 1
  | .ptr d => uptoBulk d + 1
  | .slice elems spare => uptoBulkAll elems + uptoBulkAll spare + 1
  | .agg parts => uptoBulkAll parts + 1
  | .iface _ d => uptoBulk d + 1
  | .map entries => uptoBulkEntries entries + 1
  | .held _ => 1
def uptoBulkAll {H : Type} : List (DataW H) → Nat
  | [] => 0
  | d :: r => uptoBulk d + uptoBulkAll r
def uptoBulkEntries {H : Type} : List (Lit × DataW H) → Nat
  | [] => 0
  | x :: r => uptoBulkEntry x + uptoBulkEntries r
def uptoBulkEntry {H : Type} : Lit × DataW H → Nat
  | (.string bytes, d) => bytes.length + uptoBulk d + 1
  | (_, d) => uptoBulk d + 1
 end
def uptoSmall : (H : Type) → List (DataW H) → Bool := fun _ ds => decide (uptoBulkAll ds ≤ 1048576)
def OpenSpec.upto (s : _root_.Go.ChangeSpec) : _root_.Go.OpenSpec := { _root_.Go.OpenSpec.ofChange s with cond := some uptoSmall }

/-- 'laws.FnExactUnpackBits', WHERE WHAT IT READS IS OF BULK AT MOST 1048576: true; the input reads as it did. -/
def fnExactUnpackBitsUptoRow : OpenClaim := { program := "ytjhndncmeedffaa", sum := "7ffbe5c53afa3bdb223a9942ea7fdf82b94f32c1ec6f4ed228c90d2080377257", func := "loop.example/g00918/laws.FnExactUnpackBits", spec := "fnExactUnpackBits", inPlace := ["internal/abi.NoEscape"], apart := false, narrowed := true }
def FnExactUnpackBitsUptoSaid : Prop := fnExactUnpackBitsUptoRow.holds Try.pinned (OpenSpec.upto fnExactUnpackBitsSpec)

/-- 'laws.FnExactNumberBits', WHERE WHAT IT READS IS OF BULK AT MOST 1048576: true; the input reads as it did. -/
def fnExactNumberBitsUptoRow : OpenClaim := { program := "ytjhndncmeedffaa", sum := "7ffbe5c53afa3bdb223a9942ea7fdf82b94f32c1ec6f4ed228c90d2080377257", func := "loop.example/g00918/laws.FnExactNumberBits", spec := "fnExactNumberBits", inPlace := ["internal/abi.NoEscape"], apart := false, narrowed := true }
def FnExactNumberBitsUptoSaid : Prop := fnExactNumberBitsUptoRow.holds Try.pinned (OpenSpec.upto fnExactNumberBitsSpec)

/-- 'laws.FnExactRiceBits', WHERE WHAT IT READS IS OF BULK AT MOST 1048576: true; the input reads as it did. -/
def fnExactRiceBitsUptoRow : OpenClaim := { program := "ytjhndncmeedffaa", sum := "7ffbe5c53afa3bdb223a9942ea7fdf82b94f32c1ec6f4ed228c90d2080377257", func := "loop.example/g00918/laws.FnExactRiceBits", spec := "fnExactRiceBits", inPlace := ["internal/abi.NoEscape"], unfollowed := true, recurses := true, apart := false, narrowed := true }
def FnExactRiceBitsUptoSaid : Prop := fnExactRiceBitsUptoRow.holds Try.pinned (OpenSpec.upto fnExactRiceBitsSpec)

/-- 'laws.FnExactResidualsOf', WHERE WHAT IT READS IS OF BULK AT MOST 1048576: true; the input reads as it did. -/
def fnExactResidualsOfUptoRow : OpenClaim := { program := "ytjhndncmeedffaa", sum := "7ffbe5c53afa3bdb223a9942ea7fdf82b94f32c1ec6f4ed228c90d2080377257", func := "loop.example/g00918/laws.FnExactResidualsOf", spec := "fnExactResidualsOf", apart := false, narrowed := true }
def FnExactResidualsOfUptoSaid : Prop := fnExactResidualsOfUptoRow.holds Try.pinned (OpenSpec.upto fnExactResidualsOfSpec)

/-- 'laws.FnExactFromResiduals', WHERE WHAT IT READS IS OF BULK AT MOST 1048576: true; the input reads as it did. -/
def fnExactFromResidualsUptoRow : OpenClaim := { program := "ytjhndncmeedffaa", sum := "7ffbe5c53afa3bdb223a9942ea7fdf82b94f32c1ec6f4ed228c90d2080377257", func := "loop.example/g00918/laws.FnExactFromResiduals", spec := "fnExactFromResiduals", apart := false, narrowed := true }
def FnExactFromResidualsUptoSaid : Prop := fnExactFromResidualsUptoRow.holds Try.pinned (OpenSpec.upto fnExactFromResidualsSpec)

/-- 'laws.FnExactBestRice', WHERE WHAT IT READS IS OF BULK AT MOST 1048576: true; the input reads as it did. -/
def fnExactBestRiceUptoRow : OpenClaim := { program := "ytjhndncmeedffaa", sum := "7ffbe5c53afa3bdb223a9942ea7fdf82b94f32c1ec6f4ed228c90d2080377257", func := "loop.example/g00918/laws.FnExactBestRice", spec := "fnExactBestRice", apart := false, narrowed := true }
def FnExactBestRiceUptoSaid : Prop := fnExactBestRiceUptoRow.holds Try.pinned (OpenSpec.upto fnExactBestRiceSpec)

/-- 'laws.FnExactChecksumOf', WHERE WHAT IT READS IS OF BULK AT MOST 1048576: true; the input reads as it did. -/
def fnExactChecksumOfUptoRow : OpenClaim := { program := "ytjhndncmeedffaa", sum := "7ffbe5c53afa3bdb223a9942ea7fdf82b94f32c1ec6f4ed228c90d2080377257", func := "loop.example/g00918/laws.FnExactChecksumOf", spec := "fnExactChecksumOf", apart := false, narrowed := true }
def FnExactChecksumOfUptoSaid : Prop := fnExactChecksumOfUptoRow.holds Try.pinned (OpenSpec.upto fnExactChecksumOfSpec)

/-- 'laws.FnResiduals', WHERE WHAT IT READS IS OF BULK AT MOST 1048576: true; the input reads as it did. -/
def fnResidualsUptoRow : OpenClaim := { program := "ytjhndncmeedffaa", sum := "7ffbe5c53afa3bdb223a9942ea7fdf82b94f32c1ec6f4ed228c90d2080377257", func := "loop.example/g00918/laws.FnResiduals", spec := "fnResiduals", apart := false, narrowed := true }
def FnResidualsUptoSaid : Prop := fnResidualsUptoRow.holds Try.pinned (OpenSpec.upto fnResidualsSpec)

end Rows
end Go.Proofs.Ytjhndncmeedffaa
