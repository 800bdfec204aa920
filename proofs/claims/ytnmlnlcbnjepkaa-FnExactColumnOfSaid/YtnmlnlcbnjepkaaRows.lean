/-
  No cell of these rows narrows 'for every input' (looked for: loops, veiled, ifaces, maps, wideKeys, modest, calm, conditions, laid).
  DERIVED. THE GIVEN ROWS OF THIS SEAT. 6 by the template 'for every input the law returns true; each argument reads behind the call as it read before'; 0 by the template 'total and deterministic' (their statements: YtnmlnlcbnjepkaaTotals.lean).
  GIVEN WITH THE SEED: the statements are not yours to turn. If you find one false, say at which input.
  Laid BY PROGRAM, IN A SANDBOX (cutbox-rows.mjs): the forced cells as the released guide's own fill.sh prints them over the translation a46ad663f451acb4… (all of the seat's roots in one cut). By AI agents, Wed Nov 11 2026. No macro, syntax, notation, axiom, sorry.
-/
import Derived.Test.YtnmlnlcbnjepkaaChecked
import GoSem.Claim
import GoSem.ClaimJoined
import GoSem.ClaimMapViews
import Derived.JoinedTies
import Derived.KernelRfl
namespace Go.Proofs.Ytnmlnlcbnjepkaa
/- THE CELL 'sum', in the pinned program and in every row, IS THE sha256 OF THE DUMP (.gsa) THAT YtnmlnlcbnjepkaaProg.lean LOADS. Nothing in Lean hashes anything: it is a label: what it is worth is what the hold of that sum in a sandbox is worth. -/
noncomputable def Try.pinned : Pinned := { name := "ytnmlnlcbnjepkaa", sum := "a46ad663f451acb40fc91d615f2c39027416770840b0313020387e5dea16e3f9", checked := Try.checked }
namespace Rows
def none {H : Type} : Left H := { results := [], args := [] }

/-- 'laws.FnExactColumnOf': WHATEVER THE INPUT: true; the input reads as it did. -/
def fnExactColumnOfSpec : ChangeSpec := { name := "fnExactColumnOf", fn := fun _ => fun
  | [d1, d2] => { results := [.lit (.bool true)], args := [d1, d2] }
  | _ => none }
def fnExactColumnOfRow : OpenClaim := { program := "ytnmlnlcbnjepkaa", sum := "a46ad663f451acb40fc91d615f2c39027416770840b0313020387e5dea16e3f9", func := "loop.example/g00918/laws.FnExactColumnOf", spec := "fnExactColumnOf", unfollowed := true, recurses := true, apart := false }
def FnExactColumnOfSaid : Prop := fnExactColumnOfRow.holds Try.pinned (OpenSpec.ofChange fnExactColumnOfSpec)

/-- ITS FALSE NEIGHBOUR: 'it returns false'. Refute it at one input. -/
def fnExactColumnOfWrong : ChangeSpec := { name := "fnExactColumnOf", fn := fun _ => fun
  | [d1, d2] => { results := [.lit (.bool false)], args := [d1, d2] }
  | _ => none }
def FnExactColumnOfWrongFalsely : Prop := fnExactColumnOfRow.holds Try.pinned (OpenSpec.ofChange fnExactColumnOfWrong)

/-- 'laws.FnExactFileOfInk': WHATEVER THE INPUT: true; the input reads as it did. -/
def fnExactFileOfInkSpec : ChangeSpec := { name := "fnExactFileOfInk", fn := fun _ => fun
  | [d] => { results := [.lit (.bool true)], args := [d] }
  | _ => none }
def fnExactFileOfInkRow : OpenClaim := { program := "ytnmlnlcbnjepkaa", sum := "a46ad663f451acb40fc91d615f2c39027416770840b0313020387e5dea16e3f9", func := "loop.example/g00918/laws.FnExactFileOfInk", spec := "fnExactFileOfInk", apart := false }
def FnExactFileOfInkSaid : Prop := fnExactFileOfInkRow.holds Try.pinned (OpenSpec.ofChange fnExactFileOfInkSpec)

/-- ITS FALSE NEIGHBOUR: 'it returns false'. Refute it at one input. -/
def fnExactFileOfInkWrong : ChangeSpec := { name := "fnExactFileOfInk", fn := fun _ => fun
  | [d] => { results := [.lit (.bool false)], args := [d] }
  | _ => none }
def FnExactFileOfInkWrongFalsely : Prop := fnExactFileOfInkRow.holds Try.pinned (OpenSpec.ofChange fnExactFileOfInkWrong)

/-- 'laws.FnExactAddNote': WHATEVER THE INPUT: true; the input reads as it did. -/
def fnExactAddNoteSpec : ChangeSpec := { name := "fnExactAddNote", fn := fun _ => fun
  | [d1, d2] => { results := [.lit (.bool true)], args := [d1, d2] }
  | _ => none }
def fnExactAddNoteRow : OpenClaim := { program := "ytnmlnlcbnjepkaa", sum := "a46ad663f451acb40fc91d615f2c39027416770840b0313020387e5dea16e3f9", func := "loop.example/g00918/laws.FnExactAddNote", spec := "fnExactAddNote", unfollowed := true, recurses := true, apart := false }
def FnExactAddNoteSaid : Prop := fnExactAddNoteRow.holds Try.pinned (OpenSpec.ofChange fnExactAddNoteSpec)

/-- ITS FALSE NEIGHBOUR: 'it returns false'. Refute it at one input. -/
def fnExactAddNoteWrong : ChangeSpec := { name := "fnExactAddNote", fn := fun _ => fun
  | [d1, d2] => { results := [.lit (.bool false)], args := [d1, d2] }
  | _ => none }
def FnExactAddNoteWrongFalsely : Prop := fnExactAddNoteRow.holds Try.pinned (OpenSpec.ofChange fnExactAddNoteWrong)

/-- 'laws.FnNotes': WHATEVER THE INPUT: true; the input reads as it did. -/
def fnNotesSpec : ChangeSpec := { name := "fnNotes", fn := fun _ => fun
  | [d1, d2] => { results := [.lit (.bool true)], args := [d1, d2] }
  | _ => none }
def fnNotesRow : OpenClaim := { program := "ytnmlnlcbnjepkaa", sum := "a46ad663f451acb40fc91d615f2c39027416770840b0313020387e5dea16e3f9", func := "loop.example/g00918/laws.FnNotes", spec := "fnNotes", unfollowed := true, recurses := true, apart := false }
def FnNotesSaid : Prop := fnNotesRow.holds Try.pinned (OpenSpec.ofChange fnNotesSpec)

/-- ITS FALSE NEIGHBOUR: 'it returns false'. Refute it at one input. -/
def fnNotesWrong : ChangeSpec := { name := "fnNotes", fn := fun _ => fun
  | [d1, d2] => { results := [.lit (.bool false)], args := [d1, d2] }
  | _ => none }
def FnNotesWrongFalsely : Prop := fnNotesRow.holds Try.pinned (OpenSpec.ofChange fnNotesWrong)

/-- 'laws.FnExactEncodeInk': WHATEVER THE INPUT: true; the input reads as it did. -/
def fnExactEncodeInkSpec : ChangeSpec := { name := "fnExactEncodeInk", fn := fun _ => fun
  | [d] => { results := [.lit (.bool true)], args := [d] }
  | _ => none }
def fnExactEncodeInkRow : OpenClaim := { program := "ytnmlnlcbnjepkaa", sum := "a46ad663f451acb40fc91d615f2c39027416770840b0313020387e5dea16e3f9", func := "loop.example/g00918/laws.FnExactEncodeInk", spec := "fnExactEncodeInk", inPlace := ["internal/abi.NoEscape"], unfollowed := true, recurses := true, apart := false }
def FnExactEncodeInkSaid : Prop := fnExactEncodeInkRow.holds Try.pinned (OpenSpec.ofChange fnExactEncodeInkSpec)

/-- ITS FALSE NEIGHBOUR: 'it returns false'. Refute it at one input. -/
def fnExactEncodeInkWrong : ChangeSpec := { name := "fnExactEncodeInk", fn := fun _ => fun
  | [d] => { results := [.lit (.bool false)], args := [d] }
  | _ => none }
def FnExactEncodeInkWrongFalsely : Prop := fnExactEncodeInkRow.holds Try.pinned (OpenSpec.ofChange fnExactEncodeInkWrong)

/-- 'laws.FnExactDecodeInk': WHATEVER THE INPUT: true; the input reads as it did. -/
def fnExactDecodeInkSpec : ChangeSpec := { name := "fnExactDecodeInk", fn := fun _ => fun
  | [d] => { results := [.lit (.bool true)], args := [d] }
  | _ => none }
def fnExactDecodeInkRow : OpenClaim := { program := "ytnmlnlcbnjepkaa", sum := "a46ad663f451acb40fc91d615f2c39027416770840b0313020387e5dea16e3f9", func := "loop.example/g00918/laws.FnExactDecodeInk", spec := "fnExactDecodeInk", inPlace := ["internal/abi.NoEscape"], unfollowed := true, recurses := true, apart := false }
def FnExactDecodeInkSaid : Prop := fnExactDecodeInkRow.holds Try.pinned (OpenSpec.ofChange fnExactDecodeInkSpec)

/-- ITS FALSE NEIGHBOUR: 'it returns false'. Refute it at one input. -/
def fnExactDecodeInkWrong : ChangeSpec := { name := "fnExactDecodeInk", fn := fun _ => fun
  | [d] => { results := [.lit (.bool false)], args := [d] }
  | _ => none }
def FnExactDecodeInkWrongFalsely : Prop := fnExactDecodeInkRow.holds Try.pinned (OpenSpec.ofChange fnExactDecodeInkWrong)

/- THE SECOND FORM. 'bulk': how many values and letters a reading holds, each counted each time it is reached (what is shared counts as often as it is met; a slice's spare places count too). A statement '..UptoSaid' is the law's where the arguments, and the package variables that the reading takes, are together of bulk at most 1048576: NARROWER than '..Said'. Prove '..Said' where nothing that the law and all that it calls make is longer than what came in: it says more and counts as full. Else prove '..UptoSaid'. A law counts once. -/
mutual
def uptoBulk {H : Type} : DataW H → Nat
  | .lit (.string bytes) => bytes.length + 1
  | .lit _ => 1
  | .nil => 1
  | .ptr d => uptoBulk d + 1
  | .slice elems spare => uptoBulkAll elems + uptoBulkAll spare + 1
  | .agg parts => uptoBulkAll parts + 1
  | .iface _ d => uptoBulk d + 1
  | .map entries => uptoBulkEntries entries + 1
  | .held _ => 1
def uptoBulkAll {H : Type} : List (DataW H) → Nat
  | [] => 0
  | d :: r => uptoBulk d + uptoBulkAll r
def uptoBulkEntries {H : Type} : List (Lit × DataW H) → Nat
  | [] => 0
  | x :: r => uptoBulkEntry x + uptoBulkEntries r
def uptoBulkEntry {H : Type} : Lit × DataW H → Nat
  | (.string bytes, d) => bytes.length + uptoBulk d + 1
  | (_, d) => uptoBulk d + 1
 end
def uptoSmall : (H : Type) → List (DataW H) → Bool := fun _ ds => decide (uptoBulkAll ds ≤ 1048576)
def OpenSpec.upto (s : _root_.Go.ChangeSpec) : _root_.Go.OpenSpec := { _root_.Go.OpenSpec.ofChange s with cond := some uptoSmall }

/-- 'laws.FnExactColumnOf', WHERE WHAT IT READS IS OF BULK AT MOST 1048576: true; the input reads as it did. -/
def fnExactColumnOfUptoRow : OpenClaim := { program := "ytnmlnlcbnjepkaa", sum := "a46ad663f451acb40fc91d615f2c39027416770840b0313020387e5dea16e3f9", func := "loop.example/g00918/laws.FnExactColumnOf", spec := "fnExactColumnOf", unfollowed := true, recurses := true, apart := false, narrowed := true }
def FnExactColumnOfUptoSaid : Prop := fnExactColumnOfUptoRow.holds Try.pinned (OpenSpec.upto fnExactColumnOfSpec)

/-- 'laws.FnExactFileOfInk', WHERE WHAT IT READS IS OF BULK AT MOST 1048576: true; the input reads as it did. -/
def fnExactFileOfInkUptoRow : OpenClaim := { program := "ytnmlnlcbnjepkaa", sum := "a46ad663f451acb40fc91d615f2c39027416770840b0313020387e5dea16e3f9", func := "loop.example/g00918/laws.FnExactFileOfInk", spec := "fnExactFileOfInk", apart := false, narrowed := true }
def FnExactFileOfInkUptoSaid : Prop := fnExactFileOfInkUptoRow.holds Try.pinned (OpenSpec.upto fnExactFileOfInkSpec)

/-- 'laws.FnExactAddNote', WHERE WHAT IT READS IS OF BULK AT MOST 1048576: true; the input reads as it did. -/
def fnExactAddNoteUptoRow : OpenClaim := { program := "ytnmlnlcbnjepkaa", sum := "a46ad663f451acb40fc91d615f2c39027416770840b0313020387e5dea16e3f9", func := "loop.example/g00918/laws.FnExactAddNote", spec := "fnExactAddNote", unfollowed := true, recurses := true, apart := false, narrowed := true }
def FnExactAddNoteUptoSaid : Prop := fnExactAddNoteUptoRow.holds Try.pinned (OpenSpec.upto fnExactAddNoteSpec)

/-- 'laws.FnNotes', WHERE WHAT IT READS IS OF BULK AT MOST 1048576: true; the input reads as it did. -/
def fnNotesUptoRow : OpenClaim := { program := "ytnmlnlcbnjepkaa", sum := "a46ad663f451acb40fc91d615f2c39027416770840b0313020387e5dea16e3f9", func := "loop.example/g00918/laws.FnNotes", spec := "fnNotes", unfollowed := true, recurses := true, apart := false, narrowed := true }
def FnNotesUptoSaid : Prop := fnNotesUptoRow.holds Try.pinned (OpenSpec.upto fnNotesSpec)

/-- 'laws.FnExactEncodeInk', WHERE WHAT IT READS IS OF BULK AT MOST 1048576: true; the input reads as it did. -/
def fnExactEncodeInkUptoRow : OpenClaim := { program := "ytnmlnlcbnjepkaa", sum := "a46ad663f451acb40fc91d615f2c39027416770840b0313020387e5dea16e3f9", func := "loop.example/g00918/laws.FnExactEncodeInk", spec := "fnExactEncodeInk", inPlace := ["internal/abi.NoEscape"], unfollowed := true, recurses := true, apart := false, narrowed := true }
def FnExactEncodeInkUptoSaid : Prop := fnExactEncodeInkUptoRow.holds Try.pinned (OpenSpec.upto fnExactEncodeInkSpec)

/-- 'laws.FnExactDecodeInk', WHERE WHAT IT READS IS OF BULK AT MOST 1048576: true; the input reads as it did. -/
def fnExactDecodeInkUptoRow : OpenClaim := { program := "ytnmlnlcbnjepkaa", sum := "a46ad663f451acb40fc91d615f2c39027416770840b0313020387e5dea16e3f9", func := "loop.example/g00918/laws.FnExactDecodeInk", spec := "fnExactDecodeInk", inPlace := ["internal/abi.NoEscape"], unfollowed := true, recurses := true, apart := false, narrowed := true }
def FnExactDecodeInkUptoSaid : Prop := fnExactDecodeInkUptoRow.holds Try.pinned (OpenSpec.upto fnExactDecodeInkSpec)

end Rows
end Go.Proofs.Ytnmlnlcbnjepkaa
