/-
  No cell of these rows narrows 'for every input' (looked for: loops, veiled, ifaces, maps, wideKeys, modest, calm, conditions, laid).
  DERIVED. THE GIVEN ROWS OF THIS SEAT. 9 by the template 'for every input the law returns true; each argument reads behind the call as it read before'; 0 by the template 'total and deterministic' (their statements: YtofgdgdmmlgmnaaTotals.lean).
  GIVEN WITH THE SEED: the statements are not yours to turn. If you find one false, say at which input.
  Laid BY PROGRAM, IN A SANDBOX (cutbox-rows.mjs): the forced cells as the released guide's own fill.sh prints them over the translation f08757fec225b818… (all of the seat's roots in one cut). By AI agents, Wed Nov 11 2026. No macro, syntax, notation, axiom, sorry.
-/
import Derived.Test.YtofgdgdmmlgmnaaChecked
import GoSem.Claim
import GoSem.ClaimJoined
import GoSem.ClaimMapViews
import Derived.JoinedTies
import Derived.KernelRfl
namespace Go.Proofs.Ytofgdgdmmlgmnaa
/- THE CELL 'sum', in the pinned program and in every row, IS THE sha256 OF THE DUMP (.gsa) THAT YtofgdgdmmlgmnaaProg.lean LOADS. Nothing in Lean hashes anything: it is a label: what it is worth is what the hold of that sum in a sandbox is worth. -/
noncomputable def Try.pinned : Pinned := { name := "ytofgdgdmmlgmnaa", sum := "f08757fec225b818fab401d721d804a791bc64bf5efb31d9ddd8a83820590864", checked := Try.checked }
namespace Rows
def none {H : Type} : Left H := { results := [], args := [] }

/-- 'laws.FnExactValidSetting': WHATEVER THE INPUT: true; the input reads as it did. -/
def fnExactValidSettingSpec : ChangeSpec := { name := "fnExactValidSetting", fn := fun _ => fun
  | [d] => { results := [.lit (.bool true)], args := [d] }
  | _ => none }
def fnExactValidSettingRow : OpenClaim := { program := "ytofgdgdmmlgmnaa", sum := "f08757fec225b818fab401d721d804a791bc64bf5efb31d9ddd8a83820590864", func := "loop.example/g00918/laws.FnExactValidSetting", spec := "fnExactValidSetting", apart := false }
def FnExactValidSettingSaid : Prop := fnExactValidSettingRow.holds Try.pinned (OpenSpec.ofChange fnExactValidSettingSpec)

/-- ITS FALSE NEIGHBOUR: 'it returns false'. Refute it at one input. -/
def fnExactValidSettingWrong : ChangeSpec := { name := "fnExactValidSetting", fn := fun _ => fun
  | [d] => { results := [.lit (.bool false)], args := [d] }
  | _ => none }
def FnExactValidSettingWrongFalsely : Prop := fnExactValidSettingRow.holds Try.pinned (OpenSpec.ofChange fnExactValidSettingWrong)

/-- 'laws.FnExactValidHyps': WHATEVER THE INPUT: true; the input reads as it did. -/
def fnExactValidHypsSpec : ChangeSpec := { name := "fnExactValidHyps", fn := fun _ => fun
  | [d] => { results := [.lit (.bool true)], args := [d] }
  | _ => none }
def fnExactValidHypsRow : OpenClaim := { program := "ytofgdgdmmlgmnaa", sum := "f08757fec225b818fab401d721d804a791bc64bf5efb31d9ddd8a83820590864", func := "loop.example/g00918/laws.FnExactValidHyps", spec := "fnExactValidHyps", inPlace := ["internal/bytealg.IndexByteString", "internal/bytealg.IndexString"], unfollowed := true, recurses := true, named := ["internal/bytealg.MaxLen"], apart := false }
def FnExactValidHypsSaid : Prop := fnExactValidHypsRow.holds Try.pinned (OpenSpec.ofChange fnExactValidHypsSpec)

/-- ITS FALSE NEIGHBOUR: 'it returns false'. Refute it at one input. -/
def fnExactValidHypsWrong : ChangeSpec := { name := "fnExactValidHyps", fn := fun _ => fun
  | [d] => { results := [.lit (.bool false)], args := [d] }
  | _ => none }
def FnExactValidHypsWrongFalsely : Prop := fnExactValidHypsRow.holds Try.pinned (OpenSpec.ofChange fnExactValidHypsWrong)

/-- 'laws.FnExactMergeHyps': WHATEVER THE INPUT: true; the input reads as it did. -/
def fnExactMergeHypsSpec : ChangeSpec := { name := "fnExactMergeHyps", fn := fun _ => fun
  | [d1, d2, d3] => { results := [.lit (.bool true)], args := [d1, d2, d3] }
  | _ => none }
def fnExactMergeHypsRow : OpenClaim := { program := "ytofgdgdmmlgmnaa", sum := "f08757fec225b818fab401d721d804a791bc64bf5efb31d9ddd8a83820590864", func := "loop.example/g00918/laws.FnExactMergeHyps", spec := "fnExactMergeHyps", inPlace := ["internal/bytealg.IndexByteString", "internal/bytealg.IndexString"], unfollowed := true, recurses := true, named := ["internal/bytealg.MaxLen"], apart := false }
def FnExactMergeHypsSaid : Prop := fnExactMergeHypsRow.holds Try.pinned (OpenSpec.ofChange fnExactMergeHypsSpec)

/-- ITS FALSE NEIGHBOUR: 'it returns false'. Refute it at one input. -/
def fnExactMergeHypsWrong : ChangeSpec := { name := "fnExactMergeHyps", fn := fun _ => fun
  | [d1, d2, d3] => { results := [.lit (.bool false)], args := [d1, d2, d3] }
  | _ => none }
def FnExactMergeHypsWrongFalsely : Prop := fnExactMergeHypsRow.holds Try.pinned (OpenSpec.ofChange fnExactMergeHypsWrong)

/-- 'laws.FnExactBestHyp': WHATEVER THE INPUT: true; the input reads as it did. -/
def fnExactBestHypSpec : ChangeSpec := { name := "fnExactBestHyp", fn := fun _ => fun
  | [d] => { results := [.lit (.bool true)], args := [d] }
  | _ => none }
def fnExactBestHypRow : OpenClaim := { program := "ytofgdgdmmlgmnaa", sum := "f08757fec225b818fab401d721d804a791bc64bf5efb31d9ddd8a83820590864", func := "loop.example/g00918/laws.FnExactBestHyp", spec := "fnExactBestHyp", inPlace := ["internal/bytealg.IndexByteString", "internal/bytealg.IndexString"], unfollowed := true, recurses := true, named := ["internal/bytealg.MaxLen"], apart := false }
def FnExactBestHypSaid : Prop := fnExactBestHypRow.holds Try.pinned (OpenSpec.ofChange fnExactBestHypSpec)

/-- ITS FALSE NEIGHBOUR: 'it returns false'. Refute it at one input. -/
def fnExactBestHypWrong : ChangeSpec := { name := "fnExactBestHyp", fn := fun _ => fun
  | [d] => { results := [.lit (.bool false)], args := [d] }
  | _ => none }
def FnExactBestHypWrongFalsely : Prop := fnExactBestHypRow.holds Try.pinned (OpenSpec.ofChange fnExactBestHypWrong)

/-- 'laws.FnExactCostOf': WHATEVER THE INPUT: true; the input reads as it did. -/
def fnExactCostOfSpec : ChangeSpec := { name := "fnExactCostOf", fn := fun _ => fun
  | [d1, d2] => { results := [.lit (.bool true)], args := [d1, d2] }
  | _ => none }
def fnExactCostOfRow : OpenClaim := { program := "ytofgdgdmmlgmnaa", sum := "f08757fec225b818fab401d721d804a791bc64bf5efb31d9ddd8a83820590864", func := "loop.example/g00918/laws.FnExactCostOf", spec := "fnExactCostOf", inPlace := ["internal/bytealg.IndexByteString", "internal/bytealg.IndexString"], unfollowed := true, recurses := true, named := ["internal/bytealg.MaxLen"], apart := false }
def FnExactCostOfSaid : Prop := fnExactCostOfRow.holds Try.pinned (OpenSpec.ofChange fnExactCostOfSpec)

/-- ITS FALSE NEIGHBOUR: 'it returns false'. Refute it at one input. -/
def fnExactCostOfWrong : ChangeSpec := { name := "fnExactCostOf", fn := fun _ => fun
  | [d1, d2] => { results := [.lit (.bool false)], args := [d1, d2] }
  | _ => none }
def FnExactCostOfWrongFalsely : Prop := fnExactCostOfRow.holds Try.pinned (OpenSpec.ofChange fnExactCostOfWrong)

/-- 'laws.FnExactMarginOf': WHATEVER THE INPUT: true; the input reads as it did. -/
def fnExactMarginOfSpec : ChangeSpec := { name := "fnExactMarginOf", fn := fun _ => fun
  | [d] => { results := [.lit (.bool true)], args := [d] }
  | _ => none }
def fnExactMarginOfRow : OpenClaim := { program := "ytofgdgdmmlgmnaa", sum := "f08757fec225b818fab401d721d804a791bc64bf5efb31d9ddd8a83820590864", func := "loop.example/g00918/laws.FnExactMarginOf", spec := "fnExactMarginOf", inPlace := ["internal/bytealg.IndexByteString", "internal/bytealg.IndexString"], unfollowed := true, recurses := true, named := ["internal/bytealg.MaxLen"], apart := false }
def FnExactMarginOfSaid : Prop := fnExactMarginOfRow.holds Try.pinned (OpenSpec.ofChange fnExactMarginOfSpec)

/-- ITS FALSE NEIGHBOUR: 'it returns false'. Refute it at one input. -/
def fnExactMarginOfWrong : ChangeSpec := { name := "fnExactMarginOf", fn := fun _ => fun
  | [d] => { results := [.lit (.bool false)], args := [d] }
  | _ => none }
def FnExactMarginOfWrongFalsely : Prop := fnExactMarginOfRow.holds Try.pinned (OpenSpec.ofChange fnExactMarginOfWrong)

/-- 'laws.FnExactRaiseHyps': WHATEVER THE INPUT: true; the input reads as it did. -/
def fnExactRaiseHypsSpec : ChangeSpec := { name := "fnExactRaiseHyps", fn := fun _ => fun
  | [d1, d2] => { results := [.lit (.bool true)], args := [d1, d2] }
  | _ => none }
def fnExactRaiseHypsRow : OpenClaim := { program := "ytofgdgdmmlgmnaa", sum := "f08757fec225b818fab401d721d804a791bc64bf5efb31d9ddd8a83820590864", func := "loop.example/g00918/laws.FnExactRaiseHyps", spec := "fnExactRaiseHyps", inPlace := ["internal/bytealg.IndexByteString", "internal/bytealg.IndexString"], unfollowed := true, recurses := true, named := ["internal/bytealg.MaxLen"], apart := false }
def FnExactRaiseHypsSaid : Prop := fnExactRaiseHypsRow.holds Try.pinned (OpenSpec.ofChange fnExactRaiseHypsSpec)

/-- ITS FALSE NEIGHBOUR: 'it returns false'. Refute it at one input. -/
def fnExactRaiseHypsWrong : ChangeSpec := { name := "fnExactRaiseHyps", fn := fun _ => fun
  | [d1, d2] => { results := [.lit (.bool false)], args := [d1, d2] }
  | _ => none }
def FnExactRaiseHypsWrongFalsely : Prop := fnExactRaiseHypsRow.holds Try.pinned (OpenSpec.ofChange fnExactRaiseHypsWrong)

/-- 'laws.FnExactIsDot': WHATEVER THE INPUT: true; the input reads as it did. -/
def fnExactIsDotSpec : ChangeSpec := { name := "fnExactIsDot", fn := fun _ => fun
  | [d] => { results := [.lit (.bool true)], args := [d] }
  | _ => none }
def fnExactIsDotRow : OpenClaim := { program := "ytofgdgdmmlgmnaa", sum := "f08757fec225b818fab401d721d804a791bc64bf5efb31d9ddd8a83820590864", func := "loop.example/g00918/laws.FnExactIsDot", spec := "fnExactIsDot", apart := false }
def FnExactIsDotSaid : Prop := fnExactIsDotRow.holds Try.pinned (OpenSpec.ofChange fnExactIsDotSpec)

/-- ITS FALSE NEIGHBOUR: 'it returns false'. Refute it at one input. -/
def fnExactIsDotWrong : ChangeSpec := { name := "fnExactIsDot", fn := fun _ => fun
  | [d] => { results := [.lit (.bool false)], args := [d] }
  | _ => none }
def FnExactIsDotWrongFalsely : Prop := fnExactIsDotRow.holds Try.pinned (OpenSpec.ofChange fnExactIsDotWrong)

/-- 'laws.FnExactHomeOf': WHATEVER THE INPUT: true; the input reads as it did. -/
def fnExactHomeOfSpec : ChangeSpec := { name := "fnExactHomeOf", fn := fun _ => fun
  | [d1, d2] => { results := [.lit (.bool true)], args := [d1, d2] }
  | _ => none }
def fnExactHomeOfRow : OpenClaim := { program := "ytofgdgdmmlgmnaa", sum := "f08757fec225b818fab401d721d804a791bc64bf5efb31d9ddd8a83820590864", func := "loop.example/g00918/laws.FnExactHomeOf", spec := "fnExactHomeOf", inPlace := ["sync/atomic.LoadUint32", "(*internal/sync.Mutex).Lock", "internal/race.Disable", "sync/atomic.CompareAndSwapInt32", "internal/race.Enable", "internal/race.Acquire", "(*internal/sync.Mutex).lockSlow", "internal/sync.runtime_canSpin", "internal/sync.runtime_doSpin", "internal/sync.throw", "internal/sync.runtime_nanotime", "internal/sync.runtime_SemacquireMutex", "sync/atomic.AddInt32", "(*internal/sync.Mutex).Unlock", "internal/race.ReleaseMerge", "(*internal/sync.Mutex).unlockSlow", "internal/sync.fatal", "internal/sync.runtime_Semrelease", "sync/atomic.StoreUint32"], unfollowed := true, recurses := true, apart := false }
def FnExactHomeOfSaid : Prop := fnExactHomeOfRow.holds Try.pinned (OpenSpec.ofChange fnExactHomeOfSpec)

/-- ITS FALSE NEIGHBOUR: 'it returns false'. Refute it at one input. -/
def fnExactHomeOfWrong : ChangeSpec := { name := "fnExactHomeOf", fn := fun _ => fun
  | [d1, d2] => { results := [.lit (.bool false)], args := [d1, d2] }
  | _ => none }
def FnExactHomeOfWrongFalsely : Prop := fnExactHomeOfRow.holds Try.pinned (OpenSpec.ofChange fnExactHomeOfWrong)

/- THE SECOND FORM. 'bulk': how many values and letters a reading holds, each counted each time it is reached (what is shared counts as often as it is met; a slice's spare places count too). A statement '..UptoSaid' is the law's where the arguments, and the package variables that the reading takes, are together of bulk at most 1048576: NARROWER than '..Said'. Prove '..Said' where nothing that the law and all that it calls make is longer than what came in: it says more and counts as full. Else prove '..UptoSaid'. A law counts once. -/
mutual
def uptoBulk {H : Type} : DataW H → Nat
  | .lit (.string bytes) => bytes.length + 1
  | .lit _ => 1
  | .nil => 1
  | .ptr d => uptoBulk d + 1
  | .slice elems spare => uptoBulkAll elems + uptoBulkAll spare + 1
  | .agg parts => uptoBulkAll parts + 1
  | .iface _ d => uptoBulk d + 1
  | .map entries => uptoBulkEntries entries + 1
  | .held _ => 1
def uptoBulkAll {H : Type} : List (DataW H) → Nat
  | [] => 0
  | d :: r => uptoBulk d + uptoBulkAll r
def uptoBulkEntries {H : Type} : List (Lit × DataW H) → Nat
  | [] => 0
  | x :: r => uptoBulkEntry x + uptoBulkEntries r
def uptoBulkEntry {H : Type} : Lit × DataW H → Nat
  | (.string bytes, d) => bytes.length + uptoBulk d + 1
  | (_, d) => uptoBulk d + 1
 end
def uptoSmall : (H : Type) → List (DataW H) → Bool := fun _ ds => decide (uptoBulkAll ds ≤ 1048576)
def OpenSpec.upto (s : _root_.Go.ChangeSpec) : _root_.Go.OpenSpec := { _root_.Go.OpenSpec.ofChange s with cond := some uptoSmall }

/-- 'laws.FnExactValidSetting', WHERE WHAT IT READS IS OF BULK AT MOST 1048576: true; the input reads as it did. -/
def fnExactValidSettingUptoRow : OpenClaim := { program := "ytofgdgdmmlgmnaa", sum := "f08757fec225b818fab401d721d804a791bc64bf5efb31d9ddd8a83820590864", func := "loop.example/g00918/laws.FnExactValidSetting", spec := "fnExactValidSetting", apart := false, narrowed := true }
def FnExactValidSettingUptoSaid : Prop := fnExactValidSettingUptoRow.holds Try.pinned (OpenSpec.upto fnExactValidSettingSpec)

/-- 'laws.FnExactValidHyps', WHERE WHAT IT READS IS OF BULK AT MOST 1048576: true; the input reads as it did. -/
def fnExactValidHypsUptoRow : OpenClaim := { program := "ytofgdgdmmlgmnaa", sum := "f08757fec225b818fab401d721d804a791bc64bf5efb31d9ddd8a83820590864", func := "loop.example/g00918/laws.FnExactValidHyps", spec := "fnExactValidHyps", inPlace := ["internal/bytealg.IndexByteString", "internal/bytealg.IndexString"], unfollowed := true, recurses := true, named := ["internal/bytealg.MaxLen"], apart := false, narrowed := true }
def FnExactValidHypsUptoSaid : Prop := fnExactValidHypsUptoRow.holds Try.pinned (OpenSpec.upto fnExactValidHypsSpec)

/-- 'laws.FnExactMergeHyps', WHERE WHAT IT READS IS OF BULK AT MOST 1048576: true; the input reads as it did. -/
def fnExactMergeHypsUptoRow : OpenClaim := { program := "ytofgdgdmmlgmnaa", sum := "f08757fec225b818fab401d721d804a791bc64bf5efb31d9ddd8a83820590864", func := "loop.example/g00918/laws.FnExactMergeHyps", spec := "fnExactMergeHyps", inPlace := ["internal/bytealg.IndexByteString", "internal/bytealg.IndexString"], unfollowed := true, recurses := true, named := ["internal/bytealg.MaxLen"], apart := false, narrowed := true }
def FnExactMergeHypsUptoSaid : Prop := fnExactMergeHypsUptoRow.holds Try.pinned (OpenSpec.upto fnExactMergeHypsSpec)

/-- 'laws.FnExactBestHyp', WHERE WHAT IT READS IS OF BULK AT MOST 1048576: true; the input reads as it did. -/
def fnExactBestHypUptoRow : OpenClaim := { program := "ytofgdgdmmlgmnaa", sum := "f08757fec225b818fab401d721d804a791bc64bf5efb31d9ddd8a83820590864", func := "loop.example/g00918/laws.FnExactBestHyp", spec := "fnExactBestHyp", inPlace := ["internal/bytealg.IndexByteString", "internal/bytealg.IndexString"], unfollowed := true, recurses := true, named := ["internal/bytealg.MaxLen"], apart := false, narrowed := true }
def FnExactBestHypUptoSaid : Prop := fnExactBestHypUptoRow.holds Try.pinned (OpenSpec.upto fnExactBestHypSpec)

/-- 'laws.FnExactCostOf', WHERE WHAT IT READS IS OF BULK AT MOST 1048576: true; the input reads as it did. -/
def fnExactCostOfUptoRow : OpenClaim := { program := "ytofgdgdmmlgmnaa", sum := "f08757fec225b818fab401d721d804a791bc64bf5efb31d9ddd8a83820590864", func := "loop.example/g00918/laws.FnExactCostOf", spec := "fnExactCostOf", inPlace := ["internal/bytealg.IndexByteString", "internal/bytealg.IndexString"], unfollowed := true, recurses := true, named := ["internal/bytealg.MaxLen"], apart := false, narrowed := true }
def FnExactCostOfUptoSaid : Prop := fnExactCostOfUptoRow.holds Try.pinned (OpenSpec.upto fnExactCostOfSpec)

/-- 'laws.FnExactMarginOf', WHERE WHAT IT READS IS OF BULK AT MOST 1048576: true; the input reads as it did. -/
def fnExactMarginOfUptoRow : OpenClaim := { program := "ytofgdgdmmlgmnaa", sum := "f08757fec225b818fab401d721d804a791bc64bf5efb31d9ddd8a83820590864", func := "loop.example/g00918/laws.FnExactMarginOf", spec := "fnExactMarginOf", inPlace := ["internal/bytealg.IndexByteString", "internal/bytealg.IndexString"], unfollowed := true, recurses := true, named := ["internal/bytealg.MaxLen"], apart := false, narrowed := true }
def FnExactMarginOfUptoSaid : Prop := fnExactMarginOfUptoRow.holds Try.pinned (OpenSpec.upto fnExactMarginOfSpec)

/-- 'laws.FnExactRaiseHyps', WHERE WHAT IT READS IS OF BULK AT MOST 1048576: true; the input reads as it did. -/
def fnExactRaiseHypsUptoRow : OpenClaim := { program := "ytofgdgdmmlgmnaa", sum := "f08757fec225b818fab401d721d804a791bc64bf5efb31d9ddd8a83820590864", func := "loop.example/g00918/laws.FnExactRaiseHyps", spec := "fnExactRaiseHyps", inPlace := ["internal/bytealg.IndexByteString", "internal/bytealg.IndexString"], unfollowed := true, recurses := true, named := ["internal/bytealg.MaxLen"], apart := false, narrowed := true }
def FnExactRaiseHypsUptoSaid : Prop := fnExactRaiseHypsUptoRow.holds Try.pinned (OpenSpec.upto fnExactRaiseHypsSpec)

/-- 'laws.FnExactIsDot', WHERE WHAT IT READS IS OF BULK AT MOST 1048576: true; the input reads as it did. -/
def fnExactIsDotUptoRow : OpenClaim := { program := "ytofgdgdmmlgmnaa", sum := "f08757fec225b818fab401d721d804a791bc64bf5efb31d9ddd8a83820590864", func := "loop.example/g00918/laws.FnExactIsDot", spec := "fnExactIsDot", apart := false, narrowed := true }
def FnExactIsDotUptoSaid : Prop := fnExactIsDotUptoRow.holds Try.pinned (OpenSpec.upto fnExactIsDotSpec)

/-- 'laws.FnExactHomeOf', WHERE WHAT IT READS IS OF BULK AT MOST 1048576: true; the input reads as it did. -/
def fnExactHomeOfUptoRow : OpenClaim := { program := "ytofgdgdmmlgmnaa", sum := "f08757fec225b818fab401d721d804a791bc64bf5efb31d9ddd8a83820590864", func := "loop.example/g00918/laws.FnExactHomeOf", spec := "fnExactHomeOf", inPlace := ["sync/atomic.LoadUint32", "(*internal/sync.Mutex).Lock", "internal/race.Disable", "sync/atomic.CompareAndSwapInt32", "internal/race.Enable", "internal/race.Acquire", "(*internal/sync.Mutex).lockSlow", "internal/sync.runtime_canSpin", "internal/sync.runtime_doSpin", "internal/sync.throw", "internal/sync.runtime_nanotime", "internal/sync.runtime_SemacquireMutex", "sync/atomic.AddInt32", "(*internal/sync.Mutex).Unlock", "internal/race.ReleaseMerge", "(*internal/sync.Mutex).unlockSlow", "internal/sync.fatal", "internal/sync.runtime_Semrelease", "sync/atomic.StoreUint32"], unfollowed := true, recurses := true, apart := false, narrowed := true }
def FnExactHomeOfUptoSaid : Prop := fnExactHomeOfUptoRow.holds Try.pinned (OpenSpec.upto fnExactHomeOfSpec)

end Rows
end Go.Proofs.Ytofgdgdmmlgmnaa
