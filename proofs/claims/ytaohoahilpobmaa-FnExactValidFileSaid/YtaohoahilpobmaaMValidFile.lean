/-
  Proved: both functions that ask whether a file is valid return the same for a file that reads so.
  Conditions: none.
-/
import Derived.Test.YtaohoahilpobmaaFileVV
namespace Go.Proofs.Ytaohoahilpobmaa.wValidFile
open Go.ChangeShapes Go.WideShapes Go.ChangeAt Go.RowKit Go.Joins
open Go.Proofs.Ytaohoahilpobmaa.core Go.Proofs.Ytaohoahilpobmaa.fileI
set_option linter.unusedVariables false
theorem meat (vs0 : Nat → Value) (g0 : Nat → Dat) (ht0 : tyrFile g0) :
    costRec 3 g0 ≤ 1048576 → ∃ (r0 : Bool), (∀ (W : World) (us0 : Nat → Value), ReadsRec W 3 us0 g0 → Calls Try.prog 13 #[.agg #[us0 0, us0 1, us0 2]] W fun e W' => e = .returned (.bool r0) ∧ Below W.heap.size W W') ∧ (∀ (W : World) (us0 : Nat → Value), ReadsRec W 3 us0 g0 → Calls Try.prog 15 #[.agg #[us0 0, us0 1, us0 2]] W fun e W' => e = .returned (.bool r0) ∧ Below W.heap.size W W') :=
  fun _ => ⟨vF g0, fun W us h => validS_calls us g0 W h ht0, fun W us h => validI_calls us g0 W h ht0⟩
end Go.Proofs.Ytaohoahilpobmaa.wValidFile
