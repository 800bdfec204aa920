/-
  Proved: both functions that ask whether a perceptron is valid return the same.
  Conditions: none.
-/
import Derived.Test.YtimkochgnjggdaaPeV
namespace Go.Proofs.Ytimkochgnjggdaa.wValidPerceptron
open Go.ChangeShapes Go.WideShapes Go.ChangeAt Go.RowKit Go.Joins
open Go.Proofs.Ytimkochgnjggdaa.core Go.Proofs.Ytimkochgnjggdaa.per
set_option linter.unusedVariables false
set_option linter.unusedSimpArgs false
theorem meat (vs0 : Nat → Value) (g0 : Nat → Dat) (ht0 : tyrPerceptron g0) :
    costRec 2 g0 ≤ 1048576 → ∃ (r0 : Bool), (∀ (W : World) (us0 : Nat → Value), ReadsRec W 2 us0 g0 → Calls Try.prog 32 #[.agg #[us0 0, us0 1]] W fun e W' => e = .returned (.bool r0) ∧ Below W.heap.size W W') ∧ (∀ (W : World) (us0 : Nat → Value), ReadsRec W 2 us0 g0 → Calls Try.prog 34 #[.agg #[us0 0, us0 1]] W fun e W' => e = .returned (.bool r0) ∧ Below W.heap.size W W') := by
  intro hq
  refine ⟨peB (peN g0) (peM g0) (peS g0) (peW g0) (peF g0), fun W us h => ?_, fun W us h => ?_⟩
  · obtain ⟨A, c, B, d, e0, e1, -, -, hl, hp, hp'⟩ := reads_per h ht0 hq
    rw [e0, e1]
    exact validPS A B _ _ _ _ _ W hl hp hp'
  · obtain ⟨A, c, B, d, e0, e1, -, -, hl, hp, hp'⟩ := reads_per h ht0 hq
    rw [e0, e1]
    exact validPI A B _ _ _ _ _ W hl hp hp'
end Go.Proofs.Ytimkochgnjggdaa.wValidPerceptron
