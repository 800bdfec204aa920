/-
  Proved: both functions that compare perceptrons return the same.
  Conditions: none.
-/
import Derived.Test.YtimkochgnjggdaaPeV
import Derived.Test.YtimkochgnjggdaaPerE
namespace Go.Proofs.Ytimkochgnjggdaa.wSamePerceptron
open Go.ChangeShapes Go.WideShapes Go.ChangeAt Go.RowKit Go.Joins
open Go.Proofs.Ytimkochgnjggdaa.core Go.Proofs.Ytimkochgnjggdaa.per
set_option linter.unusedVariables false
set_option linter.unusedSimpArgs false
theorem meat (vs0 : Nat → Value) (g0 : Nat → Dat) (vs1 : Nat → Value) (g1 : Nat → Dat) (ht0 : tyrPerceptron g0) (ht1 : tyrPerceptron g1) :
    costRec 2 g0 ≤ 1048576 → costRec 2 g1 ≤ 1048576 → ∃ (r0 : Bool), (∀ (W : World) (us0 : Nat → Value) (us1 : Nat → Value), ReadsRec W 2 us0 g0 → ReadsRec W 2 us1 g1 → Calls Try.prog 35 #[.agg #[us0 0, us0 1], .agg #[us1 0, us1 1]] W fun e W' => e = .returned (.bool r0) ∧ Below W.heap.size W W') ∧ (∀ (W : World) (us0 : Nat → Value) (us1 : Nat → Value), ReadsRec W 2 us0 g0 → ReadsRec W 2 us1 g1 → Calls Try.prog 36 #[.agg #[us0 0, us0 1], .agg #[us1 0, us1 1]] W fun e W' => e = .returned (.bool r0) ∧ Below W.heap.size W W') := by
  intro hq hq'
  refine ⟨@decide (PEq (peN g0) (peM g0) (peN g1) (peM g1) (peS g0) (peS g1) (peW g0) (peW g1) (peF g0) (peF g1)) (Classical.propDecidable _), fun W us us' h h' => ?_, fun W us us' h h' => ?_⟩
  · obtain ⟨A, c, B, d, e0, e1, -, -, hl, hp, hp'⟩ := reads_per h ht0 hq
    obtain ⟨A', c', B', d', e0', e1', -, -, hl', hq, hq'⟩ := reads_per h' ht1 hq'
    rw [e0, e1, e0', e1']
    exact samePS A B A' B' _ _ _ _ _ _ _ _ _ _ _ W hl hl' (@decide_eq_true_iff _ (Classical.propDecidable _)) hp hp' hq hq'
  · obtain ⟨A, c, B, d, e0, e1, -, -, hl, hp, hp'⟩ := reads_per h ht0 hq
    obtain ⟨A', c', B', d', e0', e1', -, -, hl', hq, hq'⟩ := reads_per h' ht1 hq'
    rw [e0, e1, e0', e1']
    exact samePI A B A' B' _ _ _ _ _ _ _ _ _ _ _ W hl hl' (@decide_eq_true_iff _ (Classical.propDecidable _)) hp hp' hq hq'
end Go.Proofs.Ytimkochgnjggdaa.wSamePerceptron
