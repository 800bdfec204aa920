/-
  Proved: both functions that compare stores return the same.
  Conditions: none.
-/
import Derived.Test.YtkcfghbkcgommaaSam
namespace Go.Proofs.Ytkcfghbkcgommaa.wSameStore
open Go.ChangeShapes Go.WideShapes Go.ChangeAt Go.RowKit Go.Joins
open Go.Proofs.Ytkcfghbkcgommaa.core Go.Proofs.Ytkcfghbkcgommaa.sto
set_option linter.unusedVariables false
set_option linter.unusedSimpArgs false
theorem meat (vs0 : Nat → Value) (g0 : Nat → Dat) (vs1 : Nat → Value) (g1 : Nat → Dat) (ht0 : tyrStore g0) (ht1 : tyrStore g1) :
    costRec 2 g0 ≤ 1048576 → costRec 2 g1 ≤ 1048576 → ∃ (r0 : Bool), (∀ (W : World) (us0 : Nat → Value) (us1 : Nat → Value), ReadsRec W 2 us0 g0 → ReadsRec W 2 us1 g1 → Calls Try.prog 18 #[.agg #[us0 0, us0 1], .agg #[us1 0, us1 1]] W fun e W' => e = .returned (.bool r0) ∧ Below W.heap.size W W') ∧ (∀ (W : World) (us0 : Nat → Value) (us1 : Nat → Value), ReadsRec W 2 us0 g0 → ReadsRec W 2 us1 g1 → Calls Try.prog 19 #[.agg #[us0 0, us0 1], .agg #[us1 0, us1 1]] W fun e W' => e = .returned (.bool r0) ∧ Below W.heap.size W W') := by
  intro hq hq'
  refine ⟨@decide (StEq (stD g0) (stD g1) (stN g0) (stN g1) (stL g0) (stL g1) (stC g0) (stC g1) (stF g0) (stF g1)) (Classical.propDecidable _), fun W us us' h h' => ?_, fun W us us' h h' => ?_⟩
  · obtain ⟨A, c, e0, e1, -, hl, hp⟩ := reads_sto h ht0 hq
    obtain ⟨B, c', e0', e1', -, hl', hp'⟩ := reads_sto h' ht1 hq'
    rw [e0, e1, e0', e1']
    exact sameStS _ _ A B _ _ _ _ _ _ _ _ _ W hl hl' (@decide_eq_true_iff _ (Classical.propDecidable _)) hp hp'
  · obtain ⟨A, c, e0, e1, -, hl, hp⟩ := reads_sto h ht0 hq
    obtain ⟨B, c', e0', e1', -, hl', hp'⟩ := reads_sto h' ht1 hq'
    rw [e0, e1, e0', e1']
    exact sameStI _ _ A B _ _ _ _ _ _ _ _ _ W hl hl' (@decide_eq_true_iff _ (Classical.propDecidable _)) hp hp'
end Go.Proofs.Ytkcfghbkcgommaa.wSameStore
