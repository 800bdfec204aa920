/-
  Proved: both functions that ask whether a store is valid return the same.
  Conditions: none.
-/
import Derived.Test.YtkcfghbkcgommaaStoV
namespace Go.Proofs.Ytkcfghbkcgommaa.wValidStore
open Go.ChangeShapes Go.WideShapes Go.ChangeAt Go.RowKit Go.Joins
open Go.Proofs.Ytkcfghbkcgommaa.core Go.Proofs.Ytkcfghbkcgommaa.sto
set_option linter.unusedVariables false
set_option linter.unusedSimpArgs false
theorem meat (vs0 : Nat → Value) (g0 : Nat → Dat) (ht0 : tyrStore g0) :
    costRec 2 g0 ≤ 1048576 → ∃ (r0 : Bool), (∀ (W : World) (us0 : Nat → Value), ReadsRec W 2 us0 g0 → Calls Try.prog 14 #[.agg #[us0 0, us0 1]] W fun e W' => e = .returned (.bool r0) ∧ Below W.heap.size W W') ∧ (∀ (W : World) (us0 : Nat → Value), ReadsRec W 2 us0 g0 → Calls Try.prog 16 #[.agg #[us0 0, us0 1]] W fun e W' => e = .returned (.bool r0) ∧ Below W.heap.size W W') := by
  intro hq
  refine ⟨stB (stD g0) (stN g0) (stL g0) (stC g0) (stF g0), fun W us h => ?_, fun W us h => ?_⟩
  · obtain ⟨A, c, e0, e1, -, hl, hp⟩ := reads_sto h ht0 hq
    rw [e0, e1]
    exact validStS _ A _ _ _ _ W hl hp
  · obtain ⟨A, c, e0, e1, -, hl, hp⟩ := reads_sto h ht0 hq
    rw [e0, e1]
    exact validStI _ A _ _ _ _ W hl hp
end Go.Proofs.Ytkcfghbkcgommaa.wValidStore
