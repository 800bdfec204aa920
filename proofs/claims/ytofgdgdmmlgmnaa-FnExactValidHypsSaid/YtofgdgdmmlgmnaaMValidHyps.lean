/-
  Proved: both functions that ask whether a list are hypotheses return the same.
  Conditions: none.
-/
import Derived.Test.YtofgdgdmmlgmnaaHyK
namespace Go.Proofs.Ytofgdgdmmlgmnaa.wValidHyps
open Go.ChangeShapes Go.WideShapes Go.ChangeAt Go.RowKit Go.Joins
open Go.Proofs.Ytofgdgdmmlgmnaa.core Go.Proofs.Ytofgdgdmmlgmnaa.rown Go.Proofs.Ytofgdgdmmlgmnaa.stk Go.Proofs.Ytofgdgdmmlgmnaa.boxed Go.Proofs.Ytofgdgdmmlgmnaa.ft Go.Proofs.Ytofgdgdmmlgmnaa.lab Go.Proofs.Ytofgdgdmmlgmnaa.hyp
set_option linter.unusedVariables false
set_option linter.unusedSimpArgs false
theorem meat (vs0 : Nat → Value) (g0 : Nat → Dat) (ht0 : tyrHypS g0) :
    costRec 1 g0 ≤ 1048576 → ∃ (r0 : Bool), (∀ (W : World) (us0 : Nat → Value), ReadsRec W 1 us0 g0 → (∃ (A : Option Addr) (n c : Nat), us0 0 = .slice A n c ∧ n ≤ c) → Calls Try.prog 16 #[us0 0] W fun e W' => e = .returned (.bool r0) ∧ Below W.heap.size W W') ∧ (∀ (W : World) (us0 : Nat → Value), ReadsRec W 1 us0 g0 → (∃ (A : Option Addr) (n c : Nat), us0 0 = .slice A n c ∧ n ≤ c) → Calls Try.prog 18 #[us0 0] W fun e W' => e = .returned (.bool r0) ∧ Below W.heap.size W W') := by
  intro hq
  refine ⟨hyB (hyN g0) (hyF g0), fun W us h _ => ?_, fun W us h _ => ?_⟩
  · obtain ⟨A, c, e, -, hl, hp⟩ := reads_hy h ht0 hq
    rw [e]
    exact validHS A _ _ W hl hp
  · obtain ⟨A, c, e, -, hl, hp⟩ := reads_hy h ht0 hq
    rw [e]
    exact validHI A _ _ W hl hp
end Go.Proofs.Ytofgdgdmmlgmnaa.wValidHyps
