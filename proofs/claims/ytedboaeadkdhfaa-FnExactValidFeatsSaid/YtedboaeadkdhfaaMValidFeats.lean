/-
  Proved: both functions that tell whether a list of features is valid return the same answer.
  Conditions: none.
-/
import Derived.Test.YtedboaeadkdhfaaFt
namespace Go.Proofs.Ytedboaeadkdhfaa.wValidFeats
open Go.ChangeShapes Go.WideShapes Go.ChangeAt Go.RowKit Go.Joins
open Go.Proofs.Ytedboaeadkdhfaa.core Go.Proofs.Ytedboaeadkdhfaa.rown Go.Proofs.Ytedboaeadkdhfaa.stk Go.Proofs.Ytedboaeadkdhfaa.boxed Go.Proofs.Ytedboaeadkdhfaa.ft
set_option linter.unusedVariables false
set_option linter.unusedSimpArgs false
theorem meat (vs0 : Nat → Value) (g0 : Nat → Dat) (ht0 : tyrFeatS g0) :
    costRec 1 g0 ≤ 1048576 → ∃ (r0 : Bool), (∀ (W : World) (us0 : Nat → Value), ReadsRec W 1 us0 g0 → (∃ (A : Option Addr) (n c : Nat), us0 0 = .slice A n c ∧ n ≤ c) → Calls Try.prog 17 #[us0 0] W fun e W' => e = .returned (.bool r0) ∧ Below W.heap.size W W') ∧ (∀ (W : World) (us0 : Nat → Value), ReadsRec W 1 us0 g0 → (∃ (A : Option Addr) (n c : Nat), us0 0 = .slice A n c ∧ n ≤ c) → Calls Try.prog 19 #[us0 0] W fun e W' => e = .returned (.bool r0) ∧ Below W.heap.size W W') := by
  intro hq
  exact ⟨okF (ftN g0) (ftF g0), fun W us0 h0 _ => by
      obtain ⟨A, c, e, hn, hp⟩ := reads_fts h0 ht0 hq
      rw [e]
      exact validS A _ _ W hn hp, fun W us0 h0 _ => by
      obtain ⟨A, c, e, hn, hp⟩ := reads_fts h0 ht0 hq
      rw [e]
      exact okI A _ _ W hn hp⟩
end Go.Proofs.Ytedboaeadkdhfaa.wValidFeats
