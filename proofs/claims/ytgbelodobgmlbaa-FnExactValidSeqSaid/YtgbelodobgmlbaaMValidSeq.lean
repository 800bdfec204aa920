/-
  Proved: both functions that tell whether a list is a sequence return the same answer.
  Conditions: none.
-/
import Derived.Test.YtgbelodobgmlbaaSeqI
namespace Go.Proofs.Ytgbelodobgmlbaa.wValidSeq
open Go.ChangeShapes Go.WideShapes Go.ChangeAt Go.RowKit Go.Joins
open Go.Proofs.Ytgbelodobgmlbaa.core Go.Proofs.Ytgbelodobgmlbaa.rown Go.Proofs.Ytgbelodobgmlbaa.stk Go.Proofs.Ytgbelodobgmlbaa.boxed Go.Proofs.Ytgbelodobgmlbaa.ft Go.Proofs.Ytgbelodobgmlbaa.seq
set_option linter.unusedVariables false
set_option linter.unusedSimpArgs false
theorem meat (vs0 : Nat → Value) (g0 : Nat → Dat) (ht0 : tyrFeatS g0) :
    costRec 1 g0 ≤ 1048576 → ∃ (r0 : Bool), (∀ (W : World) (us0 : Nat → Value), ReadsRec W 1 us0 g0 → (∃ (A : Option Addr) (n c : Nat), us0 0 = .slice A n c ∧ n ≤ c) → Calls Try.prog 13 #[us0 0] W fun e W' => e = .returned (.bool r0) ∧ Below W.heap.size W W') ∧ (∀ (W : World) (us0 : Nat → Value), ReadsRec W 1 us0 g0 → (∃ (A : Option Addr) (n c : Nat), us0 0 = .slice A n c ∧ n ≤ c) → Calls Try.prog 15 #[us0 0] W fun e W' => e = .returned (.bool r0) ∧ Below W.heap.size W W') := by
  intro hq
  exact ⟨okQ (ftN g0) (ftF g0), fun W us0 h0 _ => by
      obtain ⟨A, c, e, hn, hp⟩ := reads_fts h0 ht0 hq
      rw [e]
      exact validQS A _ _ W hn hp, fun W us0 h0 _ => by
      obtain ⟨A, c, e, hn, hp⟩ := reads_fts h0 ht0 hq
      rw [e]
      exact okQI A _ _ W hn hp⟩
end Go.Proofs.Ytgbelodobgmlbaa.wValidSeq
