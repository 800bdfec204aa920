/-
  Proved: both functions that tell whether pairs are a path return the same answer.
  Conditions: none.
-/
import Derived.Test.YtgbelodobgmlbaaPathI
import Derived.Test.YtgbelodobgmlbaaPrs
namespace Go.Proofs.Ytgbelodobgmlbaa.wValidPath
open Go.ChangeShapes Go.WideShapes Go.ChangeAt Go.RowKit Go.Joins
open Go.Proofs.Ytgbelodobgmlbaa.core Go.Proofs.Ytgbelodobgmlbaa.rown Go.Proofs.Ytgbelodobgmlbaa.stk Go.Proofs.Ytgbelodobgmlbaa.boxed Go.Proofs.Ytgbelodobgmlbaa.ft Go.Proofs.Ytgbelodobgmlbaa.seq Go.Proofs.Ytgbelodobgmlbaa.path
set_option linter.unusedVariables false
set_option linter.unusedSimpArgs false
theorem meat (vs0 : Nat → Value) (g0 : Nat → Dat) (a1 : Int) (a2 : Int) (a3 : Int) (ht0 : tyrPairS g0) (hi1 : inI64 a1) (hi2 : inI64 a2) (hi3 : inI64 a3) :
    costRec 1 g0 ≤ 1048576 → ∃ (r0 : Bool), (∀ (W : World) (us0 : Nat → Value), ReadsRec W 1 us0 g0 → (∃ (A : Option Addr) (n c : Nat), us0 0 = .slice A n c ∧ n ≤ c) → Calls Try.prog 29 #[us0 0, .int .i64 a1, .int .i64 a2, .int .i64 a3] W fun e W' => e = .returned (.bool r0) ∧ Below W.heap.size W W') ∧ (∀ (W : World) (us0 : Nat → Value), ReadsRec W 1 us0 g0 → (∃ (A : Option Addr) (n c : Nat), us0 0 = .slice A n c ∧ n ≤ c) → Calls Try.prog 31 #[us0 0, .int .i64 a1, .int .i64 a2, .int .i64 a3] W fun e W' => e = .returned (.bool r0) ∧ Below W.heap.size W W') := by
  intro hq
  exact ⟨vP (prN g0) (prF g0) a1 a2 a3, fun W us0 h0 _ => by
      obtain ⟨A, c, e, hn, hp, -⟩ := reads_prs h0 ht0 hq
      rw [e]
      exact validPathS A _ _ a1 a2 a3 W hn hi1 hi2 hp, fun W us0 h0 _ => by
      obtain ⟨A, c, e, hn, hp, -⟩ := reads_prs h0 ht0 hq
      rw [e]
      exact pathI A _ _ a1 a2 a3 W hn hi1 hi2 hp⟩
end Go.Proofs.Ytgbelodobgmlbaa.wValidPath
