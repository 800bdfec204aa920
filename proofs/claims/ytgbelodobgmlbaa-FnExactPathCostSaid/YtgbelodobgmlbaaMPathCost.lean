/-
  Proved: both functions that tell the cost of a path return the same.
  Conditions: none.
-/
import Derived.Test.YtgbelodobgmlbaaFitI
import Derived.Test.YtgbelodobgmlbaaPrs
namespace Go.Proofs.Ytgbelodobgmlbaa.wPathCost
open Go.ChangeShapes Go.WideShapes Go.ChangeAt Go.RowKit Go.Joins
open Go.Proofs.Ytgbelodobgmlbaa.core Go.Proofs.Ytgbelodobgmlbaa.rown Go.Proofs.Ytgbelodobgmlbaa.stk Go.Proofs.Ytgbelodobgmlbaa.boxed Go.Proofs.Ytgbelodobgmlbaa.ft Go.Proofs.Ytgbelodobgmlbaa.seq Go.Proofs.Ytgbelodobgmlbaa.path
set_option linter.unusedVariables false
set_option linter.unusedSimpArgs false
theorem meat (vs0 : Nat → Value) (g0 : Nat → Dat) (vs1 : Nat → Value) (g1 : Nat → Dat) (vs2 : Nat → Value) (g2 : Nat → Dat) (ht0 : tyrFeatS g0) (ht1 : tyrFeatS g1) (ht2 : tyrPairS g2) :
    costRec 1 g0 ≤ 1048576 → costRec 1 g1 ≤ 1048576 → costRec 1 g2 ≤ 1048576 → ∃ (r0 : Int) (r1 : Int), (∀ (W : World) (us0 : Nat → Value) (us1 : Nat → Value) (us2 : Nat → Value), ReadsRec W 1 us0 g0 → (∃ (A : Option Addr) (n c : Nat), us0 0 = .slice A n c ∧ n ≤ c) → ReadsRec W 1 us1 g1 → (∃ (A : Option Addr) (n c : Nat), us1 0 = .slice A n c ∧ n ≤ c) → ReadsRec W 1 us2 g2 → (∃ (A : Option Addr) (n c : Nat), us2 0 = .slice A n c ∧ n ≤ c) → Calls Try.prog 34 #[us0 0, us1 0, us2 0] W fun e W' => e = .returned (.tuple #[.int .i64 r0, .int .i64 r1]) ∧ Below W.heap.size W W') ∧ (∀ (W : World) (us0 : Nat → Value) (us1 : Nat → Value) (us2 : Nat → Value), ReadsRec W 1 us0 g0 → (∃ (A : Option Addr) (n c : Nat), us0 0 = .slice A n c ∧ n ≤ c) → ReadsRec W 1 us1 g1 → (∃ (A : Option Addr) (n c : Nat), us1 0 = .slice A n c ∧ n ≤ c) → ReadsRec W 1 us2 g2 → (∃ (A : Option Addr) (n c : Nat), us2 0 = .slice A n c ∧ n ≤ c) → Calls Try.prog 35 #[us0 0, us1 0, us2 0] W fun e W' => e = .returned (.tuple #[.int .i64 r0, .int .i64 r1]) ∧ Below W.heap.size W W') := by
  intro hq0 hq1 hq2
  refine ⟨pcR (ftN g0) (ftN g1) (prN g2) (ftF g0) (ftF g1) (prF g2), fitC (ftN g0) (ftN g1) (prN g2) (ftF g0) (ftF g1) (prF g2), fun W us0 us1 us2 h0 _ h1 _ h2 _ => ?_, fun W us0 us1 us2 h0 _ h1 _ h2 _ => ?_⟩
  · obtain ⟨A, ca, ea, hna, hpa⟩ := reads_fts h0 ht0 hq0
    obtain ⟨B, cb, eb, hnb, hpb⟩ := reads_fts h1 ht1 hq1
    obtain ⟨C, cc, ec, hnc, hpc, -⟩ := reads_prs h2 ht2 hq2
    rw [ea, eb, ec]
    exact pathCostS A B C _ _ _ _ _ _ W hna hnb hnc hpa hpb hpc
  · obtain ⟨A, ca, ea, hna, hpa⟩ := reads_fts h0 ht0 hq0
    obtain ⟨B, cb, eb, hnb, hpb⟩ := reads_fts h1 ht1 hq1
    obtain ⟨C, cc, ec, hnc, hpc, -⟩ := reads_prs h2 ht2 hq2
    rw [ea, eb, ec]
    exact pathCostI A B C _ _ _ _ _ _ W hna hnb hnc hpa hpb hpc
end Go.Proofs.Ytgbelodobgmlbaa.wPathCost
