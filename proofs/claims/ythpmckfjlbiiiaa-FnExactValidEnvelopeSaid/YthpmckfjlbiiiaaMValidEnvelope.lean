/-
  Proved: both functions that test an envelope return the same.
  Conditions: none.
-/
import Derived.Test.YthpmckfjlbiiiaaBndI
import Derived.Test.YthpmckfjlbiiiaaLsV
namespace Go.Proofs.Ythpmckfjlbiiiaa.wValidEnvelope
open Go.ChangeShapes Go.WideShapes Go.ChangeAt Go.RowKit Go.Joins
open Go.Proofs.Ythpmckfjlbiiiaa.core Go.Proofs.Ythpmckfjlbiiiaa.rown Go.Proofs.Ythpmckfjlbiiiaa.stk Go.Proofs.Ythpmckfjlbiiiaa.boxed Go.Proofs.Ythpmckfjlbiiiaa.ft Go.Proofs.Ythpmckfjlbiiiaa.seq Go.Proofs.Ythpmckfjlbiiiaa.env
set_option linter.unusedVariables false
set_option linter.unusedSimpArgs false
theorem meat (vs0 : Nat → Value) (g0 : Nat → Dat) (ht0 : tyrEnvelope g0) :
    costRec 4 g0 ≤ 1048576 → ∃ (r0 : Bool), (∀ (W : World) (us0 : Nat → Value), ReadsRec W 4 us0 g0 → Calls Try.prog 24 #[.agg #[us0 0, us0 1, us0 2, us0 3]] W fun e W' => e = .returned (.bool r0) ∧ Below W.heap.size W W') ∧ (∀ (W : World) (us0 : Nat → Value), ReadsRec W 4 us0 g0 → Calls Try.prog 26 #[.agg #[us0 0, us0 1, us0 2, us0 3]] W fun e W' => e = .returned (.bool r0) ∧ Below W.heap.size W W') := by
  intro hq
  refine ⟨okE (enN g0) (enG g0), fun W us0 h0 => ?_, fun W us0 h0 => ?_⟩
  · obtain ⟨ea, ec, he, hn, hN⟩ := reads_env h0 ht0 hq
    rw [he 0 (by omega), he 1 (by omega), he 2 (by omega), he 3 (by omega)]
    exact validES ea (enN g0) ec (enG g0) W hn hN
  · obtain ⟨ea, ec, he, hn, hN⟩ := reads_env h0 ht0 hq
    rw [he 0 (by omega), he 1 (by omega), he 2 (by omega), he 3 (by omega)]
    exact validEI ea (enN g0) ec (enG g0) W hn hN
end Go.Proofs.Ythpmckfjlbiiiaa.wValidEnvelope
