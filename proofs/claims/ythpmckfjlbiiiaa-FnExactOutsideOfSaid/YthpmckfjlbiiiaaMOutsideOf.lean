/-
  Proved: both functions that tell how far a list is outside of an envelope return the same.
  Conditions: none.
-/
import Derived.Test.YthpmckfjlbiiiaaBndI
import Derived.Test.YthpmckfjlbiiiaaLsV
namespace Go.Proofs.Ythpmckfjlbiiiaa.wOutsideOf
open Go.ChangeShapes Go.WideShapes Go.ChangeAt Go.RowKit Go.Joins
open Go.Proofs.Ythpmckfjlbiiiaa.core Go.Proofs.Ythpmckfjlbiiiaa.rown Go.Proofs.Ythpmckfjlbiiiaa.stk Go.Proofs.Ythpmckfjlbiiiaa.boxed Go.Proofs.Ythpmckfjlbiiiaa.ft Go.Proofs.Ythpmckfjlbiiiaa.seq Go.Proofs.Ythpmckfjlbiiiaa.env
set_option linter.unusedVariables false
set_option linter.unusedSimpArgs false
theorem meat (vs0 : Nat → Value) (g0 : Nat → Dat) (vs1 : Nat → Value) (g1 : Nat → Dat) (ht0 : tyrFeatS g0) (ht1 : tyrEnvelope g1) :
    costRec 1 g0 ≤ 1048576 → costRec 4 g1 ≤ 1048576 → ∃ (r0 : Int) (r1 : Int), (∀ (W : World) (us0 : Nat → Value) (us1 : Nat → Value), ReadsRec W 1 us0 g0 → (∃ (A : Option Addr) (n c : Nat), us0 0 = .slice A n c ∧ n ≤ c) → ReadsRec W 4 us1 g1 → Calls Try.prog 27 #[us0 0, .agg #[us1 0, us1 1, us1 2, us1 3]] W fun e W' => e = .returned (.tuple #[.int .i64 r0, .int .i64 r1]) ∧ Below W.heap.size W W') ∧ (∀ (W : World) (us0 : Nat → Value) (us1 : Nat → Value), ReadsRec W 1 us0 g0 → (∃ (A : Option Addr) (n c : Nat), us0 0 = .slice A n c ∧ n ≤ c) → ReadsRec W 4 us1 g1 → Calls Try.prog 28 #[us0 0, .agg #[us1 0, us1 1, us1 2, us1 3]] W fun e W' => e = .returned (.tuple #[.int .i64 r0, .int .i64 r1]) ∧ Below W.heap.size W W') := by
  intro hq0 hq1
  refine ⟨outR (ftN g0) (ftF g0) (enN g1) (enG g1), outC (ftN g0) (ftF g0) (enN g1) (enG g1), fun W us0 us1 h0 r0 h1 => ?_, fun W us0 us1 h0 r0 h1 => ?_⟩
  · obtain ⟨A, ca, ea0, hna, hpa⟩ := reads_fts h0 ht0 hq0
    obtain ⟨ea, ec, he, hn, hN⟩ := reads_env h1 ht1 hq1
    rw [ea0, he 0 (by omega), he 1 (by omega), he 2 (by omega), he 3 (by omega)]
    exact outsideOfS A _ _ ea (enN g1) ec (enG g1) W hna hn hpa hN
  · obtain ⟨A, ca, ea0, hna, hpa⟩ := reads_fts h0 ht0 hq0
    obtain ⟨ea, ec, he, hn, hN⟩ := reads_env h1 ht1 hq1
    rw [ea0, he 0 (by omega), he 1 (by omega), he 2 (by omega), he 3 (by omega)]
    exact outsideOfI A _ _ ea (enN g1) ec (enG g1) W hna hn hpa hN
end Go.Proofs.Ythpmckfjlbiiiaa.wOutsideOf
