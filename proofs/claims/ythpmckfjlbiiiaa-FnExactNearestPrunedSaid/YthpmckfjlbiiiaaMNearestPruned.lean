/-
  Proved: both functions that find the nearest list and leave lists out return the same.
  Conditions: none.
-/
import Derived.Test.YthpmckfjlbiiiaaLsV
import Derived.Test.YthpmckfjlbiiiaaPrunI
namespace Go.Proofs.Ythpmckfjlbiiiaa.wNearestPruned
open Go.ChangeShapes Go.WideShapes Go.ChangeAt Go.RowKit Go.Joins
open Go.Proofs.Ythpmckfjlbiiiaa.core Go.Proofs.Ythpmckfjlbiiiaa.rown Go.Proofs.Ythpmckfjlbiiiaa.stk Go.Proofs.Ythpmckfjlbiiiaa.boxed Go.Proofs.Ythpmckfjlbiiiaa.ft Go.Proofs.Ythpmckfjlbiiiaa.seq Go.Proofs.Ythpmckfjlbiiiaa.env
set_option linter.unusedVariables false
set_option linter.unusedSimpArgs false
theorem meat (vs0 : Nat → Value) (g0 : Nat → Dat) (vs1 : Nat → Value) (g1 : Nat → Dat) (a2 : Int) (ht0 : tyrFeatS g0) (ht1 : tyrFeatSS g1) (hi2 : inI64 a2) :
    costRec 1 g0 ≤ 1048576 → costRec 1 g1 ≤ 1048576 → ∃ (r0 : Int) (r1 : Int) (r2 : Int) (r3 : Int), (∀ (W : World) (us0 : Nat → Value) (us1 : Nat → Value), ReadsRec W 1 us0 g0 → (∃ (A : Option Addr) (n c : Nat), us0 0 = .slice A n c ∧ n ≤ c) → ReadsRec W 1 us1 g1 → (∃ (A : Option Addr) (n c : Nat), us1 0 = .slice A n c ∧ n ≤ c) → Calls Try.prog 38 #[us0 0, us1 0, .int .i64 a2] W fun e W' => e = .returned (.tuple #[.int .i64 r0, .int .i64 r1, .int .i64 r2, .int .i64 r3]) ∧ Below W.heap.size W W') ∧ (∀ (W : World) (us0 : Nat → Value) (us1 : Nat → Value), ReadsRec W 1 us0 g0 → (∃ (A : Option Addr) (n c : Nat), us0 0 = .slice A n c ∧ n ≤ c) → ReadsRec W 1 us1 g1 → (∃ (A : Option Addr) (n c : Nat), us1 0 = .slice A n c ∧ n ≤ c) → Calls Try.prog 39 #[us0 0, us1 0, .int .i64 a2] W fun e W' => e = .returned (.tuple #[.int .i64 r0, .int .i64 r1, .int .i64 r2, .int .i64 r3]) ∧ Below W.heap.size W W') := by
  intro hq0 hq1
  refine ⟨(prunR (ftN g0) (ftF g0) (lsN g1) (lsL g1) (lsF g1) a2).1, (prunR (ftN g0) (ftF g0) (lsN g1) (lsL g1) (lsF g1) a2).2.1, (prunR (ftN g0) (ftF g0) (lsN g1) (lsL g1) (lsF g1) a2).2.2.1, (prunR (ftN g0) (ftF g0) (lsN g1) (lsL g1) (lsF g1) a2).2.2.2, fun W us0 us1 h0 _ h1 _ => ?_, fun W us0 us1 h0 _ h1 _ => ?_⟩
  · obtain ⟨A, ca, ea, hna, hpa⟩ := reads_fts h0 ht0 hq0
    obtain ⟨B, cb, eb, hnb, hlb, hpb⟩ := reads_lss h1 ht1 hq1
    rw [ea, eb]
    exact prunedS A B _ _ _ _ _ a2 W hna hnb hlb hpa hpb
  · obtain ⟨A, ca, ea, hna, hpa⟩ := reads_fts h0 ht0 hq0
    obtain ⟨B, cb, eb, hnb, hlb, hpb⟩ := reads_lss h1 ht1 hq1
    rw [ea, eb]
    exact prunI A B _ _ _ _ _ a2 W hna hnb hlb hpa hpb
end Go.Proofs.Ythpmckfjlbiiiaa.wNearestPruned
