/-
  Proved: both functions that tell the cost of the first and of the last pair return the same.
  Conditions: none.
-/
import Derived.Test.YthpmckfjlbiiiaaEndsI
namespace Go.Proofs.Ythpmckfjlbiiiaa.wEndsBound
open Go.ChangeShapes Go.WideShapes Go.ChangeAt Go.RowKit Go.Joins
open Go.Proofs.Ythpmckfjlbiiiaa.core Go.Proofs.Ythpmckfjlbiiiaa.rown Go.Proofs.Ythpmckfjlbiiiaa.stk Go.Proofs.Ythpmckfjlbiiiaa.boxed Go.Proofs.Ythpmckfjlbiiiaa.ft Go.Proofs.Ythpmckfjlbiiiaa.seq Go.Proofs.Ythpmckfjlbiiiaa.env
set_option linter.unusedVariables false
set_option linter.unusedSimpArgs false
theorem meat (vs0 : Nat → Value) (g0 : Nat → Dat) (vs1 : Nat → Value) (g1 : Nat → Dat) (ht0 : tyrFeatS g0) (ht1 : tyrFeatS g1) :
    costRec 1 g0 ≤ 1048576 → costRec 1 g1 ≤ 1048576 → ∃ (r0 : Int) (r1 : Int), (∀ (W : World) (us0 : Nat → Value) (us1 : Nat → Value), ReadsRec W 1 us0 g0 → (∃ (A : Option Addr) (n c : Nat), us0 0 = .slice A n c ∧ n ≤ c) → ReadsRec W 1 us1 g1 → (∃ (A : Option Addr) (n c : Nat), us1 0 = .slice A n c ∧ n ≤ c) → Calls Try.prog 29 #[us0 0, us1 0] W fun e W' => e = .returned (.tuple #[.int .i64 r0, .int .i64 r1]) ∧ Below W.heap.size W W') ∧ (∀ (W : World) (us0 : Nat → Value) (us1 : Nat → Value), ReadsRec W 1 us0 g0 → (∃ (A : Option Addr) (n c : Nat), us0 0 = .slice A n c ∧ n ≤ c) → ReadsRec W 1 us1 g1 → (∃ (A : Option Addr) (n c : Nat), us1 0 = .slice A n c ∧ n ≤ c) → Calls Try.prog 30 #[us0 0, us1 0] W fun e W' => e = .returned (.tuple #[.int .i64 r0, .int .i64 r1]) ∧ Below W.heap.size W W') := by
  intro hq0 hq1
  refine ⟨ebR (ftN g0) (ftN g1) (ftF g0) (ftF g1), twoC (ftN g0) (ftN g1) (ftF g0) (ftF g1), fun W us0 us1 h0 r0 h1 r1 => ?_, fun W us0 us1 h0 r0 h1 r1 => ?_⟩
  · obtain ⟨A, ca, ea, hna, hpa⟩ := reads_fts h0 ht0 hq0
    obtain ⟨B, cb, eb, hnb, hpb⟩ := reads_fts h1 ht1 hq1
    rw [ea, eb]
    exact endsBoundS A B _ _ _ _ W hna hnb hpa hpb
  · obtain ⟨A, ca, ea, hna, hpa⟩ := reads_fts h0 ht0 hq0
    obtain ⟨B, cb, eb, hnb, hpb⟩ := reads_fts h1 ht1 hq1
    rw [ea, eb]
    exact endsBoundI A B _ _ _ _ W hna hnb hpa hpb
end Go.Proofs.Ythpmckfjlbiiiaa.wEndsBound
