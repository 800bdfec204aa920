/-
  Proved: both functions return the same bits of bytes.
  Conditions: none.
-/
import Derived.Test.YtjhndncmeedffaaUnp
namespace Go.Proofs.Ytjhndncmeedffaa.wUnpackBits
open Go.ChangeShapes Go.WideShapes Go.ChangeAt Go.RowKit Go.Joins
open Go.Proofs.Ytjhndncmeedffaa.unpack Go.Proofs.Ytjhndncmeedffaa.bits
theorem meat (a0 : ByteArray) :
    a0.size ≤ 1048576 → ∃ (r0 : ByteArray) (r1 : Int), (∀ (W : World), Calls Try.prog 11 #[.string a0] W fun e W' => e = .returned (.tuple #[.string r0, .int .i64 r1]) ∧ Below W.heap.size W W') ∧ (∀ (W : World), Calls Try.prog 12 #[.string a0] W fun e W' => e = .returned (.tuple #[.string r0, .int .i64 r1]) ∧ Below W.heap.size W W') := by
  intro h
  by_cases h2 : a0.size ≤ 12500
  · exact ⟨_, _, fun W => spec_yes a0 h2 W, fun W => impl_yes a0 h2 W⟩
  · exact ⟨_, _, fun W => spec_no a0 h h2 W, fun W => impl_no a0 h h2 W⟩
end Go.Proofs.Ytjhndncmeedffaa.wUnpackBits
