/-
  Proved: both functions return the same checksum.
  Conditions: none.
-/
import Derived.Test.YtjhndncmeedffaaSum
namespace Go.Proofs.Ytjhndncmeedffaa.wChecksumOf
open Go.ChangeShapes Go.WideShapes Go.ChangeAt Go.RowKit
theorem meat (a0 : ByteArray) :
    a0.size ≤ 1048576 → ∃ (r0 : Int), (∀ (W : World), Calls Try.prog 27 #[.string a0] W fun e W' => e = .returned (.int .i64 r0) ∧ Below W.heap.size W W') ∧ (∀ (W : World), Calls Try.prog 28 #[.string a0] W fun e W' => e = .returned (.int .i64 r0) ∧ Below W.heap.size W W') := by
  intro h
  have hs : a0.size ≤ maxLen := by unfold maxLen; omega
  exact ⟨_, fun W => sum.spec_law a0 W hs, fun W => sum.impl_law a0 W hs⟩
end Go.Proofs.Ytjhndncmeedffaa.wChecksumOf
