/-
  Proved: both functions that ask whether a text is a label return the same.
  Conditions: none.
-/
import Derived.Test.YtkcfghbkcgommaaLab
namespace Go.Proofs.Ytkcfghbkcgommaa.wIsLabel
open Go.ChangeShapes Go.WideShapes Go.ChangeAt Go.RowKit Go.Joins
open Go.Proofs.Ytkcfghbkcgommaa.core Go.Proofs.Ytkcfghbkcgommaa.lab
set_option linter.unusedVariables false
set_option linter.unusedSimpArgs false
theorem meat (a0 : ByteArray) :
    a0.size ≤ 1048576 → ∃ (r0 : Bool), (∀ (W : World), Calls Try.prog 11 #[.string a0] W fun e W' => e = .returned (.bool r0) ∧ Below W.heap.size W W') ∧ (∀ (W : World), Calls Try.prog 12 #[.string a0] W fun e W' => e = .returned (.bool r0) ∧ Below W.heap.size W W') := fun h =>
  ⟨labB a0, fun W => (isLabS a0 W (by unfold maxLen; omega)).mono fun _ _ ⟨he, hw⟩ => ⟨he, by rw [← hw]; exact Below.refl _ _⟩, fun W => (isLabI a0 W (by unfold maxLen; omega)).mono fun _ _ ⟨he, hw⟩ => ⟨he, by rw [← hw]; exact Below.refl _ _⟩⟩
end Go.Proofs.Ytkcfghbkcgommaa.wIsLabel
