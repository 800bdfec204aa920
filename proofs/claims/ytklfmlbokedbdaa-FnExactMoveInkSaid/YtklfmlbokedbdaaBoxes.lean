/-
  Proved: what the functions on boxes return (contracts of the callees of the laws on ValidBox and JoinBoxes).
  Conditions: none.
-/
import Derived.Test.YtklfmlbokedbdaaPost
import Derived.Lib.Hide
import Derived.Lib.SmallJoins
namespace Go.Proofs.Ytklfmlbokedbdaa.boxes
open Go.ChangeShapes Go.WideShapes Go.ChangeAt Go.RowKit
set_option linter.unusedVariables false

theorem own : ownKnob Try.prog.godebug = none := by kernel_rfl

abbrev box (a b c d : Int) : Value := .agg #[.int .i64 a, .int .i64 b, .int .i64 c, .int .i64 d]
def vBox (a b c d : Int) : Bool := decide (0 ≤ a ∧ a ≤ c ∧ c ≤ 4095 ∧ 0 ≤ b ∧ b ≤ d ∧ d ≤ 4095)
theorem ret_bool {a b : Bool} (h : a = b) : Ending.returned (.bool a) = .returned (.bool b) := by rw [h]

set_option maxHeartbeats 1000000 in
theorem toBox_calls (a b c d : Int) (w : World) :
    Calls Try.prog 27 #[box a b c d] w fun e w' => e = .returned (box a b c d) ∧ Below w.heap.size w w' := by
  go_enter Try.func27, Try.ntmps27
  go_wp2
  exact bodyPost_ret (v := box a b c d) (by simp [results, Try.results27, go_sem]) rfl ⟨rfl, (((Below.refl _ _).alloc (Nat.le_refl _) _).alloc (by simp) _).alloc (by simp; omega) _⟩

set_option maxHeartbeats 1000000 in
theorem impl_valid (a b c d : Int) (w : World) :
    Calls Try.prog 28 #[box a b c d] w fun e w' => e = .returned (.bool (vBox a b c d)) ∧ Below w.heap.size w w' := by
  go_enter Try.func28, Try.ntmps28
  go_wp2
  all_goals go_ret
  all_goals refine ⟨ret_bool ?_, (Below.refl _ _).alloc (Nat.le_refl _) _⟩
  all_goals
    unfold vBox
    rw [Bool.eq_iff_iff]
    simp
    try omega

set_option maxHeartbeats 1000000 in
theorem spec_box (a b c d : Int) (w : World) :
    Calls Try.prog 60 #[box a b c d] w fun e w' => e = .returned (.bool (vBox a b c d)) ∧ Below w.heap.size w w' := by
  go_enter Try.func60, Try.ntmps60
  go_wp2
  all_goals go_ret
  all_goals refine ⟨ret_bool ?_, (Below.refl _ _).alloc (Nat.le_refl _) _⟩
  all_goals
    unfold vBox
    rw [Bool.eq_iff_iff]
    simp
    try omega

set_option maxHeartbeats 1000000 in
theorem spec_valid (a b c d : Int) (w : World) :
    Calls Try.prog 26 #[box a b c d] w fun e w' => e = .returned (.bool (vBox a b c d)) ∧ Below w.heap.size w w' := by
  go_enter Try.func26, Try.ntmps26
  go_wp2_with fail
  refine (spec_box a b c d _).mono ?_
  rintro e w1 ⟨rfl, hb⟩
  go_wp2
  go_ret
  exact ⟨rfl, ((Below.refl _ _).alloc (Nat.le_refl _) _).trans (hb.mono (by simp))⟩
end Go.Proofs.Ytklfmlbokedbdaa.boxes
