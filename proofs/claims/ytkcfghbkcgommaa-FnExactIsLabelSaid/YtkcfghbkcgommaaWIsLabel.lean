/-
  Proved: the walk of the law on IsLabel, out of what the two functions return.
  Conditions: what the two functions return.
-/
import Derived.Test.YtkcfghbkcgommaaCore
namespace Go.Proofs.Ytkcfghbkcgommaa.wIsLabel
open Go.ChangeShapes Go.WideShapes Go.ChangeAt Go.RowKit Go.Joins
set_option linter.unusedVariables false
set_option linter.unusedSimpArgs false
open Go.Proofs.Ytkcfghbkcgommaa.core

set_option maxRecDepth 100000 in
set_option maxHeartbeats 4000000 in
theorem walk (a0 : ByteArray) (w : World) (hl0 : a0.size ≤ maxLen)
    (hm : a0.size ≤ 1048576 → ∃ (r0 : Bool), (∀ (W : World), Calls Try.prog 11 #[.string a0] W fun e W' => e = .returned (.bool r0) ∧ Below W.heap.size W W') ∧ (∀ (W : World), Calls Try.prog 12 #[.string a0] W fun e W' => e = .returned (.bool r0) ∧ Below W.heap.size W W')) :
    Calls Try.prog 3 #[.string a0] w fun e w' => e = .returned (.bool true) ∧ Below w.heap.size w w' := by
  have hl0' : a0.size ≤ 9223372036854775807 := by unfold maxLen at hl0; omega
  clear hl0
  by_cases hz0 : a0.size ≤ 1048576
  rotate_left
  · have hz0' : (1048576 : Int) < (a0.size : Int) := by omega
    clear hm
    go_enter Try.func3, Try.ntmps3
    go_wp2
    go_ret
    exact ⟨rfl, Below.refl _ _⟩
  have hz0' : ¬ ((1048576 : Int) < (a0.size : Int)) := by omega
  obtain ⟨r0, hS, hI⟩ := hm hz0
  have HS := Lib.hid hS
  have HI := Lib.hid hI
  clear hS hI
  try clear hm
  go_enter Try.func3, Try.ntmps3
  go_wp2_with fail
  refine (HS.out _).mono ?_
  rintro e w1 ⟨rfl, hb⟩
  have HB := Lib.hid hb
  clear hb
  go_wp2_with fail
  refine (HI.out _).mono ?_
  rintro e w2 ⟨rfl, hb⟩
  have HB2 := Lib.hid (HB.out.trans (hb.mono HB.out.size))
  clear hb HB HS HI
  cases r0
  all_goals
    go_wp2
    go_ret
    exact ⟨rfl, HB2.out⟩

end Go.Proofs.Ytkcfghbkcgommaa.wIsLabel
