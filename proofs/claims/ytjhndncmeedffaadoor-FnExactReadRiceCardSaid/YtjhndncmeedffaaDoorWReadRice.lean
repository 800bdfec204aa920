/-
  Proved: the walk of the law on ReadRice, out of what the two functions return.
  Conditions: what the two functions return.
-/
import Derived.Test.YtjhndncmeedffaaDoorCore
namespace Go.Proofs.YtjhndncmeedffaaDoor.wReadRice
open Go.ChangeShapes Go.WideShapes Go.ChangeAt Go.RowKit Go.Joins
set_option linter.unusedVariables false
set_option linter.unusedSimpArgs false
open Go.Proofs.YtjhndncmeedffaaDoor.core

set_option maxRecDepth 100000 in
set_option maxHeartbeats 4000000 in
theorem walk (a0 : ByteArray) (a1 : Int) (a2 : Int) (w : World) (hl0 : a0.size ≤ maxLen)
    (hm : a0.size ≤ 1048576 → ∃ (r0 : Int) (r1 : Int) (r2 : Int), (∀ (W : World), Calls Tryd.prog 9 #[.string a0, .int .i64 a1, .int .i64 a2] W fun e W' => e = .returned (.tuple #[.int .i64 r0, .int .i64 r1, .int .i64 r2]) ∧ Below W.heap.size W W') ∧ (∀ (W : World), Calls Tryd.prog 10 #[.string a0, .int .i64 a1, .int .i64 a2] W fun e W' => e = .returned (.tuple #[.int .i64 r0, .int .i64 r1, .int .i64 r2]) ∧ Below W.heap.size W W')) :
    Calls Tryd.prog 4 #[.string a0, .int .i64 a1, .int .i64 a2] w fun e w' => e = .returned (.bool true) ∧ Below w.heap.size w w' := by
  have hl0' : a0.size ≤ 9223372036854775807 := by unfold maxLen at hl0; omega
  clear hl0
  by_cases hz0 : a0.size ≤ 1048576
  rotate_left
  · have hz0' : (1048576 : Int) < (a0.size : Int) := by omega
    clear hm
    go_enter Tryd.func4, Tryd.ntmps4
    go_wp2
    go_ret
    exact ⟨rfl, Below.refl _ _⟩
  have hz0' : ¬ ((1048576 : Int) < (a0.size : Int)) := by omega
  obtain ⟨r0, r1, r2, hS, hI⟩ := hm hz0
  have HS := Lib.hid hS
  have HI := Lib.hid hI
  clear hS hI
  try clear hm
  go_enter Tryd.func4, Tryd.ntmps4
  go_wp2_with fail
  refine (HS.out _).mono ?_
  rintro e w1 ⟨rfl, hb⟩
  have HB := Lib.hid hb
  clear hb
  go_wp2_with fail
  refine (HI.out _).mono ?_
  rintro e w2 ⟨rfl, hb⟩
  have HB2 := Lib.hid (HB.out.trans (hb.mono HB.out.size))
  clear hb HB HS HI
  all_goals
    go_wp2
    go_ret
    exact ⟨rfl, HB2.out⟩

end Go.Proofs.YtjhndncmeedffaaDoor.wReadRice
