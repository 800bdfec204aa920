/-
  Proved: the walk of the law on RootOf, out of what the two functions return.
  Conditions: what the two functions return.
-/
import Derived.Test.YtmpiijnhbeipiaaCore
namespace Go.Proofs.Ytmpiijnhbeipiaa.wRootOf
open Go.ChangeShapes Go.WideShapes Go.ChangeAt Go.RowKit Go.Joins
set_option linter.unusedVariables false
set_option linter.unusedSimpArgs false
open Go.Proofs.Ytmpiijnhbeipiaa.core

set_option maxRecDepth 100000 in
set_option maxHeartbeats 4000000 in
theorem walk (a0 : Int) (w : World) 
    (hm : ∃ (r0 : Int) (r1 : Int), (∀ (W : World), Calls Try.prog 14 #[.int .i64 a0] W fun e W' => e = .returned (.tuple #[.int .i64 r0, .int .i64 r1]) ∧ Below W.heap.size W W') ∧ (∀ (W : World), Calls Try.prog 15 #[.int .i64 a0] W fun e W' => e = .returned (.tuple #[.int .i64 r0, .int .i64 r1]) ∧ Below W.heap.size W W')) :
    Calls Try.prog 3 #[.int .i64 a0] w fun e w' => e = .returned (.bool true) ∧ Below w.heap.size w w' := by
  obtain ⟨r0, r1, hS, hI⟩ := hm 
  have HS := Lib.hid hS
  have HI := Lib.hid hI
  clear hS hI
  try clear hm
  go_enter Try.func3, Try.ntmps3
  go_wp2_with fail
  refine (HS.out _).mono ?_
  rintro e w1 ⟨rfl, hb⟩
  have HB := Lib.hid hb
  clear hb
  go_wp2_with fail
  refine (HI.out _).mono ?_
  rintro e w2 ⟨rfl, hb⟩
  have HB2 := Lib.hid (HB.out.trans (hb.mono HB.out.size))
  clear hb HB HS HI
  all_goals
    go_wp2
    go_ret
    exact ⟨rfl, HB2.out⟩

end Go.Proofs.Ytmpiijnhbeipiaa.wRootOf
