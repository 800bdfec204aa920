/-
  Proved: what the functions on a segment's length and on the sides of points return.
  Conditions: the points are in their range.
-/
import Derived.Test.YtedboaeadkdhfaaLen
import Derived.Deep.QuietTactic
namespace Go.Proofs.Ytedboaeadkdhfaa.side
open Go.ChangeShapes Go.WideShapes Go.ChangeAt Go.RowKit Go.Joins
open Go.Proofs.Ytedboaeadkdhfaa.core Go.Proofs.Ytedboaeadkdhfaa.geoM Go.Proofs.Ytedboaeadkdhfaa.stk Go.Proofs.Ytedboaeadkdhfaa.seg
set_option linter.unusedVariables false
set_option linter.unusedSimpArgs false

abbrev sg (a b : P3) : Value := .agg #[.int .i64 a.1, .int .i64 a.2.1, .int .i64 a.2.2, .int .i64 b.1, .int .i64 b.2.1, .int .i64 b.2.2]
abbrev pv (a : P3) : Value := pt a.1 a.2.1 a.2.2
theorem below_drewN {B : Nat} {w w' : World} (h : Below B w w') (q : Nat) : Below B w (w'.drewN q) := ⟨h.os, h.tape, h.output, h.size, h.block⟩
theorem mixedO : Try.prog.follows .mixedOrders = true := by kernel_rfl

set_option maxRecDepth 100000 in
set_option maxHeartbeats 1000000 in
theorem isNaN_calls (a : Int) (w : World) : Calls Try.prog 121 #[.int .i64 a] w fun e w' => e = .returned (.bool false) ∧ w = w' := by
  have hne : (a != a) = false := by simp
  go_enter Try.func121, Try.ntmps121
  go_wp2
  go_ret
  exact ⟨ret_bool (by first | rfl | simp), rfl⟩
end Go.Proofs.Ytedboaeadkdhfaa.side
