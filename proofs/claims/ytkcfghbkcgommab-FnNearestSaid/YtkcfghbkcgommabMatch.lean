/-
  Proved: what the program's function that tests two lists and a band returns.
  Conditions: none.
-/
import Derived.Test.YtkcfghbkcgommabLast
import Derived.Test.YtkcfghbkcgommabElas
import Derived.Test.YtkcfghbkcgommabBndI
namespace Go.Proofs.Ytkcfghbkcgommab.dp
open Go.ChangeShapes Go.WideShapes Go.ChangeAt Go.RowKit Go.Joins
open Go.Proofs.Ytkcfghbkcgommab.env Go.Proofs.Ytkcfghbkcgommab.core Go.Proofs.Ytkcfghbkcgommab.rown Go.Proofs.Ytkcfghbkcgommab.stk Go.Proofs.Ytkcfghbkcgommab.boxed Go.Proofs.Ytkcfghbkcgommab.ft Go.Proofs.Ytkcfghbkcgommab.seq Go.Proofs.Ytkcfghbkcgommab.tab Go.Proofs.Ytkcfghbkcgommab.put3
set_option linter.unusedVariables false
set_option linter.unusedSimpArgs false
abbrev mt0 : Value := .agg #[.slice none 0 0, .slice none 0 0, .int .i64 0]
abbrev mc0 : Obj := .cells #[.slice none 0 0, .slice none 0 0, .int .i64 0] 53
end Go.Proofs.Ytkcfghbkcgommab.dp
