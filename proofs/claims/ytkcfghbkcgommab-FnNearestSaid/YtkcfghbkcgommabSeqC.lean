/-
  Proved: what the document's function that tells the cost of two features returns.
  Conditions: none.
-/
import Derived.Test.YtkcfghbkcgommabSeq
namespace Go.Proofs.Ytkcfghbkcgommab.seq
open Go.ChangeShapes Go.WideShapes Go.ChangeAt Go.RowKit Go.Joins
open Go.Proofs.Ytkcfghbkcgommab.core Go.Proofs.Ytkcfghbkcgommab.rown Go.Proofs.Ytkcfghbkcgommab.stk Go.Proofs.Ytkcfghbkcgommab.boxed Go.Proofs.Ytkcfghbkcgommab.ft
set_option linter.unusedVariables false
set_option linter.unusedSimpArgs false
def fcR (p q : P3) : Int := if inF p = true ∧ inF q = true then cst p q else 0
def fcE (p q : P3) : Int := if inF p = true ∧ inF q = true then 0 else 1
/-- A feature that is read out of memory. -/
def ftOf (g : Nat → Dat) : P3 := (dInt (g 0), dInt (g 1), dInt (g 2))
end Go.Proofs.Ytkcfghbkcgommab.seq
