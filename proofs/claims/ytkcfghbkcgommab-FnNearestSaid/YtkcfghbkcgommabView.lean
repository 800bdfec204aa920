/-
  Proved: the cells of a row of a list that is read, by their places.
  Conditions: none.
-/
import Derived.Test.YtkcfghbkcgommabRec
namespace Go.Proofs.Ytkcfghbkcgommab.core
open Go.ChangeShapes Go.WideShapes Go.ChangeAt Go.RowKit Go.Joins
set_option linter.unusedVariables false
set_option linter.unusedSimpArgs false

def dInt : Dat → Int
  | .int n => n
  | _ => 0
def dStr : Dat → ByteArray
  | .str s => s
  | _ => ⟨#[]⟩
def dLen : Dat → Nat
  | .sl n _ _ => n
  | _ => 0
def dFun : Dat → Nat → Nat → Dat
  | .sl _ _ f => f
  | _ => fun _ _ => .int 0

end Go.Proofs.Ytkcfghbkcgommab.core
