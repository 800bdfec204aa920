/-
  Proved: the marks that were left are found again (contracts of callees of the exact laws).
  Conditions: the marks are read out of memory.
-/
import Derived.Test.YtkcfghbkcgommabMark
import Derived.Test.YtkcfghbkcgommabEq
namespace Go.Proofs.Ytkcfghbkcgommab.core
open Go.ChangeShapes Go.WideShapes Go.ChangeAt Go.RowKit Go.Joins
set_option linter.unusedVariables false
set_option linter.unusedSimpArgs false

theorem rows_of {w : World} {A : Option Addr} {n c k K : Nat} {f : Nat → Nat → Dat} (h : Reads w (.slice A n c) (mark mt (.sl n k f) K)) : RowsAt w A n k (fun i j => mark mt (f i j) (K + pre (fun a b => cnt (f a b)) k i j)) := by
  obtain ⟨A', c', e, _, hr⟩ := Reads.sl_inv h
  cases e
  exact hr

end Go.Proofs.Ytkcfghbkcgommab.core
