/-
  Proved: what the program's function that tells the cost of matching two features returns.
  Conditions: none.
-/
import Derived.Test.YtghaddpicedenaaSeqI
namespace Go.Proofs.Ytghaddpicedenaa.seq
open Go.ChangeShapes Go.WideShapes Go.ChangeAt Go.RowKit Go.Joins
open Go.Proofs.Ytghaddpicedenaa.core Go.Proofs.Ytghaddpicedenaa.rown Go.Proofs.Ytghaddpicedenaa.stk Go.Proofs.Ytghaddpicedenaa.boxed Go.Proofs.Ytghaddpicedenaa.ft
set_option linter.unusedVariables false
set_option linter.unusedSimpArgs false
/-- Two features in memory. -/
abbrev TF (w : World) (g h : Nat) (p q : P3) (W : World) : Prop := W.cell? ⟨g, 0, none⟩ = some (.int .i64 p.1) ∧ W.cell? ⟨g, 1, none⟩ = some (.int .i64 p.2.1) ∧ W.cell? ⟨h, 0, none⟩ = some (.int .i64 q.1) ∧ W.cell? ⟨h, 1, none⟩ = some (.int .i64 q.2.1) ∧ Below w.heap.size w W
theorem TF_drew {w : World} {g h : Nat} {p q : P3} {W : World} (hh : TF w g h p q W) : TF w g h p q W.drew := ⟨hh.1, hh.2.1, hh.2.2.1, hh.2.2.2.1, hh.2.2.2.2.drew⟩
end Go.Proofs.Ytghaddpicedenaa.seq
