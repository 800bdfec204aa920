/-
  Proved: what the document's function that turns a path round returns.
  Conditions: none.
-/
import Derived.Test.YthpmckfjlbiiiabTabD
namespace Go.Proofs.Ythpmckfjlbiiiab.path
open Go.ChangeShapes Go.WideShapes Go.ChangeAt Go.RowKit Go.Joins
open Go.Proofs.Ythpmckfjlbiiiab.core Go.Proofs.Ythpmckfjlbiiiab.rown Go.Proofs.Ythpmckfjlbiiiab.stk Go.Proofs.Ythpmckfjlbiiiab.boxed Go.Proofs.Ythpmckfjlbiiiab.ft Go.Proofs.Ythpmckfjlbiiiab.seq
set_option linter.unusedVariables false
set_option linter.unusedSimpArgs false
theorem infoPair : (Try.prog.info? 59).map (fun i => (i.zero, i.size, i.bytes)) = some (some (.agg #[.int .i64 0, .int .i64 0]), 2, 16) := by kernel_rfl
/-- The path can be turned round: its last pair tells the sizes of both lists. -/
noncomputable def revOk (k : Nat) (f : Nat → P2) : Bool := @decide (0 < k ∧ (0 ≤ (f (k - 1)).1 ∧ (f (k - 1)).1 ≤ 71) ∧ (0 ≤ (f (k - 1)).2 ∧ (f (k - 1)).2 ≤ 71) ∧ okPath k f ((f (k - 1)).1 + 1) ((f (k - 1)).2 + 1) 72 = true) (Classical.propDecidable _)
theorem revOk_of {k : Nat} {f : Nat → P2} (h : revOk k f = true) : 0 < k ∧ (0 ≤ (f (k - 1)).1 ∧ (f (k - 1)).1 ≤ 71) ∧ (0 ≤ (f (k - 1)).2 ∧ (f (k - 1)).2 ≤ 71) ∧ okPath k f ((f (k - 1)).1 + 1) ((f (k - 1)).2 + 1) 72 = true := by
  unfold revOk at h; exact @of_decide_eq_true _ (Classical.propDecidable _) h
theorem revOk_true {k : Nat} {f : Nat → P2} (h : 0 < k ∧ (0 ≤ (f (k - 1)).1 ∧ (f (k - 1)).1 ≤ 71) ∧ (0 ≤ (f (k - 1)).2 ∧ (f (k - 1)).2 ≤ 71) ∧ okPath k f ((f (k - 1)).1 + 1) ((f (k - 1)).2 + 1) 72 = true) : revOk k f = true := by
  unfold revOk; exact @decide_eq_true _ (Classical.propDecidable _) h
/-- The pair that stands at a place of the path that is turned round. -/
def revAt (k : Nat) (f : Nat → P2) (j : Nat) : P2 := ((f (k - 1)).1 - (f (k - 1 - j)).1, (f (k - 1)).2 - (f (k - 1 - j)).2)
end Go.Proofs.Ythpmckfjlbiiiab.path
