/-
  Proved: what the document's function that returns an envelope returns.
  Conditions: none.
-/
import Derived.Test.YthpmckfjlbiiiabBoundS
namespace Go.Proofs.Ythpmckfjlbiiiab.env
open Go.ChangeShapes Go.WideShapes Go.ChangeAt Go.RowKit Go.Joins
open Go.Proofs.Ythpmckfjlbiiiab.core Go.Proofs.Ythpmckfjlbiiiab.rown Go.Proofs.Ythpmckfjlbiiiab.stk Go.Proofs.Ythpmckfjlbiiiab.boxed Go.Proofs.Ythpmckfjlbiiiab.ft Go.Proofs.Ythpmckfjlbiiiab.seq Go.Proofs.Ythpmckfjlbiiiab.tab
set_option linter.unusedVariables false
set_option linter.unusedSimpArgs false
/-- The code of a list, a number of elements and a band. -/
noncomputable def envC (m : Nat) (fb : Nat → P3) (n band : Int) : Int := if okQ m fb = true then (if (1 ≤ n ∧ n ≤ 72) ∧ bandOk n m band = true then 0 else 2) else 1
theorem envC_of {m : Nat} {fb : Nat → P3} {n band : Int} (h : envC m fb n band = 0) : okQ m fb = true ∧ (1 ≤ n ∧ n ≤ 72) ∧ (0 ≤ band ∧ band ≤ 72) ∧ absv (n - (m : Int)) ≤ band := by
  unfold envC at h
  split at h
  · rename_i h1
    split at h
    · rename_i h2
      have := of_decide_eq_true h2.2
      exact ⟨h1, h2.1, this.1, this.2⟩
    · cases h
  · cases h
end Go.Proofs.Ythpmckfjlbiiiab.env
