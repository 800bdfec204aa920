/-
  Proved: what the document's functions that tell the least cost of matching two sequences return.
  Conditions: none.
-/
import Derived.Test.YtghaddpicedenaaTab
namespace Go.Proofs.Ytghaddpicedenaa.tab
open Go.ChangeShapes Go.WideShapes Go.ChangeAt Go.RowKit Go.Joins
open Go.Proofs.Ytghaddpicedenaa.core Go.Proofs.Ytghaddpicedenaa.rown Go.Proofs.Ytghaddpicedenaa.stk Go.Proofs.Ytghaddpicedenaa.boxed Go.Proofs.Ytghaddpicedenaa.ft Go.Proofs.Ytghaddpicedenaa.seq
set_option linter.unusedVariables false
set_option linter.unusedSimpArgs false
/-- The least cost is the last one of the table. -/
def leastE (na nb : Nat) (fa fb : Nat → P3) (band : Int) : Int := tab fa fb band (na - 1) (nb - 1)
/-- The code of two lists and a band. -/
noncomputable def elC (na nb : Nat) (fa fb : Nat → P3) (band : Int) : Int := if okQ na fa = true ∧ okQ nb fb = true then (if (0 ≤ band ∧ band ≤ 72) ∧ absv ((na : Int) - (nb : Int)) ≤ band then 0 else 2) else 1
theorem el_of {na nb : Nat} {fa fb : Nat → P3} {band : Int} (h : elC na nb fa fb band = 0) : okQ na fa = true ∧ okQ nb fb = true ∧ (0 ≤ band ∧ band ≤ 72) ∧ absv ((na : Int) - (nb : Int)) ≤ band := by
  unfold elC at h
  split at h
  · rename_i h1
    split at h
    · rename_i h2; exact ⟨h1.1, h1.2, h2.1, h2.2⟩
    · cases h
  · cases h
theorem el_any (na nb : Nat) (fa fb : Nat → P3) (band : Int) : elC na nb fa fb band = 0 ∨ elC na nb fa fb band = 1 ∨ elC na nb fa fb band = 2 := by
  unfold elC; split <;> (try split) <;> simp
noncomputable def elR (na nb : Nat) (fa fb : Nat → P3) (band : Int) : Int := if elC na nb fa fb band = 0 then leastE na nb fa fb band else 0
end Go.Proofs.Ytghaddpicedenaa.tab
