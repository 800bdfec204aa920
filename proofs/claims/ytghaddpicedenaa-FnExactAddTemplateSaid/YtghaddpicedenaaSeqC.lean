/-
  Proved: what the document's function that tells the cost of two features returns.
  Conditions: none.
-/
import Derived.Test.YtghaddpicedenaaSeq
namespace Go.Proofs.Ytghaddpicedenaa.seq
open Go.ChangeShapes Go.WideShapes Go.ChangeAt Go.RowKit Go.Joins
open Go.Proofs.Ytghaddpicedenaa.core Go.Proofs.Ytghaddpicedenaa.rown Go.Proofs.Ytghaddpicedenaa.stk Go.Proofs.Ytghaddpicedenaa.boxed Go.Proofs.Ytghaddpicedenaa.ft
set_option linter.unusedVariables false
set_option linter.unusedSimpArgs false
def fcR (p q : P3) : Int := if inF p = true ∧ inF q = true then cst p q else 0
def fcE (p q : P3) : Int := if inF p = true ∧ inF q = true then 0 else 1
/-- A feature that is read out of memory. -/
def ftOf (g : Nat → Dat) : P3 := (dInt (g 0), dInt (g 1), dInt (g 2))
theorem reads_ft {W : World} {us : Nat → Value} {g : Nat → Dat} (h : ReadsRec W 3 us g) (ht : tyrFeat g) : (.agg #[us 0, us 1, us 2] : Value) = pv (ftOf g) := by
  obtain ⟨⟨x, hx⟩, ⟨y, hy⟩, ⟨z, hz⟩⟩ := ht
  have h0 := h 0 (by omega)
  have h1 := h 1 (by omega)
  have h2 := h 2 (by omega)
  rw [hx] at h0
  rw [hy] at h1
  rw [hz] at h2
  rw [h0.int_inv.1, h1.int_inv.1, h2.int_inv.1]
  simp [ftOf, hx, hy, hz, dInt]
end Go.Proofs.Ytghaddpicedenaa.seq
