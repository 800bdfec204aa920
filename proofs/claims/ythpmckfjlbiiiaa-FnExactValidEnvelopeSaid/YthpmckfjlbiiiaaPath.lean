/-
  Proved: the document's function that tells whether pairs are a path answers as the document's definition.
  Conditions: the numbers of elements are positive.
-/
import Derived.Test.YthpmckfjlbiiiaaSeq
namespace Go.Proofs.Ythpmckfjlbiiiaa.path
open Go.ChangeShapes Go.WideShapes Go.ChangeAt Go.RowKit Go.Joins
open Go.Proofs.Ythpmckfjlbiiiaa.core Go.Proofs.Ythpmckfjlbiiiaa.rown Go.Proofs.Ythpmckfjlbiiiaa.stk Go.Proofs.Ythpmckfjlbiiiaa.boxed Go.Proofs.Ythpmckfjlbiiiaa.ft Go.Proofs.Ythpmckfjlbiiiaa.seq
set_option linter.unusedVariables false
set_option linter.unusedSimpArgs false
/-- One pair lies within the lists and the band. -/
def inP (n m band : Int) (p : P2) : Prop := (0 ≤ p.1 ∧ p.1 ≤ n - 1) ∧ (0 ≤ p.2 ∧ p.2 ≤ m - 1) ∧ absv (p.1 - p.2) ≤ band
/-- One pair follows another one. -/
def stepP (q p : P2) : Prop := (0 ≤ p.1 - q.1 ∧ p.1 - q.1 ≤ 1) ∧ (0 ≤ p.2 - q.2 ∧ p.2 - q.2 ≤ 1) ∧ ¬ (p.1 = q.1 ∧ p.2 = q.2)
def okAt (f : Nat → P2) (n m band : Int) (x : Nat) : Prop := inP n m band (f x) ∧ (0 < x → stepP (f (x - 1)) (f x))
/-- The k pairs are a path for n and m elements, within the band. -/
noncomputable def okPath (k : Nat) (f : Nat → P2) (n m band : Int) : Bool := @decide (0 < k ∧ ((f 0).1 = 0 ∧ (f 0).2 = 0) ∧ ((f (k - 1)).1 = n - 1 ∧ (f (k - 1)).2 = m - 1) ∧ ∀ x, x < k → okAt f n m band x) (Classical.propDecidable _)
theorem okPath_true {k : Nat} {f : Nat → P2} {n m band : Int} (h : 0 < k ∧ ((f 0).1 = 0 ∧ (f 0).2 = 0) ∧ ((f (k - 1)).1 = n - 1 ∧ (f (k - 1)).2 = m - 1) ∧ ∀ x, x < k → okAt f n m band x) : okPath k f n m band = true := by
  unfold okPath; exact @decide_eq_true _ (Classical.propDecidable _) h
theorem okPath_of {k : Nat} {f : Nat → P2} {n m band : Int} (h : okPath k f n m band = true) : 0 < k ∧ ((f 0).1 = 0 ∧ (f 0).2 = 0) ∧ ((f (k - 1)).1 = n - 1 ∧ (f (k - 1)).2 = m - 1) ∧ ∀ x, x < k → okAt f n m band x := by
  unfold okPath at h; exact @of_decide_eq_true _ (Classical.propDecidable _) h
theorem okPath_no {k : Nat} {f : Nat → P2} {n m band : Int} (h : ¬ (0 < k ∧ ((f 0).1 = 0 ∧ (f 0).2 = 0) ∧ ((f (k - 1)).1 = n - 1 ∧ (f (k - 1)).2 = m - 1) ∧ ∀ x, x < k → okAt f n m band x)) : okPath k f n m band = false := by
  unfold okPath; exact @decide_eq_false _ (Classical.propDecidable _) h
theorem okPath_at {k : Nat} {f : Nat → P2} {n m band : Int} (x : Nat) (hx : x < k) (h : ¬ okAt f n m band x) : okPath k f n m band = false := okPath_no fun ⟨_, _, _, c⟩ => h (c x hx)
end Go.Proofs.Ythpmckfjlbiiiaa.path
