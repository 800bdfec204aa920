/-
  Proved: what the document's function that tests a list, lists and a band returns; what the document's search for the nearest list returns.
  Conditions: those of each theorem.
-/
import Derived.Test.YtghaddpicedenaaBoundS
namespace Go.Proofs.Ytghaddpicedenaa.env
open Go.ChangeShapes Go.WideShapes Go.ChangeAt Go.RowKit Go.Joins
open Go.Proofs.Ytghaddpicedenaa.core Go.Proofs.Ytghaddpicedenaa.rown Go.Proofs.Ytghaddpicedenaa.stk Go.Proofs.Ytghaddpicedenaa.boxed Go.Proofs.Ytghaddpicedenaa.ft Go.Proofs.Ytghaddpicedenaa.seq Go.Proofs.Ytghaddpicedenaa.tab
set_option linter.unusedVariables false
set_option linter.unusedSimpArgs false
/-- A list of lists of features. -/
def LsAt (w : World) (A : Option Addr) (n : Nat) (ln : Nat → Nat) (lf : Nat → Nat → P3) : Prop :=
  ∀ i, i < n → ∃ (b o : Nat) (Ai : Option Addr) (ci : Nat), A = some ⟨b, o, none⟩ ∧ b < w.heap.size ∧ w.cell? ⟨b, o + i, none⟩ = some (.slice Ai (ln i) ci) ∧ PtsAt w Ai (ln i) (lf i)
theorem LsAt.kept {w w' : World} {A : Option Addr} {n : Nat} {ln : Nat → Nat} {lf : Nat → Nat → P3} (h : LsAt w A n ln lf) (hb : Below w.heap.size w w') : LsAt w' A n ln lf := fun i hi => by
  obtain ⟨b, o, Ai, ci, e, h1, h2, h3⟩ := h i hi
  exact ⟨b, o, Ai, ci, e, Nat.lt_of_lt_of_le h1 hb.size, (hb.cell (p := ⟨b, o + i, none⟩) h1).trans h2, h3.kept hb⟩
/-- All lists are valid, and there are not too many. -/
def LiOk (na : Nat) (fa : Nat → P3) (n : Nat) (ln : Nat → Nat) (lf : Nat → Nat → P3) : Prop := okQ na fa = true ∧ n ≤ 40 ∧ ∀ i, i < n → okQ (ln i) (lf i) = true
noncomputable def liOk (na : Nat) (fa : Nat → P3) (n : Nat) (ln : Nat → Nat) (lf : Nat → Nat → P3) : Bool := @decide (LiOk na fa n ln lf) (Classical.propDecidable _)
theorem li_iff {na : Nat} {fa : Nat → P3} {n : Nat} {ln : Nat → Nat} {lf : Nat → Nat → P3} : liOk na fa n ln lf = true ↔ LiOk na fa n ln lf := by unfold liOk; exact @decide_eq_true_iff _ (Classical.propDecidable _)
noncomputable def liC (na : Nat) (fa : Nat → P3) (n : Nat) (ln : Nat → Nat) (lf : Nat → Nat → P3) (band : Int) : Int := if liOk na fa n ln lf = true then (if 0 ≤ band ∧ band ≤ 72 then 0 else 2) else 1
theorem liC_of {na : Nat} {fa : Nat → P3} {n : Nat} {ln : Nat → Nat} {lf : Nat → Nat → P3} {band : Int} (h : liC na fa n ln lf band = 0) : LiOk na fa n ln lf ∧ 0 ≤ band ∧ band ≤ 72 := by
  unfold liC at h
  split at h
  · rename_i h1
    split at h
    · rename_i h2; exact ⟨li_iff.1 h1, h2⟩
    · cases h
  · cases h
theorem liC_any (na : Nat) (fa : Nat → P3) (n : Nat) (ln : Nat → Nat) (lf : Nat → Nat → P3) (band : Int) : liC na fa n ln lf band = 0 ∨ liC na fa n ln lf band = 1 ∨ liC na fa n ln lf band = 2 := by
  unfold liC; split <;> (try split) <;> simp
end Go.Proofs.Ytghaddpicedenaa.env

namespace Go.Proofs.Ytghaddpicedenaa.env

open Go.ChangeShapes Go.WideShapes Go.ChangeAt Go.RowKit Go.Joins

open Go.Proofs.Ytghaddpicedenaa.core Go.Proofs.Ytghaddpicedenaa.rown Go.Proofs.Ytghaddpicedenaa.stk Go.Proofs.Ytghaddpicedenaa.boxed Go.Proofs.Ytghaddpicedenaa.ft Go.Proofs.Ytghaddpicedenaa.seq Go.Proofs.Ytghaddpicedenaa.tab
set_option linter.unusedVariables false
set_option linter.unusedSimpArgs false
def costL (na : Nat) (fa : Nat → P3) (ln : Nat → Nat) (lf : Nat → Nat → P3) (band : Int) (i : Nat) : Int := leastE na (ln i) fa (lf i) band
def takes (na : Nat) (ln : Nat → Nat) (band : Int) (i : Nat) : Bool := bandOk (na : Int) (ln i : Int) band
/-- The search so far: which list is the nearest one, and its cost. -/
def nst (na : Nat) (fa : Nat → P3) (ln : Nat → Nat) (lf : Nat → Nat → P3) (band : Int) : Nat → Int × Int
  | 0 => (-1, 0)
  | i + 1 => if takes na ln band i = true then (if (nst na fa ln lf band i).1 < 0 ∨ costL na fa ln lf band i < (nst na fa ln lf band i).2 then ((i : Int), costL na fa ln lf band i) else nst na fa ln lf band i) else nst na fa ln lf band i
noncomputable def nearR (na : Nat) (fa : Nat → P3) (n : Nat) (ln : Nat → Nat) (lf : Nat → Nat → P3) (band : Int) : Int × Int × Int :=
  if liC na fa n ln lf band = 0 then (if (nst na fa ln lf band n).1 < 0 then (0, 0, 3) else ((nst na fa ln lf band n).1, (nst na fa ln lf band n).2, 0)) else (0, 0, liC na fa n ln lf band)
end Go.Proofs.Ytghaddpicedenaa.env
