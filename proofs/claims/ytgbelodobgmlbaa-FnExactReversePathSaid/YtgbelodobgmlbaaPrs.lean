/-
  Proved: a list of pairs that is read out of memory.
  Conditions: none.
-/
import Derived.Test.YtgbelodobgmlbaaFt
namespace Go.Proofs.Ytgbelodobgmlbaa.ft
open Go.ChangeShapes Go.WideShapes Go.ChangeAt Go.RowKit Go.Joins
open Go.Proofs.Ytgbelodobgmlbaa.core Go.Proofs.Ytgbelodobgmlbaa.rown Go.Proofs.Ytgbelodobgmlbaa.stk Go.Proofs.Ytgbelodobgmlbaa.boxed
set_option linter.unusedVariables false
set_option linter.unusedSimpArgs false
def prN (g : Nat → Dat) : Nat := dLen (g 0)
def prF (g : Nat → Dat) : Nat → P2 := fun i => (dInt (dFun (g 0) i 0), dInt (dFun (g 0) i 1))
theorem reads_prs {W : World} {us : Nat → Value} {g : Nat → Dat} (h : ReadsRec W 1 us g) (ht : tyrPairS g) (hq : costRec 1 g ≤ 1048576) :
    ∃ A c, us 0 = .slice A (prN g) c ∧ prN g ≤ 1048576 ∧ SpAt W A (prN g) (prF g) ∧ ∀ i, i < prN g → inI64 (prF g i).1 ∧ inI64 (prF g i).2 := by
  have ht' := ht
  obtain ⟨n, f, hg, hf⟩ := ht
  have h0 := h 0 (by omega)
  rw [hg] at h0
  obtain ⟨A, c, hv, hn, hR⟩ := h0.sl_inv
  have hT : tyPairS (.sl n 2 f) := ⟨n, f, rfl, hf⟩
  have e1 : prN g = n := by simp [prN, hg, dLen]
  have hc := le_cost n 2 f
  have hq' : cost (.sl n 2 f) ≤ 1048576 := by
    have e : costRec 1 g = cost (.sl n 2 f) := by simp [costRec, sumTo, hg]
    rw [← e]; exact hq
  refine ⟨A, c, by rw [hv, e1], by omega, fun i hi => ?_, fun i hi => ?_⟩
  · rw [e1] at hi
    obtain ⟨b, o, e, hb, ⟨c0, -⟩, ⟨c1, -⟩⟩ := viewPairS hR hT i hi
    refine ⟨b, o, e, hb, ?_, ?_⟩
    · rw [c0]; simp [prF, hg, dFun]
    · rw [c1]; simp [prF, hg, dFun]
  · rw [e1] at hi
    obtain ⟨b, o, e, hb, ⟨-, i0⟩, ⟨-, i1⟩⟩ := viewPairS hR hT i hi
    refine ⟨?_, ?_⟩
    · simpa [prF, hg, dFun] using i0
    · simpa [prF, hg, dFun] using i1
end Go.Proofs.Ytgbelodobgmlbaa.ft
