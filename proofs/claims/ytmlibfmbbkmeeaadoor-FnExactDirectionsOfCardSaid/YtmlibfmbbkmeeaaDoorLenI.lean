/-
  Proved: what the program's function that tells a stroke's length returns.
  Conditions: the points are in their range, and no more than 60.
-/
import Derived.Test.YtmlibfmbbkmeeaaDoorSegs
namespace Go.Proofs.YtmlibfmbbkmeeaaDoor.lenI
open Go.ChangeShapes Go.WideShapes Go.ChangeAt Go.RowKit Go.Joins
open Go.Proofs.YtmlibfmbbkmeeaaDoor.core Go.Proofs.YtmlibfmbbkmeeaaDoor.geoM Go.Proofs.YtmlibfmbbkmeeaaDoor.stk Go.Proofs.YtmlibfmbbkmeeaaDoor.seg Go.Proofs.YtmlibfmbbkmeeaaDoor.side Go.Proofs.YtmlibfmbbkmeeaaDoor.all Go.Proofs.YtmlibfmbbkmeeaaDoor.lenS Go.Proofs.YtmlibfmbbkmeeaaDoor.segs
set_option linter.unusedVariables false
set_option linter.unusedSimpArgs false

set_option maxRecDepth 100000 in
set_option maxHeartbeats 2000000 in
theorem le_cost (n k : Nat) (f : Nat → Nat → Dat) : n ≤ cost (.sl n k f) := by
  simp only [cost]
  omega
/-- The points of a stroke that is read out of memory. -/
def strN (g : Nat → Dat) : Nat := dLen (g 0)
def strP (g : Nat → Dat) : Nat → P3 := fun i => (dInt (dFun (g 0) i 0), dInt (dFun (g 0) i 1), dInt (dFun (g 0) i 2))
theorem reads_str {W : World} {us : Nat → Value} {g : Nat → Dat} (h : ReadsRec W 1 us g) (ht : tyrStroke g) (hq : costRec 1 g ≤ 1048576) :
    ∃ A c, (.agg #[us 0] : Value) = .agg #[.slice A (strN g) c] ∧ strN g ≤ 1048576 ∧ PtsAt W A (strN g) (strP g) := by
  have ht' := ht
  obtain ⟨n, f, hg, hf⟩ := ht
  have h0 := h 0 (by omega)
  rw [hg] at h0
  obtain ⟨A, c, hv, hn, hR⟩ := h0.sl_inv
  have hT : tyPointS (.sl n 3 f) := ⟨n, f, rfl, hf⟩
  have e1 : strN g = n := by simp [strN, hg, dLen]
  have hc := le_cost n 3 f
  have hq' : cost (.sl n 3 f) ≤ 1048576 := by
    have e : costRec 1 g = cost (.sl n 3 f) := by simp [costRec, sumTo, hg]
    rw [← e]; exact hq
  refine ⟨A, c, by rw [hv, e1], by omega, fun i hi => ?_⟩
  rw [e1] at hi
  obtain ⟨b, o, e, hb, ⟨c0, -⟩, ⟨c1, -⟩, ⟨c2, -⟩⟩ := viewPointS hR hT i hi
  refine ⟨b, o, e, hb, ?_, ?_, ?_⟩
  · rw [c0]; simp [strP, hg, dFun]
  · rw [c1]; simp [strP, hg, dFun]
  · rw [c2]; simp [strP, hg, dFun]
theorem vS_rg {n : Nat} {pts : Nat → P3} (h : vS n pts = true) : ∀ i, i < n → Rg (pts i) := fun i hi => inP_rg (p := pts i) ((vS_of h).2.2 i hi).1
end Go.Proofs.YtmlibfmbbkmeeaaDoor.lenI
