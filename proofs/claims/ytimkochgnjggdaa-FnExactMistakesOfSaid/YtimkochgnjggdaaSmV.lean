/-
  Proved: the views of samples that come in.
  Conditions: none.
-/
import Derived.Test.YtimkochgnjggdaaSmp
import Derived.Test.YtimkochgnjggdaaPeV
namespace Go.Proofs.Ytimkochgnjggdaa.smp
open Go.ChangeShapes Go.WideShapes Go.ChangeAt Go.RowKit Go.Joins
open Go.Proofs.Ytimkochgnjggdaa.core Go.Proofs.Ytimkochgnjggdaa.rown Go.Proofs.Ytimkochgnjggdaa.stk Go.Proofs.Ytimkochgnjggdaa.boxed Go.Proofs.Ytimkochgnjggdaa.ft Go.Proofs.Ytimkochgnjggdaa.one1 Go.Proofs.Ytimkochgnjggdaa.lab Go.Proofs.Ytimkochgnjggdaa.per
set_option linter.unusedVariables false
set_option linter.unusedSimpArgs false
def smN (g : Nat → Dat) : Nat := dLen (g 0)
def smS (g : Nat → Dat) (i : Nat) : ByteArray := dStr (dFun (g 0) i 0)
def smC (g : Nat → Dat) (i : Nat) : Nat := dLen (dFun (g 0) i 1)
def smF (g : Nat → Dat) (i j : Nat) : P3 := (dInt (dFun (dFun (g 0) i 1) j 0), dInt (dFun (dFun (g 0) i 1) j 1), dInt (dFun (dFun (g 0) i 1) j 2))
theorem reads_sm {W : World} {v : Value} {d : Dat} (h : Reads W v d) (ht : tySampleS d) (hq : cost d ≤ 1048576) :
    ∃ A c, v = .slice A (dLen d) c ∧ SmL (dLen d) (fun i => dStr (dFun d i 0)) (fun i => dLen (dFun d i 1)) ∧ SmAt W A (dLen d) (fun i => dStr (dFun d i 0)) (fun i => dLen (dFun d i 1)) (fun i j => (dInt (dFun (dFun d i 1) j 0), dInt (dFun (dFun d i 1) j 1), dInt (dFun (dFun d i 1) j 2))) := by
  have ht' := ht
  obtain ⟨n, f, rfl, hf⟩ := ht
  obtain ⟨A, c, hv, hn, hR⟩ := h.sl_inv
  have hc := le_cost n 2 f
  refine ⟨A, c, hv, ⟨by show n ≤ _; omega, fun i hi => ?_, fun i hi => ?_⟩, fun i hi => ?_⟩
  · have h1 := cost_at (f := f) (show i < n from hi) (show 0 < 2 by omega)
    obtain ⟨⟨s, e⟩, -⟩ := hf i hi
    show (dStr (f i 0)).size ≤ _
    rw [e] at h1 ⊢
    replace h1 : s.size ≤ cost (.sl n 2 f) := h1
    show s.size ≤ _
    unfold maxLen
    omega
  · have h1 := cost_at (f := f) (show i < n from hi) (show 1 < 2 by omega)
    obtain ⟨-, n0, f0, e0, -⟩ := hf i hi
    show dLen (f i 1) ≤ _
    rw [e0] at h1 ⊢
    have h2 := le_cost n0 3 f0
    show n0 ≤ 1048576
    omega
  · obtain ⟨b, o, e, hb, ⟨c0, -⟩, A1, c1, hc1, -, hR1, hT1⟩ := viewSampleS hR ht' i hi
    refine ⟨b, o, A1, c1, e, hb, c0, hc1, fun j hj => ?_⟩
    obtain ⟨b', o', e', hb', ⟨q0, -⟩, ⟨q1, -⟩, ⟨q2, -⟩⟩ := viewFeatS hR1 hT1 j hj
    exact ⟨b', o', e', hb', q0, q1, q2⟩
theorem reads_sms {W : World} {us : Nat → Value} {g : Nat → Dat} (h : ReadsRec W 1 us g) (ht : tyrSampleS g) (hq : costRec 1 g ≤ 1048576) :
    ∃ A c, us 0 = .slice A (smN g) c ∧ SmL (smN g) (smS g) (smC g) ∧ SmAt W A (smN g) (smS g) (smC g) (smF g) := by
  have hq0 : cost (g 0) ≤ 1048576 := by
    have := sumTo_lt (fun j => cost (g j)) (show 0 < 1 by omega)
    have e : costRec 1 g = sumTo (fun j => cost (g j)) 1 := rfl
    omega
  exact reads_sm (h 0 (by omega)) ht hq0
end Go.Proofs.Ytimkochgnjggdaa.smp
