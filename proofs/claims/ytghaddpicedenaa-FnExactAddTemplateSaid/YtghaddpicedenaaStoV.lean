/-
  Proved: what a store that is read holds (views).
  Conditions: none.
-/
import Derived.Test.YtghaddpicedenaaSto
import Derived.Test.YtghaddpicedenaaView
namespace Go.Proofs.Ytghaddpicedenaa.sto
open Go.ChangeShapes Go.WideShapes Go.ChangeAt Go.RowKit Go.Joins
open Go.Proofs.Ytghaddpicedenaa.core Go.Proofs.Ytghaddpicedenaa.rown Go.Proofs.Ytghaddpicedenaa.stk Go.Proofs.Ytghaddpicedenaa.boxed Go.Proofs.Ytghaddpicedenaa.ft Go.Proofs.Ytghaddpicedenaa.seq Go.Proofs.Ytghaddpicedenaa.lab
set_option linter.unusedVariables false
set_option linter.unusedSimpArgs false
def stD (g : Nat → Dat) : Int := dInt (g 0)
def stN (g : Nat → Dat) : Nat := dLen (g 1)
def stL (g : Nat → Dat) (i : Nat) : ByteArray := dStr (dFun (g 1) i 0)
def stC (g : Nat → Dat) (i : Nat) : Nat := dLen (dFun (g 1) i 1)
def stF (g : Nat → Dat) (i j : Nat) : P3 := (dInt (dFun (dFun (g 1) i 1) j 0), dInt (dFun (dFun (g 1) i 1) j 1), dInt (dFun (dFun (g 1) i 1) j 2))
theorem cost_at {n k : Nat} {f : Nat → Nat → Dat} {i j : Nat} (hi : i < n) (hj : j < k) : cost (f i j) ≤ cost (.sl n k f) := by
  have h1 := sumTo_lt (fun a => sumTo (fun j => cost (f a j)) k) hi
  have h2 := sumTo_lt (fun j => cost (f i j)) hj
  simp only [cost]
  omega
theorem reads_ts {W : World} {v : Value} {d : Dat} (h : Reads W v d) (ht : tyTemplateS d) (hq : cost d ≤ 1048576) :
    ∃ A c, v = .slice A (dLen d) c ∧ TsL (dLen d) (fun i => dStr (dFun d i 0)) (fun i => dLen (dFun d i 1)) ∧ TsAt W A (dLen d) (fun i => dStr (dFun d i 0)) (fun i => dLen (dFun d i 1)) (fun i j => (dInt (dFun (dFun d i 1) j 0), dInt (dFun (dFun d i 1) j 1), dInt (dFun (dFun d i 1) j 2))) := by
  have ht' := ht
  obtain ⟨n, f, rfl, hf⟩ := ht
  obtain ⟨A, c, hv, hn, hR⟩ := h.sl_inv
  have hc := le_cost n 2 f
  refine ⟨A, c, hv, ⟨by show n ≤ _; omega, fun i hi => ?_, fun i hi => ?_⟩, fun i hi => ?_⟩
  · have h1 := cost_at (f := f) (show i < n from hi) (show 0 < 2 by omega)
    obtain ⟨⟨s, e⟩, -⟩ := hf i hi
    show (dStr (f i 0)).size ≤ _
    rw [e] at h1 ⊢
    replace h1 : s.size ≤ cost (.sl n 2 f) := h1
    show s.size ≤ _
    omega
  · have h1 := cost_at (f := f) (show i < n from hi) (show 1 < 2 by omega)
    obtain ⟨-, n0, f0, e0, -⟩ := hf i hi
    show dLen (f i 1) ≤ _
    rw [e0] at h1 ⊢
    have h2 := le_cost n0 3 f0
    show n0 ≤ 1048576
    omega
  · obtain ⟨b, o, e, hb, ⟨c0, -⟩, A1, c1, hc1, -, hR1, hT1⟩ := viewTemplateS hR ht' i hi
    refine ⟨b, o, A1, c1, e, hb, c0, hc1, fun j hj => ?_⟩
    obtain ⟨b', o', e', hb', ⟨q0, -⟩, ⟨q1, -⟩, ⟨q2, -⟩⟩ := viewFeatS hR1 hT1 j hj
    exact ⟨b', o', e', hb', q0, q1, q2⟩
theorem reads_sto {W : World} {us : Nat → Value} {g : Nat → Dat} (h : ReadsRec W 2 us g) (ht : tyrStore g) (hq : costRec 2 g ≤ 1048576) :
    ∃ A c, us 0 = .int .i64 (stD g) ∧ us 1 = .slice A (stN g) c ∧ inI64 (stD g) ∧ TsL (stN g) (stL g) (stC g) ∧ TsAt W A (stN g) (stL g) (stC g) (stF g) := by
  obtain ⟨⟨z, e0⟩, ht1⟩ := ht
  have h0 := h 0 (by omega)
  rw [e0] at h0
  obtain ⟨hv0, hz⟩ := h0.int_inv
  have hq1 : cost (g 1) ≤ 1048576 := by
    have := sumTo_lt (fun j => cost (g j)) (show 1 < 2 by omega)
    have e : costRec 2 g = sumTo (fun j => cost (g j)) 2 := rfl
    omega
  obtain ⟨A, c, hv, hl, hp⟩ := reads_ts (h 1 (by omega)) ht1 hq1
  have e : stD g = z := by unfold stD; rw [e0]; rfl
  exact ⟨A, c, by rw [hv0, e], hv, by rw [e]; exact hz, hl, hp⟩
end Go.Proofs.Ytghaddpicedenaa.sto
