/-
  Proved: the views of a perceptron that comes in.
  Conditions: none.
-/
import Derived.Test.YtimkochgnjggdaaPerW
import Derived.Test.YtimkochgnjggdaaView
namespace Go.Proofs.Ytimkochgnjggdaa.per
open Go.ChangeShapes Go.WideShapes Go.ChangeAt Go.RowKit Go.Joins
open Go.Proofs.Ytimkochgnjggdaa.core Go.Proofs.Ytimkochgnjggdaa.rown Go.Proofs.Ytimkochgnjggdaa.stk Go.Proofs.Ytimkochgnjggdaa.boxed Go.Proofs.Ytimkochgnjggdaa.ft Go.Proofs.Ytimkochgnjggdaa.one1 Go.Proofs.Ytimkochgnjggdaa.lab
set_option linter.unusedVariables false
set_option linter.unusedSimpArgs false
def peN (g : Nat → Dat) : Nat := dLen (g 0)
def peS (g : Nat → Dat) (i : Nat) : ByteArray := dStr (dFun (g 0) i 0)
def peM (g : Nat → Dat) : Nat := dLen (g 1)
def peW (g : Nat → Dat) (i : Nat) : Nat := dLen (dFun (g 1) i 0)
def peF (g : Nat → Dat) (i j : Nat) : Int := dInt (dFun (dFun (g 1) i 0) j 0)
theorem cost_at {n k : Nat} {f : Nat → Nat → Dat} {i j : Nat} (hi : i < n) (hj : j < k) : cost (f i j) ≤ cost (.sl n k f) := by
  have h1 := sumTo_lt (fun a => cost (f i a)) hj
  have h2 := sumTo_lt (fun a => sumTo (fun b => cost (f a b)) k) hi
  simp only [cost]
  omega
theorem reads_ss {W : World} {v : Value} {d : Dat} (h : Reads W v d) (ht : tyStringS d) (hq : cost d ≤ 1048576) :
    ∃ A c, v = .slice A (dLen d) c ∧ dLen d ≤ c ∧ dLen d ≤ 1048576 ∧ (∀ i, i < dLen d → (dStr (dFun d i 0)).size ≤ 1048576) ∧ SsAt W A (dLen d) (fun i => dStr (dFun d i 0)) := by
  have ht' := ht
  obtain ⟨n, f, rfl, hf⟩ := ht
  obtain ⟨A, c, hv, hn, hR⟩ := h.sl_inv
  have hcap : n ≤ c := by rw [hv] at h; exact h.cap
  have hc := le_cost n 1 f
  refine ⟨A, c, hv, hcap, by show n ≤ _; omega, fun i hi => ?_, fun i hi => ?_⟩
  · have h1 := cost_at (f := f) (show i < n from hi) (show 0 < 1 by omega)
    obtain ⟨s, e⟩ := hf i hi
    show (dStr (f i 0)).size ≤ _
    rw [e] at h1 ⊢
    replace h1 : s.size ≤ cost (.sl n 1 f) := h1
    show s.size ≤ _
    omega
  · obtain ⟨b, o, e, hb, c0, -⟩ := viewStringS hR ht' i hi
    exact ⟨b, o, e, hb, c0⟩
theorem reads_nn {W : World} {v : Value} {d : Dat} (h : Reads W v d) (ht : tyInt64S d) : ∃ A c, v = .slice A (dLen d) c ∧ dLen d ≤ cost d ∧ NumAt W A (dLen d) (fun i => dInt (dFun d i 0)) := by
  have ht' := ht
  obtain ⟨n, f, rfl, hf⟩ := ht
  obtain ⟨A, c, hv, hn, hR⟩ := h.sl_inv
  have hc := le_cost n 1 f
  exact ⟨A, c, hv, hc, fun i hi => by
    obtain ⟨b, o, e, hb, ⟨c0, -⟩⟩ := viewInt64S hR ht' i hi
    exact ⟨b, o, e, hb, c0⟩⟩
theorem reads_ww {W : World} {v : Value} {d : Dat} (h : Reads W v d) (ht : tyInt64SS d) (hq : cost d ≤ 1048576) :
    ∃ A c, v = .slice A (dLen d) c ∧ dLen d ≤ c ∧ dLen d ≤ 1048576 ∧ (∀ i, i < dLen d → dLen (dFun d i 0) ≤ 1048576) ∧ WsAt W A (dLen d) (fun i => dLen (dFun d i 0)) (fun i j => dInt (dFun (dFun d i 0) j 0)) := by
  have ht' := ht
  obtain ⟨n, f, rfl, hf⟩ := ht
  obtain ⟨A, c, hv, hn, hR⟩ := h.sl_inv
  have hcap : n ≤ c := by rw [hv] at h; exact h.cap
  have hc := le_cost n 1 f
  refine ⟨A, c, hv, hcap, by show n ≤ _; omega, fun i hi => ?_, fun i hi => ?_⟩
  · have h1 := cost_at (f := f) (show i < n from hi) (show 0 < 1 by omega)
    obtain ⟨n0, f0, e0, -⟩ := hf i hi
    show dLen (f i 0) ≤ _
    rw [e0] at h1 ⊢
    have h2 := le_cost n0 1 f0
    show n0 ≤ 1048576
    omega
  · obtain ⟨b, o, e, hb, A0, c0, hcell, -, hR0, hT0⟩ := viewInt64SS hR ht' i hi
    refine ⟨b, o, A0, c0, e, hb, hcell, fun j hj => ?_⟩
    obtain ⟨b', o', e', hb', ⟨q0, -⟩⟩ := viewInt64S hR0 hT0 j hj
    exact ⟨b', o', e', hb', q0⟩
theorem reads_per {W : World} {us : Nat → Value} {g : Nat → Dat} (h : ReadsRec W 2 us g) (ht : tyrPerceptron g) (hq : costRec 2 g ≤ 1048576) :
    ∃ A c B d, us 0 = .slice A (peN g) c ∧ us 1 = .slice B (peM g) d ∧ peN g ≤ c ∧ peM g ≤ d ∧ PeL (peN g) (peM g) (peS g) (peW g) ∧ SsAt W A (peN g) (peS g) ∧ WsAt W B (peM g) (peW g) (peF g) := by
  obtain ⟨t0, t1⟩ := ht
  have hq0 : cost (g 0) ≤ 1048576 := by
    have := sumTo_lt (fun j => cost (g j)) (show 0 < 2 by omega)
    have e : costRec 2 g = sumTo (fun j => cost (g j)) 2 := rfl
    omega
  have hq1 : cost (g 1) ≤ 1048576 := by
    have := sumTo_lt (fun j => cost (g j)) (show 1 < 2 by omega)
    have e : costRec 2 g = sumTo (fun j => cost (g j)) 2 := rfl
    omega
  obtain ⟨A, c, e0, h1, h2, h3, h4⟩ := reads_ss (h 0 (by omega)) t0 hq0
  obtain ⟨B, d, e1, k1, k2, k3, k4⟩ := reads_ww (h 1 (by omega)) t1 hq1
  exact ⟨A, c, B, d, e0, e1, h1, k1, ⟨h2, k2, fun i hi => Nat.le_trans (h3 i hi) (by unfold maxLen; omega), k3⟩, h4, k4⟩
end Go.Proofs.Ytimkochgnjggdaa.per
