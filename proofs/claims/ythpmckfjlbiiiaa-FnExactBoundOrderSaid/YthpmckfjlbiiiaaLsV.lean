/-
  Proved: what lists of lists of features, and envelopes, that are read hold (views).
  Conditions: none.
-/
import Derived.Test.YthpmckfjlbiiiaaNearS
import Derived.Test.YthpmckfjlbiiiaaView
namespace Go.Proofs.Ythpmckfjlbiiiaa.env
open Go.ChangeShapes Go.WideShapes Go.ChangeAt Go.RowKit Go.Joins
open Go.Proofs.Ythpmckfjlbiiiaa.core Go.Proofs.Ythpmckfjlbiiiaa.rown Go.Proofs.Ythpmckfjlbiiiaa.stk Go.Proofs.Ythpmckfjlbiiiaa.boxed Go.Proofs.Ythpmckfjlbiiiaa.ft Go.Proofs.Ythpmckfjlbiiiaa.seq Go.Proofs.Ythpmckfjlbiiiaa.tab
set_option linter.unusedVariables false
set_option linter.unusedSimpArgs false
def lsN (g : Nat → Dat) : Nat := dLen (g 0)
def lsL (g : Nat → Dat) (i : Nat) : Nat := dLen (dFun (g 0) i 0)
def lsF (g : Nat → Dat) (i j : Nat) : P3 := (dInt (dFun (dFun (g 0) i 0) j 0), dInt (dFun (dFun (g 0) i 0) j 1), dInt (dFun (dFun (g 0) i 0) j 2))
theorem cost_at {n k : Nat} {f : Nat → Nat → Dat} {i j : Nat} (hi : i < n) (hj : j < k) : cost (f i j) ≤ cost (.sl n k f) := by
  have h1 := sumTo_lt (fun a => sumTo (fun j => cost (f a j)) k) hi
  have h2 := sumTo_lt (fun j => cost (f i j)) hj
  simp only [cost]
  omega
theorem reads_lss {W : World} {us : Nat → Value} {g : Nat → Dat} (h : ReadsRec W 1 us g) (ht : tyrFeatSS g) (hq : costRec 1 g ≤ 1048576) :
    ∃ A c, us 0 = .slice A (lsN g) c ∧ lsN g ≤ 1048576 ∧ (∀ i, i < lsN g → lsL g i ≤ 1048576) ∧ LsAt W A (lsN g) (lsL g) (lsF g) := by
  obtain ⟨n, f, hg, hf⟩ := ht
  have h0 := h 0 (by omega)
  rw [hg] at h0
  obtain ⟨A, c, hv, hn, hR⟩ := h0.sl_inv
  have hT : tyFeatSS (.sl n 1 f) := ⟨n, f, rfl, hf⟩
  have e1 : lsN g = n := by simp [lsN, hg, dLen]
  have e2 : ∀ i, lsL g i = dLen (f i 0) := fun i => by simp [lsL, hg, dFun]
  have hc := le_cost n 1 f
  have hq' : cost (.sl n 1 f) ≤ 1048576 := by
    have e : costRec 1 g = cost (.sl n 1 f) := by simp [costRec, sumTo, hg]
    rw [← e]; exact hq
  have hlen : ∀ i, i < n → dLen (f i 0) ≤ 1048576 := fun i hi => by
    obtain ⟨n0, f0, e0, -⟩ := hf i hi
    have h1 := cost_at (f := f) hi (show 0 < 1 by omega)
    rw [e0] at h1 ⊢
    have h2 := le_cost n0 3 f0
    show n0 ≤ 1048576
    omega
  refine ⟨A, c, by rw [hv, e1], by omega, fun i hi => by rw [e2]; exact hlen i (by omega), fun i hi => ?_⟩
  rw [e1] at hi
  obtain ⟨b, o, e, hb, A0, c0, hcell, -, hR0, hT0⟩ := viewFeatSS hR hT i hi
  refine ⟨b, o, A0, c0, e, hb, by rw [e2]; exact hcell, fun j hj => ?_⟩
  rw [e2] at hj
  obtain ⟨b', o', e', hb', ⟨q0, -⟩, ⟨q1, -⟩, ⟨q2, -⟩⟩ := viewFeatS hR0 hT0 j hj
  refine ⟨b', o', e', hb', ?_, ?_, ?_⟩
  · rw [q0]; simp [lsF, hg, dFun]
  · rw [q1]; simp [lsF, hg, dFun]
  · rw [q2]; simp [lsF, hg, dFun]
/-- An envelope's lists. -/
def enN (g : Nat → Dat) (k : Nat) : Nat := dLen (g k)
def enG (g : Nat → Dat) (k i : Nat) : Int := dInt (dFun (g k) i 0)
theorem reads_num {W : World} {v : Value} {d : Dat} (h : Reads W v d) (ht : tyInt64S d) : ∃ A c, v = .slice A (dLen d) c ∧ dLen d ≤ cost d ∧ NumAt W A (dLen d) (fun i => dInt (dFun d i 0)) := by
  obtain ⟨n, f, rfl, hf⟩ := ht
  obtain ⟨A, c, hv, hn, hR⟩ := h.sl_inv
  refine ⟨A, c, hv, le_cost n 1 f, fun i hi => ?_⟩
  obtain ⟨b, o, e, hb, ⟨q, -⟩⟩ := viewInt64S hR ⟨n, f, rfl, hf⟩ i hi
  exact ⟨b, o, e, hb, q⟩
theorem reads_env {W : World} {us : Nat → Value} {g : Nat → Dat} (h : ReadsRec W 4 us g) (ht : tyrEnvelope g) (hq : costRec 4 g ≤ 1048576) :
    ∃ (ea : Nat → Option Addr) (ec : Nat → Nat), (∀ k, k < 4 → us k = .slice (ea k) (enN g k) (ec k)) ∧ (∀ k, k < 4 → enN g k ≤ 1048576) ∧ ∀ k, k < 4 → NumAt W (ea k) (enN g k) (enG g k) := by
  obtain ⟨t0, t1, t2, t3⟩ := ht
  have hty : ∀ k, k < 4 → tyInt64S (g k) := fun k hk => by
    have : k = 0 ∨ k = 1 ∨ k = 2 ∨ k = 3 := by omega
    rcases this with rfl | rfl | rfl | rfl <;> assumption
  have hck : ∀ k, k < 4 → cost (g k) ≤ 1048576 := fun k hk => by
    have := sumTo_lt (fun j => cost (g j)) hk
    have e : costRec 4 g = sumTo (fun j => cost (g j)) 4 := rfl
    omega
  have key : ∀ k, ∃ (A : Option Addr) (c : Nat), k < 4 → us k = .slice A (enN g k) c ∧ enN g k ≤ 1048576 ∧ NumAt W A (enN g k) (enG g k) := fun k => by
    by_cases hk : k < 4
    · obtain ⟨A, c, e, hl, hN⟩ := reads_num (h k hk) (hty k hk)
      have h1 := hck k hk
      exact ⟨A, c, fun _ => ⟨e, Nat.le_trans hl h1, hN⟩⟩
    · exact ⟨none, 0, fun h' => absurd h' hk⟩
  exact ⟨fun k => (key k).choose, fun k => (key k).choose_spec.choose, fun k hk => ((key k).choose_spec.choose_spec hk).1, fun k hk => ((key k).choose_spec.choose_spec hk).2.1, fun k hk => ((key k).choose_spec.choose_spec hk).2.2⟩
end Go.Proofs.Ythpmckfjlbiiiaa.env
