/-
  Proved: a small datum takes few marks (plain lemmas).
  Conditions: none.
-/
import Derived.Test.YtofgdgdmmlgmnaaRec
namespace Go.Proofs.Ytofgdgdmmlgmnaa.core
open Go.ChangeShapes Go.WideShapes Go.ChangeAt Go.RowKit Go.Joins
set_option linter.unusedVariables false
set_option linter.unusedSimpArgs false

theorem sumTo_le {g h : Nat → Nat} {n : Nat} (hh : ∀ i, i < n → g i ≤ h i) : sumTo g n ≤ sumTo h n := by
  induction n with
  | zero => exact Nat.le_refl _
  | succ n ih => simp only [sumTo]; have := ih fun i hi => hh i (by omega); have := hh n (by omega); omega
theorem sumTo_lin (g : Nat → Nat) (a M n : Nat) : sumTo (fun i => a + M * g i) n = n * a + M * sumTo g n := by
  induction n with
  | zero => simp [sumTo]
  | succ n ih => simp only [sumTo, ih]; rw [Nat.succ_mul, Nat.mul_add]; omega
/-- No row of the datum has more than M cells. -/
def wid (M : Nat) : Dat → Prop
  | .int _ => True
  | .str _ => True
  | .sl n k f => k ≤ M ∧ ∀ i j, i < n → j < k → wid M (f i j)
theorem cnt_wid (M : Nat) (d : Dat) : wid M d → cnt d ≤ 1 + M * cost d ∧ cntS d ≤ M * cost d := by
  induction d with
  | int n => intro _; exact ⟨by simp [cnt], by simp [cntS]⟩
  | str s => intro _; exact ⟨by simp [cnt], by simp [cntS]⟩
  | sl n k f ih =>
    intro h
    obtain ⟨hk, hw⟩ := h
    have h1 : cnt (.sl n k f) ≤ M * cost (.sl n k f) := by
      simp only [cnt, cost]
      have h2 : ∀ i, i < n → sumTo (fun j => cnt (f i j)) k ≤ k * 1 + M * sumTo (fun j => cost (f i j)) k := fun i hi => by
        rw [← sumTo_lin]
        exact sumTo_le fun j hj => (ih i j (hw i j hi hj)).1
      have h3 := sumTo_le h2
      rw [sumTo_lin] at h3
      rw [Nat.mul_add]
      have h4 : n * (k * 1) ≤ M * n := by rw [Nat.mul_one, Nat.mul_comm]; exact Nat.mul_le_mul_right n hk
      omega
    exact ⟨by omega, h1⟩
theorem cntRec_le {k : Nat} {g : Nat → Dat} {M : Nat} (h : ∀ j, j < k → wid M (g j)) : cntRec k g ≤ M * costRec k g := by
  have h1 : ∀ j, j < k → cntS (g j) ≤ 0 + M * cost (g j) := fun j hj => by have := (cnt_wid M (g j) (h j hj)).2; omega
  have h2 := sumTo_le h1
  rw [sumTo_lin] at h2
  simp only [cntRec, costRec]
  omega
theorem widPointS {d : Dat} (h : tyPointS d) : wid 16 d := by
  obtain ⟨n, f, rfl, hf⟩ := h
  refine ⟨by omega, fun i j hi hj => ?_⟩
  obtain ⟨⟨x0, e0⟩, ⟨x1, e1⟩, ⟨x2, e2⟩⟩ := hf i hi
  rcases (by omega : j = 0 ∨ j = 1 ∨ j = 2) with rfl | rfl | rfl
  · rw [e0]; trivial
  · rw [e1]; trivial
  · rw [e2]; trivial
theorem widStrokeS {d : Dat} (h : tyStrokeS d) : wid 16 d := by
  obtain ⟨n, f, rfl, hf⟩ := h
  refine ⟨by omega, fun i j hi hj => ?_⟩
  have e0 := hf i hi
  obtain rfl : j = 0 := by omega
  exact widPointS e0
theorem widHypS {d : Dat} (h : tyHypS d) : wid 16 d := by
  obtain ⟨n, f, rfl, hf⟩ := h
  refine ⟨by omega, fun i j hi hj => ?_⟩
  obtain ⟨⟨s0, e0⟩, ⟨x1, e1⟩⟩ := hf i hi
  rcases (by omega : j = 0 ∨ j = 1) with rfl | rfl
  · rw [e0]; trivial
  · rw [e1]; trivial
theorem widrPoint {g : Nat → Dat} (h : tyrPoint g) : ∀ j, j < 3 → wid 16 (g j) := by
  intro j hj
  obtain ⟨⟨x0, e0⟩, ⟨x1, e1⟩, ⟨x2, e2⟩⟩ := h
  rcases (by omega : j = 0 ∨ j = 1 ∨ j = 2) with rfl | rfl | rfl
  · rw [e0]; trivial
  · rw [e1]; trivial
  · rw [e2]; trivial
theorem widrPointS {g : Nat → Dat} (h : tyrPointS g) : ∀ j, j < 1 → wid 16 (g j) := by
  intro j hj
  have e0 : tyPointS (g 0) := h
  obtain rfl : j = 0 := by omega
  exact widPointS e0
theorem widrStroke {g : Nat → Dat} (h : tyrStroke g) : ∀ j, j < 1 → wid 16 (g j) := by
  intro j hj
  have e0 : tyPointS (g 0) := h
  obtain rfl : j = 0 := by omega
  exact widPointS e0
theorem widrStrokeS {g : Nat → Dat} (h : tyrStrokeS g) : ∀ j, j < 1 → wid 16 (g j) := by
  intro j hj
  have e0 : tyStrokeS (g 0) := h
  obtain rfl : j = 0 := by omega
  exact widStrokeS e0
theorem widrInk {g : Nat → Dat} (h : tyrInk g) : ∀ j, j < 1 → wid 16 (g j) := by
  intro j hj
  have e0 : tyStrokeS (g 0) := h
  obtain rfl : j = 0 := by omega
  exact widStrokeS e0
theorem widrSetting {g : Nat → Dat} (h : tyrSetting g) : ∀ j, j < 3 → wid 16 (g j) := by
  intro j hj
  obtain ⟨⟨x0, e0⟩, ⟨x1, e1⟩, ⟨x2, e2⟩⟩ := h
  rcases (by omega : j = 0 ∨ j = 1 ∨ j = 2) with rfl | rfl | rfl
  · rw [e0]; trivial
  · rw [e1]; trivial
  · rw [e2]; trivial
theorem widrHyp {g : Nat → Dat} (h : tyrHyp g) : ∀ j, j < 2 → wid 16 (g j) := by
  intro j hj
  obtain ⟨⟨s0, e0⟩, ⟨x1, e1⟩⟩ := h
  rcases (by omega : j = 0 ∨ j = 1) with rfl | rfl
  · rw [e0]; trivial
  · rw [e1]; trivial
theorem widrHypS {g : Nat → Dat} (h : tyrHypS g) : ∀ j, j < 1 → wid 16 (g j) := by
  intro j hj
  have e0 : tyHypS (g 0) := h
  obtain rfl : j = 0 := by omega
  exact widHypS e0

end Go.Proofs.Ytofgdgdmmlgmnaa.core
