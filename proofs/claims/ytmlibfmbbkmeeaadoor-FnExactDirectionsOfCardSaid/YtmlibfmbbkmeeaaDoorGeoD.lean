/-
  Proved: plain facts on directions.
  Conditions: none.
-/
import Derived.Lib.Hide
namespace Go.Proofs.YtmlibfmbbkmeeaaDoor.geoM
set_option linter.unusedVariables false
set_option linter.unusedSimpArgs false

def absI (n : Int) : Int := if n < 0 then -n else n
/-- The direction of a difference, in the document's words. -/
def dirN (dx dy : Int) : Int :=
  if (absI dx + absI dy) * (absI dx + absI dy) ≤ 2 * absI dx * absI dx then (if 0 < dx then 0 else 4)
  else if (absI dx + absI dy) * (absI dx + absI dy) ≤ 2 * absI dy * absI dy then (if 0 < dy then 2 else 6)
  else if 0 < dx ∧ 0 < dy then 1 else if dx < 0 ∧ 0 < dy then 3 else if dx < 0 then 5 else 7
theorem dirN_rng (dx dy : Int) : 0 ≤ dirN dx dy ∧ dirN dx dy ≤ 7 := by
  unfold dirN; split <;> (try split) <;> (try split) <;> (try split) <;> omega
theorem absI_nonneg (n : Int) : 0 ≤ absI n := by unfold absI; split <;> omega
theorem absI_zero {n : Int} (h : absI n = 0) : n = 0 := by unfold absI at h; split at h <;> omega
theorem sq0 {n : Int} (h : n * n ≤ 0) : n = 0 := by
  rcases Int.lt_trichotomy n 0 with g | g | g
  · have := Int.mul_pos (show 0 < -n by omega) (show 0 < -n by omega); rw [Int.neg_mul_neg] at this; omega
  · exact g
  · have := Int.mul_pos g g; omega
theorem abs_sq (n : Int) : 2 * absI n * absI n = 2 * n * n := by
  unfold absI; split <;> grind
def sgn (n : Int) : Int := if n < 0 then -1 else if 0 < n then 1 else 0
/-- The table of directions around a point. -/
def sect (r c : Int) : Int :=
  if r = 0 then (if c = 0 then 5 else if c = 1 then 6 else 7) else if r = 1 then (if c = 0 then 4 else 0) else (if c = 0 then 3 else if c = 1 then 2 else 1)
theorem dir_x (dx dy : Int) (h0 : ¬ (dx = 0 ∧ dy = 0)) (h : (absI dx + absI dy) * (absI dx + absI dy) ≤ 2 * dx * dx) : dirN dx dy = sect 1 (1 + sgn dx) := by
  have hx : dx ≠ 0 := by
    rintro rfl
    have : absI dy * absI dy ≤ 0 := by simpa [absI] using h
    have hd := absI_zero (sq0 this)
    omega
  unfold dirN
  rw [if_pos (by rw [abs_sq]; exact h)]
  unfold sect sgn
  split <;> (repeat' split) <;> omega
theorem dir_y (dx dy : Int) (h0 : ¬ (dx = 0 ∧ dy = 0)) (h : ¬ (absI dx + absI dy) * (absI dx + absI dy) ≤ 2 * dx * dx) (h2 : (absI dx + absI dy) * (absI dx + absI dy) ≤ 2 * dy * dy) : dirN dx dy = sect (1 + sgn dy) 1 := by
  have hy : dy ≠ 0 := by
    rintro rfl
    have e : absI (0 : Int) = 0 := rfl
    rw [e] at h2
    have : absI dx * absI dx ≤ 0 := by simpa using h2
    have := absI_zero (sq0 this)
    omega
  unfold dirN
  rw [if_neg (by rw [abs_sq]; exact h), if_pos (by rw [abs_sq]; exact h2)]
  unfold sect sgn
  split <;> (repeat' split) <;> omega
theorem dir_d (dx dy : Int) (h : ¬ (absI dx + absI dy) * (absI dx + absI dy) ≤ 2 * dx * dx) (h2 : ¬ (absI dx + absI dy) * (absI dx + absI dy) ≤ 2 * dy * dy) : dirN dx dy = sect (1 + sgn dy) (1 + sgn dx) := by
  have hx : dx ≠ 0 := by
    rintro rfl
    apply h2
    rw [← abs_sq]
    have e : absI (0 : Int) = 0 := rfl
    rw [e]
    have : 0 ≤ absI dy := by unfold absI; split <;> omega
    have := Int.mul_nonneg this this
    have e2 : 2 * absI dy * absI dy = 2 * (absI dy * absI dy) := by grind
    simp
    omega
  have hy : dy ≠ 0 := by
    rintro rfl
    apply h
    rw [← abs_sq]
    have e : absI (0 : Int) = 0 := rfl
    rw [e]
    have : 0 ≤ absI dx := by unfold absI; split <;> omega
    have := Int.mul_nonneg this this
    have e2 : 2 * absI dx * absI dx = 2 * (absI dx * absI dx) := by grind
    simp
    omega
  unfold dirN
  rw [if_neg (by rw [abs_sq]; exact h), if_neg (by rw [abs_sq]; exact h2)]
  unfold sect sgn
  repeat' split
  all_goals omega
/-- The turn from one direction to another one. -/
def bend (a b : Int) : Int := (b - a + 11) % 8 - 3
theorem bend_rng (a b : Int) : -3 ≤ bend a b ∧ bend a b ≤ 4 := by unfold bend; omega
theorem bend_spec (a b : Int) : (if 4 < (b - a + 8) % 8 then (b - a + 8) % 8 - 8 else (b - a + 8) % 8) = bend a b := by unfold bend; split <;> omega
end Go.Proofs.YtmlibfmbbkmeeaaDoor.geoM
