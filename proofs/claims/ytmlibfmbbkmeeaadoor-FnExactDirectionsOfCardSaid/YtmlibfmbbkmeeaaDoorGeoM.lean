/-
  Proved: plain facts on square roots.
  Conditions: none.
-/
import Derived.Lib.Hide
namespace Go.Proofs.YtmlibfmbbkmeeaaDoor.geoM
set_option linter.unusedVariables false
set_option linter.unusedSimpArgs false

/-- The greatest number up to k whose square is at most n. -/
def rootB (n : Nat) : Nat → Nat
  | 0 => 0
  | k + 1 => if (k + 1) * (k + 1) ≤ n then k + 1 else rootB n k
/-- The square root, rounded down. -/
def root (n : Nat) : Nat := rootB n n
theorem rootB_sq (n k : Nat) : rootB n k * rootB n k ≤ n := by
  induction k with
  | zero => simp [rootB]
  | succ k ih => unfold rootB; split <;> assumption
theorem rootB_lt (n k : Nat) (h : n < (k + 1) * (k + 1)) : n < (rootB n k + 1) * (rootB n k + 1) := by
  induction k with
  | zero => simpa [rootB] using h
  | succ k ih => unfold rootB; split
                 · exact h
                 · exact ih (by omega)
theorem root_sq (n : Nat) : root n * root n ≤ n := rootB_sq n n
theorem root_lt (n : Nat) : n < (root n + 1) * (root n + 1) := rootB_lt n n (by
  have : (n + 1) * (n + 1) = n * n + 2 * n + 1 := by grind
  omega)
theorem sq_le {a b : Nat} (h : a ≤ b) : a * a ≤ b * b := Nat.mul_le_mul h h
theorem le_root {k n : Nat} : k * k ≤ n ↔ k ≤ root n := by
  constructor
  · intro h
    rcases Nat.lt_or_ge (root n) k with g | g
    · have := sq_le (show root n + 1 ≤ k by omega)
      have := root_lt n
      omega
    · exact g
  · intro h
    exact Nat.le_trans (sq_le h) (root_sq n)
theorem root_mono {a b : Nat} (h : a ≤ b) : root a ≤ root b := le_root.1 (Nat.le_trans (root_sq a) h)
theorem root_eq {n r : Nat} (h1 : r * r ≤ n) (h2 : n < (r + 1) * (r + 1)) : root n = r := by
  have a := le_root.1 h1
  rcases Nat.lt_or_ge r (root n) with g | g
  · have := le_root.2 (show r + 1 ≤ root n by omega)
    omega
  · omega
theorem root_zero : root 0 = 0 := rfl
/-- The bits of the root from the highest one on. -/
theorem bit_step (R j : Nat) : (R / 2 ^ (j + 1) * 2 ^ (j + 1) + 2 ^ j ≤ R → R / 2 ^ j * 2 ^ j = R / 2 ^ (j + 1) * 2 ^ (j + 1) + 2 ^ j) ∧
    (¬ R / 2 ^ (j + 1) * 2 ^ (j + 1) + 2 ^ j ≤ R → R / 2 ^ j * 2 ^ j = R / 2 ^ (j + 1) * 2 ^ (j + 1)) := by
  have hp : 0 < 2 ^ j := Nat.two_pow_pos j
  have e : R / 2 ^ (j + 1) = R / 2 ^ j / 2 := by rw [Nat.div_div_eq_div_mul, Nat.pow_succ]
  rw [e, Nat.pow_succ]
  have d := Nat.div_add_mod R (2 ^ j)
  have m := Nat.mod_lt R hp
  generalize R / 2 ^ j = q at *
  generalize R % 2 ^ j = s at *
  generalize 2 ^ j = P at *
  have hq : q = 2 * (q / 2) + q % 2 := by omega
  have h2 : q % 2 = 0 ∨ q % 2 = 1 := by omega
  generalize q / 2 = t at *
  rcases h2 with h2 | h2
  · rw [h2] at hq
    subst hq
    have e1 : (2 * t + 0) * P = t * (P * 2) := by grind
    have e2 : P * (2 * t + 0) = t * (P * 2) := by grind
    rw [e1]; rw [e2] at d
    omega
  · rw [h2] at hq
    subst hq
    have e1 : (2 * t + 1) * P = t * (P * 2) + P := by grind
    have e2 : P * (2 * t + 1) = t * (P * 2) + P := by grind
    rw [e1]; rw [e2] at d
    omega
theorem bit_bound (R j : Nat) : R / 2 ^ (j + 1) * 2 ^ (j + 1) + 2 ^ j ≤ R + 2 ^ j := by
  have := Nat.div_mul_le_self R (2 ^ (j + 1))
  omega
theorem root_pow {n b : Nat} (h : n < 2 ^ (2 * b)) : root n < 2 ^ b := by
  rcases Nat.lt_or_ge (root n) (2 ^ b) with g | g
  · exact g
  · have := le_root.2 g
    rw [← Nat.pow_add, show b + b = 2 * b by omega] at this
    omega
end Go.Proofs.YtmlibfmbbkmeeaaDoor.geoM
