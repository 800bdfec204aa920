/-
  Proved: how many bits a number has (math/bits.Len64), and what the program's square root returns.
  Conditions: the number is at most 10^15.
-/
import Derived.Test.YtmlibfmbbkmeeaaDoorSeg
import Derived.Lib.Strings
import Derived.Lib.Slices
import Derived.Lib.Small
import Derived.Lib.Walk
import Derived.Lib.BitFns
import Derived.Lib.Tables
namespace Go.Proofs.YtmlibfmbbkmeeaaDoor.blen
open Go.ChangeShapes Go.WideShapes Go.ChangeAt Go.RowKit Go.Joins
open Go.Proofs.YtmlibfmbbkmeeaaDoor.core Go.Proofs.YtmlibfmbbkmeeaaDoor.geoM Go.Proofs.YtmlibfmbbkmeeaaDoor.stk
set_option linter.unusedVariables false
set_option linter.unusedSimpArgs false

theorem lt_bitLenAux : ∀ (f x : Nat), x < 2 ^ f → x < 2 ^ Lib.bitLenAux f x
  | 0, x, h => h
  | f + 1, x, h => by
    simp only [Lib.bitLenAux]
    by_cases h0 : x = 0
    · rw [if_pos h0, h0]; decide
    · rw [if_neg h0, Nat.pow_add]
      have := lt_bitLenAux f (x / 2) (by rw [Nat.pow_succ] at h; omega)
      omega
theorem lt_bitLen (x : Nat) (h : x < 18446744073709551616) : x < 2 ^ Lib.bitLen x := lt_bitLenAux 64 x h

theorem tab_size : (Lib.len8tab.size : Int) = 256 := by rw [Lib.len8tab_size]; rfl
theorem wrap_add (k a b : Nat) (hk : k ≤ 56) (ha : a ≤ 8) (hb : b = k + a) : wrap64 ((k : Int) + wrap64 (a : Int)) = (b : Int) := by
  unfold wrap64
  omega
theorem wrap_wrap (a : Nat) (ha : a ≤ 8) : wrap64 (wrap64 (a : Int)) = (a : Int) := by
  unfold wrap64
  omega
theorem tab_get (y : Int) (h : y.toNat < Lib.len8tab.size) : ((Lib.len8tab[y.toNat]'h).toNat : Int) = Lib.len8 y := by
  unfold Lib.len8
  rw [getElem?_pos Lib.len8tab y.toNat h]
  rfl
theorem wrap_in (n : Int) (h0 : 0 ≤ n) (h1 : n < 2 ^ 62) : IntKind.i64.wrap n = n := by
  have e : (2 : Int) ^ 62 = 4611686018427387904 := by decide
  exact IntWalk.i64_in _ (by omega)
theorem or_pow (q j : Nat) (h : (2 * q + 1) * 2 ^ j < 2 ^ 62) (hj : j ≤ 30) : bits BinOp.or IntKind.i64 ((q * 2 ^ (j + 1) : Nat) : Int) ((2 : Int) ^ j) = (((2 * q + 1) * 2 ^ j : Nat) : Int) := by
  have e : (2 * q + 1) * 2 ^ j = q * 2 ^ (j + 1) + 2 ^ j := by rw [Nat.pow_succ]; grind
  have hp : 0 < 2 ^ j := Nat.two_pow_pos j
  have hjj : 2 ^ j < 2 ^ (j + 1) := by rw [Nat.pow_succ]; omega
  rw [e] at h ⊢
  rw [bits_join .i64 62 (by decide) wrap_in (j + 1) ((q * 2 ^ (j + 1) : Nat) : Int) ((2 : Int) ^ j) (by omega) ?_ ?_ ?_ ?_ ?_]
  · push_cast; rfl
  · rw [show ((q * 2 ^ (j + 1) : Nat) : Int) = (q : Int) * 2 ^ (j + 1) by push_cast; rfl]
    exact Int.mul_emod_left _ _
  · have : ((q * 2 ^ (j + 1) : Nat) : Int) < ((2 ^ 62 : Nat) : Int) := by omega
    exact_mod_cast this
  · exact Int.le_of_lt (Int.pow_pos (by decide))
  · exact_mod_cast hjj
  · have : 2 ^ j < 2 ^ 62 := by omega
    exact_mod_cast this
theorem root_start (n L : Nat) (hb : n < 2 ^ L) : ∃ k : Nat, (((L : Int) - 1).tdiv 2) = (k : Int) - 1 ∧ root n < 2 ^ k ∧ (L ≤ 50 → k ≤ 25) := by
  rcases Nat.eq_zero_or_pos L with e | e
  · subst e
    refine ⟨1, by decide, ?_, by omega⟩
    have h0 : n = 0 := by omega
    subst h0
    decide
  · refine ⟨(L - 1) / 2 + 1, ?_, root_pow ?_, by omega⟩
    · have : ((L : Int) - 1).tdiv 2 = ((L : Int) - 1) / 2 := Int.tdiv_eq_ediv_of_nonneg (by omega)
      rw [this]
      omega
    · exact Nat.lt_of_lt_of_le hb (Nat.pow_le_pow_right (by decide) (by omega))
end Go.Proofs.YtmlibfmbbkmeeaaDoor.blen
