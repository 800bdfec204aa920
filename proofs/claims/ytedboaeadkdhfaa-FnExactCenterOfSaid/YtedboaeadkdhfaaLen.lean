/-
  Proved: how many bits a number has (math/bits.Len64), and what the program's square root returns.
  Conditions: the number is at most 10^15.
-/
import Derived.Test.YtedboaeadkdhfaaSeg
import Derived.Lib.Strings
import Derived.Lib.Slices
import Derived.Lib.Small
import Derived.Lib.Walk
import Derived.Lib.BitFns
import Derived.Lib.Tables
namespace Go.Proofs.Ytedboaeadkdhfaa.blen
open Go.ChangeShapes Go.WideShapes Go.ChangeAt Go.RowKit Go.Joins
open Go.Proofs.Ytedboaeadkdhfaa.core Go.Proofs.Ytedboaeadkdhfaa.geoM Go.Proofs.Ytedboaeadkdhfaa.stk
set_option linter.unusedVariables false
set_option linter.unusedSimpArgs false

theorem lt_bitLenAux : ∀ (f x : Nat), x < 2 ^ f → x < 2 ^ Lib.bitLenAux f x
  | 0, x, h => h
  | f + 1, x, h => by
    simp only [Lib.bitLenAux]
    by_cases h0 : x = 0
    · rw [if_pos h0, h0]; decide
    · rw [if_neg h0, Nat.pow_add]
      have := lt_bitLenAux f (x / 2) (by rw [Nat.pow_succ] at h; omega)
      omega
theorem lt_bitLen (x : Nat) (h : x < 18446744073709551616) : x < 2 ^ Lib.bitLen x := lt_bitLenAux 64 x h

theorem tab_size : (Lib.len8tab.size : Int) = 256 := by rw [Lib.len8tab_size]; rfl
theorem wrap_add (k a b : Nat) (hk : k ≤ 56) (ha : a ≤ 8) (hb : b = k + a) : wrap64 ((k : Int) + wrap64 (a : Int)) = (b : Int) := by
  unfold wrap64
  omega
theorem wrap_wrap (a : Nat) (ha : a ≤ 8) : wrap64 (wrap64 (a : Int)) = (a : Int) := by
  unfold wrap64
  omega
theorem tab_get (y : Int) (h : y.toNat < Lib.len8tab.size) : ((Lib.len8tab[y.toNat]'h).toNat : Int) = Lib.len8 y := by
  unfold Lib.len8
  rw [getElem?_pos Lib.len8tab y.toNat h]
  rfl
set_option maxRecDepth 100000 in
set_option maxHeartbeats 8000000 in
theorem len_calls (x : Int) (w : World) (h0 : 0 ≤ x) (h1 : x ≤ 1000000000000000) :
    Calls Try.prog 115 #[.int .u64 x] w fun e w' => e = .returned (.int .i64 (Lib.bitLen x.toNat)) ∧ w = w' := by
  go_enter Try.func115, Try.ntmps115
  go_wp2
  all_goals first
    | (go_ret; refine ⟨congrArg Ending.returned (congrArg (Value.int IntKind.i64) ?_), rfl⟩)
    | (exfalso
       have hs := tab_size
       omega)
  all_goals first
    | (rw [tab_get (x / 4294967296 / 65536) _, Lib.len8_of (x / 4294967296 / 65536) (by omega) (by omega)]
       have e : (x / 4294967296 / 65536).toNat = x.toNat / 281474976710656 := by omega
       have l := Lib.bitLen_le8' (x / 4294967296 / 65536) (by omega) (by omega)
       have s := Lib.bitLen_shift48 x.toNat (by omega) (by omega)
       rw [e] at l ⊢
       exact wrap_add 48 _ _ (by decide) l s)
    | (rw [tab_get (x / 4294967296 / 256) _, Lib.len8_of (x / 4294967296 / 256) (by omega) (by omega)]
       have e : (x / 4294967296 / 256).toNat = x.toNat / 1099511627776 := by omega
       have l := Lib.bitLen_le8' (x / 4294967296 / 256) (by omega) (by omega)
       have s := Lib.bitLen_shift40 x.toNat (by omega) (by omega)
       rw [e] at l ⊢
       exact wrap_add 40 _ _ (by decide) l s)
    | (rw [tab_get (x / 4294967296) _, Lib.len8_of (x / 4294967296) (by omega) (by omega)]
       have e : (x / 4294967296).toNat = x.toNat / 4294967296 := by omega
       have l := Lib.bitLen_le8' (x / 4294967296) (by omega) (by omega)
       have s := Lib.bitLen_shift32 x.toNat (by omega) (by omega)
       rw [e] at l ⊢
       exact wrap_add 32 _ _ (by decide) l s)
    | (rw [tab_get (x / 65536 / 256) _, Lib.len8_of (x / 65536 / 256) (by omega) (by omega)]
       have e : (x / 65536 / 256).toNat = x.toNat / 16777216 := by omega
       have l := Lib.bitLen_le8' (x / 65536 / 256) (by omega) (by omega)
       have s := Lib.bitLen_shift24 x.toNat (by omega) (by omega)
       rw [e] at l ⊢
       exact wrap_add 24 _ _ (by decide) l s)
    | (rw [tab_get (x / 65536) _, Lib.len8_of (x / 65536) (by omega) (by omega)]
       have e : (x / 65536).toNat = x.toNat / 65536 := by omega
       have l := Lib.bitLen_le8' (x / 65536) (by omega) (by omega)
       have s := Lib.bitLen_shift16 x.toNat (by omega) (by omega)
       rw [e] at l ⊢
       exact wrap_add 16 _ _ (by decide) l s)
    | (rw [tab_get (x / 256) _, Lib.len8_of (x / 256) (by omega) (by omega)]
       have e : (x / 256).toNat = x.toNat / 256 := by omega
       have l := Lib.bitLen_le8' (x / 256) (by omega) (by omega)
       have s := Lib.bitLen_shift8 x.toNat (by omega) (by omega)
       rw [e] at l ⊢
       exact wrap_add 8 _ _ (by decide) l s)
    | (rw [tab_get x _, Lib.len8_of x (by omega) (by omega)]
       exact wrap_wrap _ (Lib.bitLen_le8' x (by omega) (by omega)))
    | (exfalso; omega)

theorem wrap_in (n : Int) (h0 : 0 ≤ n) (h1 : n < 2 ^ 62) : IntKind.i64.wrap n = n := by
  have e : (2 : Int) ^ 62 = 4611686018427387904 := by decide
  exact IntWalk.i64_in _ (by omega)
theorem or_pow (q j : Nat) (h : (2 * q + 1) * 2 ^ j < 2 ^ 62) (hj : j ≤ 30) : bits BinOp.or IntKind.i64 ((q * 2 ^ (j + 1) : Nat) : Int) ((2 : Int) ^ j) = (((2 * q + 1) * 2 ^ j : Nat) : Int) := by
  have e : (2 * q + 1) * 2 ^ j = q * 2 ^ (j + 1) + 2 ^ j := by rw [Nat.pow_succ]; grind
  have hp : 0 < 2 ^ j := Nat.two_pow_pos j
  have hjj : 2 ^ j < 2 ^ (j + 1) := by rw [Nat.pow_succ]; omega
  rw [e] at h ⊢
  rw [bits_join .i64 62 (by decide) wrap_in (j + 1) ((q * 2 ^ (j + 1) : Nat) : Int) ((2 : Int) ^ j) (by omega) ?_ ?_ ?_ ?_ ?_]
  · push_cast; rfl
  · rw [show ((q * 2 ^ (j + 1) : Nat) : Int) = (q : Int) * 2 ^ (j + 1) by push_cast; rfl]
    exact Int.mul_emod_left _ _
  · have : ((q * 2 ^ (j + 1) : Nat) : Int) < ((2 ^ 62 : Nat) : Int) := by omega
    exact_mod_cast this
  · exact Int.le_of_lt (Int.pow_pos (by decide))
  · exact_mod_cast hjj
  · have : 2 ^ j < 2 ^ 62 := by omega
    exact_mod_cast this
theorem root_start (n L : Nat) (hb : n < 2 ^ L) : ∃ k : Nat, (((L : Int) - 1).tdiv 2) = (k : Int) - 1 ∧ root n < 2 ^ k ∧ (L ≤ 50 → k ≤ 25) := by
  rcases Nat.eq_zero_or_pos L with e | e
  · subst e
    refine ⟨1, by decide, ?_, by omega⟩
    have h0 : n = 0 := by omega
    subst h0
    decide
  · refine ⟨(L - 1) / 2 + 1, ?_, root_pow ?_, by omega⟩
    · have : ((L : Int) - 1).tdiv 2 = ((L : Int) - 1) / 2 := Int.tdiv_eq_ediv_of_nonneg (by omega)
      rw [this]
      omega
    · exact Nat.lt_of_lt_of_le hb (Nat.pow_le_pow_right (by decide) (by omega))
end Go.Proofs.Ytedboaeadkdhfaa.blen
