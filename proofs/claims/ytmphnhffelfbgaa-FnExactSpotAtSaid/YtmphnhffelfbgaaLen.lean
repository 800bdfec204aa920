/-
  Proved: how many bits a number has (math/bits.Len64), and what the program's square root returns.
  Conditions: the number is at most 10^15.
-/
import Derived.Test.YtmphnhffelfbgaaSeg
import Derived.Lib.Strings
import Derived.Lib.Slices
import Derived.Lib.Small
import Derived.Lib.Walk
import Derived.Lib.BitFns
import Derived.Lib.Tables
namespace Go.Proofs.Ytmphnhffelfbgaa.blen
open Go.ChangeShapes Go.WideShapes Go.ChangeAt Go.RowKit Go.Joins
open Go.Proofs.Ytmphnhffelfbgaa.core Go.Proofs.Ytmphnhffelfbgaa.geoM Go.Proofs.Ytmphnhffelfbgaa.stk
set_option linter.unusedVariables false
set_option linter.unusedSimpArgs false

theorem lt_bitLenAux : ∀ (f x : Nat), x < 2 ^ f → x < 2 ^ Lib.bitLenAux f x
  | 0, x, h => h
  | f + 1, x, h => by
    simp only [Lib.bitLenAux]
    by_cases h0 : x = 0
    · rw [if_pos h0, h0]; decide
    · rw [if_neg h0, Nat.pow_add]
      have := lt_bitLenAux f (x / 2) (by rw [Nat.pow_succ] at h; omega)
      omega
theorem lt_bitLen (x : Nat) (h : x < 18446744073709551616) : x < 2 ^ Lib.bitLen x := lt_bitLenAux 64 x h

theorem tab_size : (Lib.len8tab.size : Int) = 256 := by rw [Lib.len8tab_size]; rfl
theorem wrap_add (k a b : Nat) (hk : k ≤ 56) (ha : a ≤ 8) (hb : b = k + a) : wrap64 ((k : Int) + wrap64 (a : Int)) = (b : Int) := by
  unfold wrap64
  omega
theorem wrap_wrap (a : Nat) (ha : a ≤ 8) : wrap64 (wrap64 (a : Int)) = (a : Int) := by
  unfold wrap64
  omega
theorem tab_get (y : Int) (h : y.toNat < Lib.len8tab.size) : ((Lib.len8tab[y.toNat]'h).toNat : Int) = Lib.len8 y := by
  unfold Lib.len8
  rw [getElem?_pos Lib.len8tab y.toNat h]
  rfl
set_option maxRecDepth 100000 in
set_option maxHeartbeats 8000000 in
theorem len_calls (x : Int) (w : World) (h0 : 0 ≤ x) (h1 : x ≤ 1000000000000000) :
    Calls Try.prog 93 #[.int .u64 x] w fun e w' => e = .returned (.int .i64 (Lib.bitLen x.toNat)) ∧ w = w' := by
  go_enter Try.func93, Try.ntmps93
  go_wp2
  all_goals first
    | (go_ret; refine ⟨congrArg Ending.returned (congrArg (Value.int IntKind.i64) ?_), rfl⟩)
    | (exfalso
       have hs := tab_size
       omega)
  all_goals first
    | (rw [tab_get (x / 4294967296 / 65536) _, Lib.len8_of (x / 4294967296 / 65536) (by omega) (by omega)]
       have e : (x / 4294967296 / 65536).toNat = x.toNat / 281474976710656 := by omega
       have l := Lib.bitLen_le8' (x / 4294967296 / 65536) (by omega) (by omega)
       have s := Lib.bitLen_shift48 x.toNat (by omega) (by omega)
       rw [e] at l ⊢
       exact wrap_add 48 _ _ (by decide) l s)
    | (rw [tab_get (x / 4294967296 / 256) _, Lib.len8_of (x / 4294967296 / 256) (by omega) (by omega)]
       have e : (x / 4294967296 / 256).toNat = x.toNat / 1099511627776 := by omega
       have l := Lib.bitLen_le8' (x / 4294967296 / 256) (by omega) (by omega)
       have s := Lib.bitLen_shift40 x.toNat (by omega) (by omega)
       rw [e] at l ⊢
       exact wrap_add 40 _ _ (by decide) l s)
    | (rw [tab_get (x / 4294967296) _, Lib.len8_of (x / 4294967296) (by omega) (by omega)]
       have e : (x / 4294967296).toNat = x.toNat / 4294967296 := by omega
       have l := Lib.bitLen_le8' (x / 4294967296) (by omega) (by omega)
       have s := Lib.bitLen_shift32 x.toNat (by omega) (by omega)
       rw [e] at l ⊢
       exact wrap_add 32 _ _ (by decide) l s)
    | (rw [tab_get (x / 65536 / 256) _, Lib.len8_of (x / 65536 / 256) (by omega) (by omega)]
       have e : (x / 65536 / 256).toNat = x.toNat / 16777216 := by omega
       have l := Lib.bitLen_le8' (x / 65536 / 256) (by omega) (by omega)
       have s := Lib.bitLen_shift24 x.toNat (by omega) (by omega)
       rw [e] at l ⊢
       exact wrap_add 24 _ _ (by decide) l s)
    | (rw [tab_get (x / 65536) _, Lib.len8_of (x / 65536) (by omega) (by omega)]
       have e : (x / 65536).toNat = x.toNat / 65536 := by omega
       have l := Lib.bitLen_le8' (x / 65536) (by omega) (by omega)
       have s := Lib.bitLen_shift16 x.toNat (by omega) (by omega)
       rw [e] at l ⊢
       exact wrap_add 16 _ _ (by decide) l s)
    | (rw [tab_get (x / 256) _, Lib.len8_of (x / 256) (by omega) (by omega)]
       have e : (x / 256).toNat = x.toNat / 256 := by omega
       have l := Lib.bitLen_le8' (x / 256) (by omega) (by omega)
       have s := Lib.bitLen_shift8 x.toNat (by omega) (by omega)
       rw [e] at l ⊢
       exact wrap_add 8 _ _ (by decide) l s)
    | (rw [tab_get x _, Lib.len8_of x (by omega) (by omega)]
       exact wrap_wrap _ (Lib.bitLen_le8' x (by omega) (by omega)))
    | (exfalso; omega)

theorem wrap_in (n : Int) (h0 : 0 ≤ n) (h1 : n < 2 ^ 62) : IntKind.i64.wrap n = n := by
  have e : (2 : Int) ^ 62 = 4611686018427387904 := by decide
  exact IntWalk.i64_in _ (by omega)
theorem or_pow (q j : Nat) (h : (2 * q + 1) * 2 ^ j < 2 ^ 62) (hj : j ≤ 30) : bits BinOp.or IntKind.i64 ((q * 2 ^ (j + 1) : Nat) : Int) ((2 : Int) ^ j) = (((2 * q + 1) * 2 ^ j : Nat) : Int) := by
  have e : (2 * q + 1) * 2 ^ j = q * 2 ^ (j + 1) + 2 ^ j := by rw [Nat.pow_succ]; grind
  have hp : 0 < 2 ^ j := Nat.two_pow_pos j
  have hjj : 2 ^ j < 2 ^ (j + 1) := by rw [Nat.pow_succ]; omega
  rw [e] at h ⊢
  rw [bits_join .i64 62 (by decide) wrap_in (j + 1) ((q * 2 ^ (j + 1) : Nat) : Int) ((2 : Int) ^ j) (by omega) ?_ ?_ ?_ ?_ ?_]
  · push_cast; rfl
  · rw [show ((q * 2 ^ (j + 1) : Nat) : Int) = (q : Int) * 2 ^ (j + 1) by push_cast; rfl]
    exact Int.mul_emod_left _ _
  · have : ((q * 2 ^ (j + 1) : Nat) : Int) < ((2 ^ 62 : Nat) : Int) := by omega
    exact_mod_cast this
  · exact Int.le_of_lt (Int.pow_pos (by decide))
  · exact_mod_cast hjj
  · have : 2 ^ j < 2 ^ 62 := by omega
    exact_mod_cast this
theorem root_start (n L : Nat) (hb : n < 2 ^ L) : ∃ k : Nat, (((L : Int) - 1).tdiv 2) = (k : Int) - 1 ∧ root n < 2 ^ k ∧ (L ≤ 50 → k ≤ 25) := by
  rcases Nat.eq_zero_or_pos L with e | e
  · subst e
    refine ⟨1, by decide, ?_, by omega⟩
    have h0 : n = 0 := by omega
    subst h0
    decide
  · refine ⟨(L - 1) / 2 + 1, ?_, root_pow ?_, by omega⟩
    · have : ((L : Int) - 1).tdiv 2 = ((L : Int) - 1) / 2 := Int.tdiv_eq_ediv_of_nonneg (by omega)
      rw [this]
      omega
    · exact Nat.lt_of_lt_of_le hb (Nat.pow_le_pow_right (by decide) (by omega))
set_option maxRecDepth 100000 in
set_option maxHeartbeats 2000000 in
theorem root_calls (n : Nat) (hn : n ≤ 1000000000000000) (w : World) :
    Calls Try.prog 83 #[.int .i64 n] w fun e w' => e = .returned (.int .i64 (root n : Nat)) ∧ w = w' := by
  have hb := lt_bitLen n (by omega)
  have hl := Lib.bitLen_le n 50 (by omega) (by omega)
  have hc := len_calls (n : Int) w (by omega) (by omega)
  have h0 : (0 : Int) ≤ n := by omega
  rw [Int.toNat_natCast] at hc
  generalize Lib.bitLen n = L at *
  have HC := Lib.hid hc
  have HB := Lib.hid (root_start n L hb)
  clear hc hb
  go_enter Try.func83, Try.ntmps83
  go_wp2_with fail
  refine HC.out.mono ?_
  rintro e w2 ⟨rfl, rfl⟩
  go_wp2
  obtain ⟨k0, hk0, hr0, hk25⟩ := HB.out
  have hk25 := hk25 hl
  rw [hk0]
  have HK0 := Lib.hid hk0
  have HR0 := Lib.hid hr0
  clear hk0 hr0 HB HC
  go_loop [3, 4] (fun r i => ∃ (k : Nat) (z : Int), z = (k : Int) - 1 ∧ k ≤ 25 ∧ i = .int .i64 z ∧ r = .int .i64 ((root n / 2 ^ k * 2 ^ k : Nat) : Int)) (fun r i => (intOf i + 1).toNat)
  case atStart => exact ⟨k0, _, rfl, hk25, rfl, by rw [Nat.div_eq_of_lt HR0.out]; simp⟩
  case round =>
    obtain ⟨k, z, hz, hk, rfl, rfl⟩ := hrel
    rcases Nat.eq_zero_or_pos k with rfl | hp
    · obtain rfl : z = -1 := by omega
      clear hz HK0 HR0
      go_wp2
      go_ret
      exact ⟨ret_int (by simp), rfl⟩
    · obtain ⟨j, rfl⟩ : ∃ j, k = j + 1 := ⟨k - 1, by omega⟩
      obtain rfl : z = (j : Int) := by omega
      clear hz hp
      have hj : j ≤ 24 := by omega
      have hs := bit_step (root n) j
      have hR : root n ≤ 31622777 := by
        rcases Nat.lt_or_ge 31622777 (root n) with g | g
        · have := le_root.2 g; omega
        · exact g
      obtain ⟨q, hq⟩ : ∃ q, root n / 2 ^ (j + 1) = q := ⟨_, rfl⟩
      have hb := bit_bound (root n) j
      rw [hq] at hs hb
      have hpj : 2 ^ j ≤ 16777216 := Nat.pow_le_pow_right (show 0 < 2 by decide) hj
      have e : (2 * q + 1) * 2 ^ j = q * 2 ^ (j + 1) + 2 ^ j := by rw [Nat.pow_succ]; grind
      rw [← e] at hs hb
      have HO := Lib.hid (or_pow q j (by omega) (by omega))
      rw [hq]
      obtain ⟨m, hm⟩ : ∃ m, (2 * q + 1) * 2 ^ j = m := ⟨_, rfl⟩
      rw [hm] at hs hb HO
      have hm2 : m ≤ 50000000 := by omega
      have hsq : m * m ≤ 2500000000000000 := Nat.le_trans (sq_le hm2) (by decide)
      have hmm : (m : Int) * (m : Int) = ((m * m : Nat) : Int) := by simp
      have HS := Lib.hid hs
      have HRT := Lib.hid (le_root (k := m) (n := n))
      generalize m * m = M at *
      have hor : bits BinOp.or IntKind.i64 ((q : Int) * 2 ^ (j + 1)) (wrap64 (2 ^ j)) = (m : Int) := by
        rw [show wrap64 ((2 : Int) ^ j) = 2 ^ j from by
          have h1 : ((2 ^ j : Nat) : Int) ≤ 16777216 := by omega
          have h2 : ((2 ^ j : Nat) : Int) = (2 : Int) ^ j := by push_cast; rfl
          have h3 : (0 : Int) < 2 ^ j := Int.pow_pos (by decide)
          rw [h2] at h1
          unfold wrap64
          omega]
        have := HO.out
        rw [show ((q * 2 ^ (j + 1) : Nat) : Int) = (q : Int) * 2 ^ (j + 1) by push_cast; rfl] at this
        exact this
      clear hs hb e hm hpj hR HK0 HR0 hq HO
      by_cases hle : M ≤ n
      · have HE := Lib.hid (HS.out.1 (HRT.out.1 hle))
        have hle' : (M : Int) ≤ (n : Int) := by omega
        clear hle HS HRT
        go_wp2
        go_round
        case rel => exact ⟨j, _, rfl, by omega, rfl, by rw [HE.out]⟩
        case measure => simp [intOf]
      · have HE := Lib.hid (HS.out.2 (fun h => hle (HRT.out.2 h)))
        have hle' : ¬ (M : Int) ≤ (n : Int) := by omega
        clear hle HS HRT
        go_wp2
        go_round
        case rel => exact ⟨j, _, rfl, by omega, rfl, by rw [HE.out]⟩
        case measure => simp [intOf]
end Go.Proofs.Ytmphnhffelfbgaa.blen
