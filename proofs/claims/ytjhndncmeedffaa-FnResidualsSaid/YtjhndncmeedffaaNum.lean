/-
  Proved: the document's function that writes a number in bits, and its test of a range.
  Conditions: none.
-/
import Derived.Test.YtjhndncmeedffaaBytes
import Derived.Test.YtjhndncmeedffaaBits
namespace Go.Proofs.Ytjhndncmeedffaa.numS
open Go.ChangeShapes Go.WideShapes Go.ChangeAt Go.RowKit Go.Joins
open Go.Proofs.Ytjhndncmeedffaa.core Go.Proofs.Ytjhndncmeedffaa.rows Go.Proofs.Ytjhndncmeedffaa.bits
set_option linter.unusedVariables false
set_option linter.unusedSimpArgs false

set_option maxHeartbeats 1000000 in
theorem in_yes (n a b : Int) (w : World) (h : a ≤ n ∧ n ≤ b) : Calls Try.prog 36 #[.int .i64 n, .int .i64 a, .int .i64 b] w fun e w' => e = .returned (.bool true) ∧ w = w' := by
  obtain ⟨h1, h2⟩ := h
  go_enter Try.func36, Try.ntmps36
  go_wp2
  go_ret
  exact ⟨by simp [h2], by trivial⟩
set_option maxHeartbeats 1000000 in
theorem in_no (n a b : Int) (w : World) (h : ¬ (a ≤ n ∧ n ≤ b)) : Calls Try.prog 36 #[.int .i64 n, .int .i64 a, .int .i64 b] w fun e w' => e = .returned (.bool false) ∧ w = w' := by
  by_cases h1 : a ≤ n
  · have h2 : decide (n ≤ b) = false := decide_eq_false fun x => h ⟨h1, x⟩
    clear h
    go_enter Try.func36, Try.ntmps36
    go_wp2
    go_ret
    exact ⟨by simp [h2], by trivial⟩
  · clear h
    go_enter Try.func36, Try.ntmps36
    go_wp2
    go_ret
    exact ⟨by trivial, by trivial⟩

theorem bit1 (x : Int) (h0 : 0 ≤ x) (h1 : x ≤ 9223372036854775807) : bits .and .i64 x 1 = x % 2 :=
  bits_mask .i64 63 (by decide) (fun n a b => IntWalk.i64_in _ (by omega)) 1 (by decide) x h0 (by omega)
theorem bit_div (n j : Nat) (hn : n ≤ 9223372036854775807) : (0 : Int) ≤ (n : Int) / 2 ^ j ∧ (n : Int) / 2 ^ j ≤ 9223372036854775807 ∧ (n : Int) / 2 ^ j % 2 = ((n / 2 ^ j % 2 : Nat) : Int) := by
  have e : (n : Int) / 2 ^ j = ((n / 2 ^ j : Nat) : Int) := by simp
  have h : n / 2 ^ j ≤ n := Nat.div_le_self _ _
  rw [e]
  generalize n / 2 ^ j = x at *
  omega
theorem bitS (n j : Nat) (hn : n ≤ 9223372036854775807) :
    wrap64 (48 + bits BinOp.and IntKind.i64 ((n : Int) / 2 ^ j) 1) % 256 = ((48 + n / 2 ^ j % 2 : Nat) : Int) := by
  obtain ⟨h0, h1, h2⟩ := bit_div n j hn
  rw [bit1 _ h0 h1, h2]
  have : n / 2 ^ j % 2 < 2 := Nat.mod_lt _ (by decide)
  generalize n / 2 ^ j % 2 = q at *
  unfold wrap64
  omega

set_option maxRecDepth 100000 in
set_option maxHeartbeats 2000000 in
theorem num_calls (n v : Nat) (hn : n ≤ 9223372036854775807) (hv : v ≤ 62) (w : World) :
    Calls Try.prog 37 #[.int .i64 n, .int .i64 v] w fun e w' => e = .returned (.string ⟨(num n v).toArray⟩) ∧ Below w.heap.size w w' := by
  obtain ⟨i0, hi0, hz0, hz1, hz2⟩ := info_get infoByte
  go_enter Try.func37, Try.ntmps37
  go_wp2
  go_loopw [5, 6] (fun o i w' => ∃ (k m gb c : Nat) (z : Int), z = (k : Int) - 1 ∧ m + k = v ∧ i = .int .i64 z ∧ o = .slice (some ⟨gb, 0, none⟩) m c ∧ Hid (w'.ownsRow w.heap.size 5 1 (.slice (some ⟨gb, 0, none⟩) m c) m (Lib.byteCells (num (n / 2 ^ k) m))) ∧ Hid (Below w.heap.size w w')) (fun _ i _ => (intOf i + 1).toNat)
  case atStart => exact ⟨v, 0, _, _, _, rfl, by omega, rfl, rfl, Lib.hid (empty_row w 5), Lib.hid (below_alloc1 _ _)⟩
  case round =>
    obtain ⟨k, m, gb, c, z, hz, hk, rfl, rfl, HO, HB⟩ := hrel
    rcases Nat.eq_zero_or_pos k with rfl | hp
    · obtain rfl : m = v := by omega
      have hs := row_string HO.out (by rw [num_length])
      rw [show n / 2 ^ 0 = n by simp] at hs
      obtain rfl : z = -1 := by omega
      clear HO hk hz
      go_wp2
      go_ret
      exact ⟨rfl, HB.out⟩
    · obtain ⟨j, rfl⟩ : ∃ j, k = j + 1 := ⟨k - 1, by omega⟩
      have HS := Lib.hid (num_step' n j m)
      obtain rfl : z = (j : Int) := by omega
      have HM := Lib.hid hk
      have E := bitS n j hn
      have hm : m ≤ 61 := by omega
      have hj : j ≤ 61 := by omega
      clear hz hk hp
      have hx : 48 + n / 2 ^ j % 2 < 256 := by have : n / 2 ^ j % 2 < 2 := Nat.mod_lt _ (by decide)
                                               omega
      generalize 48 + n / 2 ^ j % 2 = x at *
      go_wp2_with (first
        | (at_builtin
           have z0 := ownsRow_kept HO.out (below_alloc1 wr (.cells #[.int .u8 (x : Int)] 5))
           have z2 : ∀ u ∈ [Value.int .u8 (x : Int)], u.oneCell' = true := (by simp [Value.oneCell'])
           have z3 : m + 1 ≤ maxLen := (by simp only [maxLen]; omega)
           have z4 : (m + 1) * 1 ≤ 140737488355328 := (by omega)
           have z5 : w.heap.size ≤ (wr.alloc (.cells #[.int .u8 (x : Int)] 5)).heap.size := (Nat.le_trans HB.out.size (by simp))
           refine wpList_append_lies (wr.alloc (.cells #[.int .u8 (x : Int)] 5)) rfl _ _ 37 rfl w.heap.size 5 i0 (.int .u8 0) 1 1 Try.underlying37 hi0 hz0 hz1 hz2 rfl (by decide) (.slice (some ⟨gb, 0, none⟩) m c) m _ rfl z0 ⟨wr.heap.size, 0, none⟩ 1 1 [.int .u8 (x : Int)] rfl rfl one_new z2 (by decide) z3 z4 z5 _ rfl ?_
           intro g3 cap3 w3 hown hgr hat hlt3
           have HO3 := Lib.hid (row_snoc hx hown)
           have HB3 := Lib.hid (HB.out.trans ((under HO.out HB.out.size hgr)))
           clear hown hgr hat z0 z2 z3 z4 z5 E HO HB))
      go_roundw
      case rel => exact ⟨j, m + 1, g3, cap3, _, rfl, by have := HM.out; omega, rfl, rfl, Lib.hid (by rw [HS.out]; exact HO3.out), HB3⟩
      case measure => simp [intOf]
end Go.Proofs.Ytjhndncmeedffaa.numS
