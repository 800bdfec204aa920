/-
  Proved: the document's function that writes a number in bits, and its test of a range.
  Conditions: none.
-/
import Derived.Test.YtjhndncmeedffaaDoorBytes
import Derived.Test.YtjhndncmeedffaaDoorBits
namespace Go.Proofs.YtjhndncmeedffaaDoor.numS
open Go.ChangeShapes Go.WideShapes Go.ChangeAt Go.RowKit Go.Joins
open Go.Proofs.YtjhndncmeedffaaDoor.core Go.Proofs.YtjhndncmeedffaaDoor.rows Go.Proofs.YtjhndncmeedffaaDoor.bits
set_option linter.unusedVariables false
set_option linter.unusedSimpArgs false

set_option maxHeartbeats 1000000 in
theorem in_yes (n a b : Int) (w : World) (h : a ≤ n ∧ n ≤ b) : Calls Tryd.prog 23 #[.int .i64 n, .int .i64 a, .int .i64 b] w fun e w' => e = .returned (.bool true) ∧ w = w' := by
  obtain ⟨h1, h2⟩ := h
  go_enter Tryd.func23, Tryd.ntmps23
  go_wp2
  go_ret
  exact ⟨by simp [h2], by trivial⟩
set_option maxHeartbeats 1000000 in
theorem in_no (n a b : Int) (w : World) (h : ¬ (a ≤ n ∧ n ≤ b)) : Calls Tryd.prog 23 #[.int .i64 n, .int .i64 a, .int .i64 b] w fun e w' => e = .returned (.bool false) ∧ w = w' := by
  by_cases h1 : a ≤ n
  · have h2 : decide (n ≤ b) = false := decide_eq_false fun x => h ⟨h1, x⟩
    clear h
    go_enter Tryd.func23, Tryd.ntmps23
    go_wp2
    go_ret
    exact ⟨by simp [h2], by trivial⟩
  · clear h
    go_enter Tryd.func23, Tryd.ntmps23
    go_wp2
    go_ret
    exact ⟨by trivial, by trivial⟩

theorem bit1 (x : Int) (h0 : 0 ≤ x) (h1 : x ≤ 9223372036854775807) : bits .and .i64 x 1 = x % 2 :=
  bits_mask .i64 63 (by decide) (fun n a b => IntWalk.i64_in _ (by omega)) 1 (by decide) x h0 (by omega)
theorem bit_div (n j : Nat) (hn : n ≤ 9223372036854775807) : (0 : Int) ≤ (n : Int) / 2 ^ j ∧ (n : Int) / 2 ^ j ≤ 9223372036854775807 ∧ (n : Int) / 2 ^ j % 2 = ((n / 2 ^ j % 2 : Nat) : Int) := by
  have e : (n : Int) / 2 ^ j = ((n / 2 ^ j : Nat) : Int) := by simp
  have h : n / 2 ^ j ≤ n := Nat.div_le_self _ _
  rw [e]
  generalize n / 2 ^ j = x at *
  omega
theorem bitS (n j : Nat) (hn : n ≤ 9223372036854775807) :
    wrap64 (48 + bits BinOp.and IntKind.i64 ((n : Int) / 2 ^ j) 1) % 256 = ((48 + n / 2 ^ j % 2 : Nat) : Int) := by
  obtain ⟨h0, h1, h2⟩ := bit_div n j hn
  rw [bit1 _ h0 h1, h2]
  have : n / 2 ^ j % 2 < 2 := Nat.mod_lt _ (by decide)
  generalize n / 2 ^ j % 2 = q at *
  unfold wrap64
  omega

end Go.Proofs.YtjhndncmeedffaaDoor.numS
