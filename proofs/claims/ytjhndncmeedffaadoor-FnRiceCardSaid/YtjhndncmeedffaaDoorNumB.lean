/-
  Proved: both functions that write a number in bits return the same.
  Conditions: none.
-/
import Derived.Test.YtjhndncmeedffaaDoorNumI
namespace Go.Proofs.YtjhndncmeedffaaDoor.numB
open Go.ChangeShapes Go.WideShapes Go.ChangeAt Go.RowKit Go.Joins
open Go.Proofs.YtjhndncmeedffaaDoor.core Go.Proofs.YtjhndncmeedffaaDoor.rows Go.Proofs.YtjhndncmeedffaaDoor.bits Go.Proofs.YtjhndncmeedffaaDoor.numS Go.Proofs.YtjhndncmeedffaaDoor.writer
set_option linter.unusedVariables false
set_option linter.unusedSimpArgs false

theorem pow40 (v : Nat) (h : v ≤ 40) : (1 : Int) ≤ 2 ^ v ∧ (2 : Int) ^ v ≤ 1099511627776 := by
  have h1 : 2 ^ v ≤ 2 ^ 40 := Nat.pow_le_pow_right (by decide) h
  have h2 : 0 < 2 ^ v := Nat.two_pow_pos v
  have e : (2 : Int) ^ v = ((2 ^ v : Nat) : Int) := by simp
  rw [e]
  generalize 2 ^ v = x at *
  have : 2 ^ 40 = 1099511627776 := by decide
  omega

set_option maxRecDepth 100000 in
set_option maxHeartbeats 1000000 in
theorem impl_yes (n v : Nat) (h1 : 1 ≤ v) (h2 : v ≤ 40) (hn : n < 2 ^ v) (w : World) :
    Calls Tryd.prog 15 #[.int .i64 n, .int .i64 v] w fun e w' => e = .returned (.tuple #[.string ⟨(num n v).toArray⟩, .int .i64 0]) ∧ Below w.heap.size w w' := by
  have hp := pow40 v h2
  have hn' : (n : Int) < 2 ^ v := by
    have e : (2 : Int) ^ v = ((2 ^ v : Nat) : Int) := by simp
    rw [e]; omega
  have hne : num n v ≠ [] := fun h => by have := num_length n v; rw [h] at this; simp at this; omega
  have HC := Lib.hid (number_calls w.heap.size w.heap.size [] n v (by omega) (by omega) _ (wr_start w) (by simp; omega) (by simp))
  clear hn
  have HNE := Lib.hid hne
  clear hne
  go_enter Tryd.func15, Tryd.ntmps15
  go_wp2_with fail
  with_reducible refine HC.out.mono ?_
  rintro e w1 ⟨rfl, h⟩
  have HB := Lib.hid ((below_alloc1 w _).trans h.below)
  have HD := Lib.hid (bits_some w.heap.size w.heap.size _ w1 h.wr HNE.out)
  clear h HC
  go_wp2_with fail
  with_reducible refine HD.out.mono ?_
  rintro e w2 ⟨rfl, h⟩
  have HB2 := Lib.hid (HB.out.trans h)
  clear h HD HB
  go_wp2
  go_ret2
  exact ⟨rfl, HB2.out⟩
def bad (n v : Int) : Prop := v < 1 ∨ 40 < v ∨ n < 0 ∨ (2 : Int) ^ v.toNat ≤ n
set_option maxRecDepth 100000 in
set_option maxHeartbeats 1000000 in
theorem impl_no (n v : Int) (hn : inI64 n) (hv : inI64 v) (h : bad n v) (w : World) :
    Calls Tryd.prog 15 #[.int .i64 n, .int .i64 v] w fun e w' => e = .returned (.tuple #[.string ⟨#[]⟩, .int .i64 2]) ∧ Below w.heap.size w w' := by
  by_cases h1 : v < 1
  · clear h hn hv
    go_enter Tryd.func15, Tryd.ntmps15
    go_wp2
    go_ret2
    exact ⟨rfl, Below.refl _ _⟩
  · by_cases h2 : 40 < v
    · clear h hn hv
      go_enter Tryd.func15, Tryd.ntmps15
      go_wp2
      go_ret2
      exact ⟨rfl, Below.refl _ _⟩
    · have d2 : decide (40 < v) = false := decide_eq_false h2
      by_cases h3 : n < 0
      · clear h hn hv
        go_enter Tryd.func15, Tryd.ntmps15
        go_wp2
        go_ret2
        exact ⟨rfl, Below.refl _ _⟩
      · have d3 : decide (n < 0) = false := decide_eq_false h3
        obtain ⟨V, rfl⟩ : ∃ V : Nat, v = (V : Int) := ⟨v.toNat, by omega⟩
        have hp := pow40 V (by omega)
        have h4 : (2 : Int) ^ V ≤ n := by unfold bad at h; simp at h; omega
        have hv1 : V ≤ 40 := by omega
        have hv2 : 1 ≤ V := by omega
        clear h hn hv h1 h2 h3
        go_enter Tryd.func15, Tryd.ntmps15
        go_wp2
        go_ret2
        exact ⟨rfl, Below.refl _ _⟩
end Go.Proofs.YtjhndncmeedffaaDoor.numB
