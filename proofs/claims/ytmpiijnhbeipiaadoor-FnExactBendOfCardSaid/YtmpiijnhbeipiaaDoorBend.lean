/-
  Proved: both functions that tell the turn between two directions return the same.
  Conditions: the directions are from 0 to 7.
-/
import Derived.Test.YtmpiijnhbeipiaaDoorDirS
namespace Go.Proofs.YtmpiijnhbeipiaaDoor.bend
open Go.ChangeShapes Go.WideShapes Go.ChangeAt Go.RowKit Go.Joins
open Go.Proofs.YtmpiijnhbeipiaaDoor.core Go.Proofs.YtmpiijnhbeipiaaDoor.dir
set_option linter.unusedVariables false
set_option linter.unusedSimpArgs false
/-- The turn from a direction to another one. -/
def turnB (a b : Int) : Int := (b - a + 11) % 8 - 3
theorem turnB_rng (a b : Int) : -3 ≤ turnB a b ∧ turnB a b ≤ 4 := by unfold turnB; omega
theorem specBend (a b : Int) (a1 : 0 ≤ a) (a2 : a ≤ 7) (b1 : 0 ≤ b) (b2 : b ≤ 7) (w : World) : Calls Tryd.prog 36 #[.int .i64 a, .int .i64 b] w fun e w' => e = .returned (.int .i64 (turnB a b)) ∧ w = w' := by
  have ht : (b - a + 8).tmod 8 = (b - a + 8) % 8 := Int.tmod_eq_emod_of_nonneg (by omega)
  obtain ⟨r, hr⟩ : ∃ r, (b - a + 8) % 8 = r := ⟨_, rfl⟩
  have hr1 : 0 ≤ r ∧ r ≤ 7 := by omega
  rw [hr] at ht
  have hb : turnB a b = if 4 < r then r - 8 else r := by unfold turnB; split <;> omega
  rw [hb]
  clear hb hr
  go_enter Tryd.func36, Tryd.ntmps36
  go_wp2
  all_goals go_ret
  all_goals exact ⟨ret_i (by first | (split <;> omega) | omega), rfl⟩
theorem implBend (a b : Int) (a1 : 0 ≤ a) (a2 : a ≤ 7) (b1 : 0 ≤ b) (b2 : b ≤ 7) (w : World) : Calls Tryd.prog 37 #[.int .i64 a, .int .i64 b] w fun e w' => e = .returned (.int .i64 (turnB a b)) ∧ w = w' := by
  have ht : (b - a + 3 + 8).tmod 8 = (b - a + 11) % 8 := by rw [Int.tmod_eq_emod_of_nonneg (by omega)]; omega
  have ht2 : (b - a - -3 + 8).tmod 8 = (b - a + 11) % 8 := by rw [Int.tmod_eq_emod_of_nonneg (by omega)]; omega
  obtain ⟨r, hr⟩ : ∃ r, (b - a + 11) % 8 = r := ⟨_, rfl⟩
  have hr1 : 0 ≤ r ∧ r ≤ 7 := by omega
  rw [hr] at ht ht2
  have hb : turnB a b = r - 3 := by unfold turnB; omega
  rw [hb]
  clear hb hr
  go_enter Tryd.func37, Tryd.ntmps37
  go_wp2
  all_goals go_ret
  all_goals exact ⟨ret_i (by omega), rfl⟩
end Go.Proofs.YtmpiijnhbeipiaaDoor.bend
