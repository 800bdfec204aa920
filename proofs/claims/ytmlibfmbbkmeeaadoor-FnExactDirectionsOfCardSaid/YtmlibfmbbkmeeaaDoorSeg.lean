/-
  Proved: what the functions on segments, their lengths and their sides return.
  Conditions: the points are in their range.
-/
import Derived.Test.YtmlibfmbbkmeeaaDoorPts
import Derived.Test.YtmlibfmbbkmeeaaDoorGeoX
import Derived.Test.YtmlibfmbbkmeeaaDoorGeoD
import Derived.Test.YtmlibfmbbkmeeaaDoorRoot
namespace Go.Proofs.YtmlibfmbbkmeeaaDoor.seg
open Go.ChangeShapes Go.WideShapes Go.ChangeAt Go.RowKit Go.Joins
open Go.Proofs.YtmlibfmbbkmeeaaDoor.core Go.Proofs.YtmlibfmbbkmeeaaDoor.geoM Go.Proofs.YtmlibfmbbkmeeaaDoor.stk
set_option linter.unusedVariables false
set_option linter.unusedSimpArgs false

/-- The place of the point is in its range. -/
def Rg (p : P3) : Prop := 0 ≤ p.1 ∧ p.1 ≤ 4095 ∧ 0 ≤ p.2.1 ∧ p.2.1 ≤ 4095
theorem sq_small {x : Int} (h1 : -4095 ≤ x) (h2 : x ≤ 4095) : 0 ≤ x * x ∧ x * x ≤ 16769025 := by
  refine ⟨sq_nonneg x, ?_⟩
  have := Int.mul_nonneg (show 0 ≤ 4095 - x by omega) (show 0 ≤ 4095 + x by omega)
  have e : (4095 - x) * (4095 + x) = 16769025 - x * x := by grind
  omega
theorem mul_small {x y : Int} (h1 : -4095 ≤ x) (h2 : x ≤ 4095) (h3 : -4095 ≤ y) (h4 : y ≤ 4095) : -16769025 ≤ x * y ∧ x * y ≤ 16769025 := by
  have a := Int.mul_nonneg (show 0 ≤ 4095 - x by omega) (show 0 ≤ 4095 + y by omega)
  have b := Int.mul_nonneg (show 0 ≤ 4095 + x by omega) (show 0 ≤ 4095 - y by omega)
  have c := Int.mul_nonneg (show 0 ≤ 4095 - x by omega) (show 0 ≤ 4095 - y by omega)
  have d := Int.mul_nonneg (show 0 ≤ 4095 + x by omega) (show 0 ≤ 4095 + y by omega)
  have ea : (4095 - x) * (4095 + y) = 16769025 + 4095 * y - 4095 * x - x * y := by grind
  have eb : (4095 + x) * (4095 - y) = 16769025 - 4095 * y + 4095 * x - x * y := by grind
  have ec : (4095 - x) * (4095 - y) = 16769025 - 4095 * y - 4095 * x + x * y := by grind
  have ed : (4095 + x) * (4095 + y) = 16769025 + 4095 * y + 4095 * x + x * y := by grind
  omega
/-- The squared distance of two points. -/
def farI (a b : P3) : Int := (b.1 - a.1) * (b.1 - a.1) + (b.2.1 - a.2.1) * (b.2.1 - a.2.1)
def far (a b : P3) : Nat := (farI a b).toNat
theorem far_cast (a b : P3) : ((far a b : Nat) : Int) = farI a b := by
  have h1 := sq_nonneg (b.1 - a.1)
  have h2 := sq_nonneg (b.2.1 - a.2.1)
  unfold far farI
  omega
theorem farI_swap (a b : P3) : farI a b = farI b a := by unfold farI; grind
theorem far_swap (a b : P3) : far a b = far b a := by unfold far; rw [farI_swap]
theorem far_le {a b : P3} (ha : Rg a) (hb : Rg b) : far a b ≤ 33538050 := by
  obtain ⟨a1, a2, a3, a4⟩ := ha
  obtain ⟨b1, b2, b3, b4⟩ := hb
  have h1 := sq_small (x := b.1 - a.1) (by omega) (by omega)
  have h2 := sq_small (x := b.2.1 - a.2.1) (by omega) (by omega)
  have h3 := far_cast a b
  unfold farI at h3
  omega
/-- The length of a segment. -/
def len (a b : P3) : Nat := root (256 * far a b)
theorem len_swap (a b : P3) : len a b = len b a := by unfold len; rw [far_swap]
theorem len_le {a b : P3} (ha : Rg a) (hb : Rg b) : len a b ≤ 92700 := by
  unfold len
  have := far_le ha hb
  rcases Nat.lt_or_ge 92700 (root (256 * far a b)) with g | g
  · have := le_root.2 g
    omega
  · exact g
/-- The side. -/
def crsP (a b c : P3) : Int := crs a.1 a.2.1 b.1 b.2.1 c.1 c.2.1
def turn (a b c : P3) : Int := sgn (crsP a b c)

theorem in_calls (x lo hi : Int) (w : World) : Calls Tryd.prog 22 #[.int .i64 x, .int .i64 lo, .int .i64 hi] w fun e w' => e = .returned (.bool (decide (lo ≤ x ∧ x ≤ hi))) ∧ w = w' := by
  go_enter Tryd.func22, Tryd.ntmps22
  go_wp2
  all_goals go_ret
  all_goals exact ⟨ret_bool (by first | rfl | (rw [Bool.eq_iff_iff]; simp; try omega)), rfl⟩
theorem in_t (x lo hi : Int) (h : lo ≤ x ∧ x ≤ hi) (w : World) : Calls Tryd.prog 22 #[.int .i64 x, .int .i64 lo, .int .i64 hi] w fun e w' => e = .returned (.bool true) ∧ w = w' :=
  (in_calls x lo hi w).mono fun _ _ ⟨he, hw⟩ => ⟨by rw [he, decide_eq_true h], hw⟩
theorem in_f (x lo hi : Int) (h : ¬ (lo ≤ x ∧ x ≤ hi)) (w : World) : Calls Tryd.prog 22 #[.int .i64 x, .int .i64 lo, .int .i64 hi] w fun e w' => e = .returned (.bool false) ∧ w = w' :=
  (in_calls x lo hi w).mono fun _ _ ⟨he, hw⟩ => ⟨by rw [he, decide_eq_false h], hw⟩
end Go.Proofs.YtmlibfmbbkmeeaaDoor.seg
