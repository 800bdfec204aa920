/-
  Proved: what the functions that tell directions return.
  Conditions: the table of directions holds what the program's text lays in it.
-/
import Derived.Test.YtmlibfmbbkmeeaaDoorCore
import Derived.Test.YtmlibfmbbkmeeaaDoorGeoD
import Derived.IntWalk
namespace Go.Proofs.YtmlibfmbbkmeeaaDoor.dir
open Go.ChangeShapes Go.WideShapes Go.ChangeAt Go.RowKit Go.Joins
open Go.Proofs.YtmlibfmbbkmeeaaDoor.core Go.Proofs.YtmlibfmbbkmeeaaDoor.geoM
set_option linter.unusedVariables false
set_option linter.unusedSimpArgs false
theorem ret_b {a b : Bool} (h : a = b) : Ending.returned (.bool a) = .returned (.bool b) := by rw [h]
theorem ret_i {k : IntKind} {a b : Int} (h : a = b) : Ending.returned (.int k a) = .returned (.int k b) := by rw [h]
theorem ret2 {a b z : Int} (h : a = b) : Ending.returned (.tuple #[.int .i64 a, .int .i64 z]) = .returned (.tuple #[.int .i64 b, .int .i64 z]) := by rw [h]
theorem mixedO : Tryd.prog.follows .mixedOrders = true := by kernel_rfl

theorem isNaN_calls (a : Int) (w : World) : Calls Tryd.prog 32 #[.int .i64 a] w fun e w' => e = .returned (.bool false) ∧ w = w' := by
  have hne : (a != a) = false := by simp
  go_enter Tryd.func32, Tryd.ntmps32
  go_wp2
  go_ret
  exact ⟨ret_b (by first | rfl | simp), rfl⟩
theorem cmp_calls (a b : Int) (w : World) : Calls Tryd.prog 31 #[.int .i64 a, .int .i64 b] w fun e w' => e = .returned (.int .i64 (sgn (a - b))) ∧ w = w' := by
  go_enter Tryd.func31, Tryd.ntmps31
  go_wp2_with fail
  refine (isNaN_calls a _).mono ?_
  rintro e w1 ⟨rfl, rfl⟩
  go_wp2_with fail
  refine (isNaN_calls b _).mono ?_
  rintro e w1 ⟨rfl, rfl⟩
  go_wp2
  all_goals go_ret
  all_goals exact ⟨ret_i (by unfold sgn; repeat' split <;> omega), rfl⟩
theorem cmp_b (a s : Int) (h : sgn a = s) (w : World) : Calls Tryd.prog 31 #[.int .i64 a, .int .i64 0] w fun e w' => e = .returned (.int .i64 s) ∧ Below w.heap.size w w' :=
  (cmp_calls a 0 w).mono fun _ _ ⟨he, hw⟩ => ⟨by rw [he, ← h, Int.sub_zero], by rw [← hw]; exact Below.refl _ _⟩
theorem in_calls (x lo hi : Int) (w : World) : Calls Tryd.prog 22 #[.int .i64 x, .int .i64 lo, .int .i64 hi] w fun e w' => e = .returned (.bool (decide (lo ≤ x ∧ x ≤ hi))) ∧ w = w' := by
  go_enter Tryd.func22, Tryd.ntmps22
  go_wp2
  all_goals go_ret
  all_goals exact ⟨ret_b (by first | rfl | (rw [Bool.eq_iff_iff]; simp; try omega)), rfl⟩
theorem in_r (x lo hi : Int) (r : Bool) (h : decide (lo ≤ x ∧ x ≤ hi) = r) (w : World) : Calls Tryd.prog 22 #[.int .i64 x, .int .i64 lo, .int .i64 hi] w fun e w' => e = .returned (.bool r) ∧ w = w' :=
  (in_calls x lo hi w).mono fun _ _ ⟨he, hw⟩ => ⟨by rw [he, h], hw⟩
theorem size_calls (n : Int) (h1 : -4095 ≤ n) (h2 : n ≤ 4095) (w : World) : Calls Tryd.prog 30 #[.int .i64 n] w fun e w' => e = .returned (.int .i64 (absI n)) ∧ w = w' := by
  by_cases h : n < 0
  · go_enter Tryd.func30, Tryd.ntmps30
    go_wp2
    go_ret
    exact ⟨ret_i (by unfold absI; rw [if_pos h]), rfl⟩
  · go_enter Tryd.func30, Tryd.ntmps30
    go_wp2
    go_ret
    exact ⟨ret_i (by unfold absI; rw [if_neg (by omega)]), rfl⟩
theorem abs_rng {n : Int} (h1 : -4095 ≤ n) (h2 : n ≤ 4095) : 0 ≤ absI n ∧ absI n ≤ 4095 := by unfold absI; split <;> omega
theorem sq_rng {x : Int} (L : Int) (h1 : 0 ≤ x) (h2 : x ≤ L) : 0 ≤ x * x ∧ x * x ≤ L * L := ⟨Int.mul_nonneg h1 h1, Int.mul_le_mul h2 h2 h1 (by omega)⟩

set_option maxRecDepth 100000 in
set_option maxHeartbeats 2000000 in
theorem sector_calls (dx dy : Int) (hx1 : -4095 ≤ dx) (hx2 : dx ≤ 4095) (hy1 : -4095 ≤ dy) (hy2 : dy ≤ 4095) (w : World) :
    Calls Tryd.prog 23 #[.int .i64 dx, .int .i64 dy] w fun e w' => e = .returned (.int .i64 (dirN dx dy)) ∧ w = w' := by
  have SX := Lib.hid (fun W => size_calls dx hx1 hx2 W)
  have SY := Lib.hid (fun W => size_calls dy hy1 hy2 W)
  have hX := abs_rng hx1 hx2
  have hY := abs_rng hy1 hy2
  have hD : dirN dx dy = if (absI dx + absI dy) * (absI dx + absI dy) ≤ 2 * absI dx * absI dx then (if 0 < dx then 0 else 4)
    else if (absI dx + absI dy) * (absI dx + absI dy) ≤ 2 * absI dy * absI dy then (if 0 < dy then 2 else 6)
    else if 0 < dx ∧ 0 < dy then 1 else if dx < 0 ∧ 0 < dy then 3 else if dx < 0 then 5 else 7 := rfl
  generalize absI dx = x at *
  generalize absI dy = y at *
  have h1 := sq_rng (x := x + y) 8190 (by omega) (by omega)
  have h2 := sq_rng (x := x) 4095 (by omega) (by omega)
  have h3 := sq_rng (x := y) 4095 (by omega) (by omega)
  have e2 : 2 * x * x = 2 * (x * x) := by grind
  have e3 : 2 * y * y = 2 * (y * y) := by grind
  obtain ⟨A, hA⟩ : ∃ A, (x + y) * (x + y) = A := ⟨_, rfl⟩
  obtain ⟨B, hB⟩ : ∃ B, 2 * x * x = B := ⟨_, rfl⟩
  obtain ⟨C, hC⟩ : ∃ C, 2 * y * y = C := ⟨_, rfl⟩
  rw [hA] at h1
  have hB1 : 0 ≤ B ∧ B ≤ 33538050 := by omega
  have hC1 : 0 ≤ C ∧ C ≤ 33538050 := by omega
  rw [hA, hB, hC] at hD
  have HD := Lib.hid hD
  clear hD e2 e3 h2 h3
  go_enter Tryd.func23, Tryd.ntmps23
  go_wp2_with fail
  refine (SX.out _).mono ?_
  rintro e w1 ⟨rfl, rfl⟩
  go_wp2_with fail
  refine (SY.out _).mono ?_
  rintro e w1 ⟨rfl, rfl⟩
  clear SX SY
  go_wp2
  all_goals go_ret
  all_goals (refine ⟨ret_i ?_, rfl⟩; rw [HD.out]; clear hA hB hC; repeat' split; all_goals omega)
set_option maxRecDepth 100000 in
set_option maxHeartbeats 2000000 in
/-- The program's direction: from the table, by the signs that are left. -/
theorem dir_calls (dx dy : Int) (hx1 : -4095 ≤ dx) (hx2 : dx ≤ 4095) (hy1 : -4095 ≤ dy) (hy2 : dy ≤ 4095) (h0 : ¬ (dx = 0 ∧ dy = 0)) (w : World) (hz : 0 < w.heap.size)
    (ht : ∀ r c : Nat, r < 3 → c < 3 → w.cell? ⟨0, r * 3 + c, none⟩ = some (.int .i64 (sect r c))) :
    Calls Tryd.prog 28 #[.int .i64 dx, .int .i64 dy] w fun e w' => e = .returned (.int .i64 (dirN dx dy)) ∧ Below w.heap.size w w' := by
  have hX := abs_rng hx1 hx2
  have hY := abs_rng hy1 hy2
  have m1 : max dx (-dx) = absI dx := by unfold absI; split <;> omega
  have m2 : max dy (-dy) = absI dy := by unfold absI; split <;> omega
  have key : ∃ (u v : Int) (r c : Nat), r < 3 ∧ c < 3 ∧ sgn v = (r : Int) - 1 ∧ sgn u = (c : Int) - 1 ∧ dirN dx dy = sect r c ∧
      ((absI dx + absI dy) * (absI dx + absI dy) ≤ 2 * dx * dx ∧ u = dx ∧ v = 0 ∨ ¬ (absI dx + absI dy) * (absI dx + absI dy) ≤ 2 * dx * dx ∧ (absI dx + absI dy) * (absI dx + absI dy) ≤ 2 * dy * dy ∧ u = 0 ∧ v = dy ∨ ¬ (absI dx + absI dy) * (absI dx + absI dy) ≤ 2 * dx * dx ∧ ¬ (absI dx + absI dy) * (absI dx + absI dy) ≤ 2 * dy * dy ∧ u = dx ∧ v = dy) := by
    have sr : ∀ n : Int, ∃ k : Nat, k < 3 ∧ sgn n = (k : Int) - 1 ∧ 1 + sgn n = (k : Int) := fun n => by
      refine ⟨(1 + sgn n).toNat, ?_, ?_, ?_⟩ <;> (unfold sgn; split <;> (try split) <;> omega)
    obtain ⟨r, r1, r2, r3⟩ := sr dy
    obtain ⟨c, c1, c2, c3⟩ := sr dx
    by_cases h1 : (absI dx + absI dy) * (absI dx + absI dy) ≤ 2 * dx * dx
    · exact ⟨dx, 0, 1, c, by omega, c1, rfl, c2, by rw [dir_x dx dy h0 h1, c3]; rfl, .inl ⟨h1, rfl, rfl⟩⟩
    · by_cases h2 : (absI dx + absI dy) * (absI dx + absI dy) ≤ 2 * dy * dy
      · exact ⟨0, dy, r, 1, r1, by omega, r2, rfl, by rw [dir_y dx dy h0 h1 h2, r3]; rfl, .inr (.inl ⟨h1, h2, rfl, rfl⟩)⟩
      · exact ⟨dx, dy, r, c, r1, c1, r2, c2, by rw [dir_d dx dy h1 h2, r3, c3], .inr (.inr ⟨h1, h2, rfl, rfl⟩)⟩
  obtain ⟨u, v, r, c, hr3, hc3, hv, hu, hd, hcs⟩ := key
  have HC := Lib.hid (fun W => cmp_b v _ hv W)
  have HR := Lib.hid (fun W => cmp_b u _ hu W)
  have b1 : 2 * dx * dx = 2 * (absI dx * absI dx) := by rw [← abs_sq]; grind
  have b2 : 2 * dy * dy = 2 * (absI dy * absI dy) := by rw [← abs_sq]; grind
  rw [hd]
  clear hd m1 m2
  have ax : (0 ≤ dx ∧ absI dx = dx) ∨ (dx < 0 ∧ absI dx = -dx) := by unfold absI; split <;> omega
  have ay : (0 ≤ dy ∧ absI dy = dy) ∨ (dy < 0 ∧ absI dy = -dy) := by unfold absI; split <;> omega
  have h1 := sq_rng (x := absI dx + absI dy) 8190 (by omega) (by omega)
  have h2 := sq_rng (x := absI dx) 4095 (by omega) (by omega)
  have h3 := sq_rng (x := absI dy) 4095 (by omega) (by omega)
  obtain ⟨B, hB⟩ : ∃ B, 2 * dx * dx = B := ⟨_, rfl⟩
  obtain ⟨C, hC⟩ : ∃ C, 2 * dy * dy = C := ⟨_, rfl⟩
  rw [hB] at b1 hcs
  rw [hC] at b2 hcs
  have hB1 : 0 ≤ B ∧ B ≤ 33538050 := by omega
  have hC1 : 0 ≤ C ∧ C ≤ 33538050 := by omega
  have tc := cell_kept (w := w) (a := ⟨0, r * 3 + c, none⟩) hz (ht r c hr3 hc3)
  have w1 : IntKind.i64.wrap (1 + ((r : Int) - 1)) = (r : Int) := by rw [IntWalk.i64_in _ (by omega)]; omega
  have w2 : IntKind.i64.wrap (1 + ((c : Int) - 1)) = (c : Int) := by rw [IntWalk.i64_in _ (by omega)]; omega
  have w3 : IntKind.i64.wrap (r : Int) = (r : Int) := IntWalk.i64_in _ (by omega)
  have w4 : IntKind.i64.wrap (c : Int) = (c : Int) := IntWalk.i64_in _ (by omega)
  have hri : (r : Int) < 3 := by omega
  have hci : (c : Int) < 3 := by omega
  have hm := mixedO
  clear b1 b2 h2 h3 hv hu ht h0
  generalize sect r c = z at *
  have ef : ∀ n : Int, n < 0 → (if n < -n then -n else n) = -n := fun n h => if_pos (by omega)
  have HW := Lib.hid (And.intro w1 (And.intro w2 (And.intro w3 w4)))
  clear w1 w2 w3 w4
  rcases ax with ⟨px, ex⟩ | ⟨px, ex⟩ <;> rcases ay with ⟨py, ey⟩ | ⟨py, ey⟩
  all_goals
    rw [ex, ey] at h1 hcs
    clear ex ey hX hY
  all_goals
    first
      | (obtain ⟨A, hA⟩ : ∃ A, (dx + dy) * (dx + dy) = A := ⟨_, rfl⟩; rw [hA] at h1 hcs)
      | (obtain ⟨A, hA⟩ : ∃ A, (dx + -dy) * (dx + -dy) = A := ⟨_, rfl⟩; rw [hA] at h1 hcs)
      | (obtain ⟨A, hA⟩ : ∃ A, (-dx + dy) * (-dx + dy) = A := ⟨_, rfl⟩; rw [hA] at h1 hcs)
      | (obtain ⟨A, hA⟩ : ∃ A, (-dx + -dy) * (-dx + -dy) = A := ⟨_, rfl⟩; rw [hA] at h1 hcs)
    have hA1 : 0 ≤ A := h1.1
    have hA2 : A ≤ 67076100 := by omega
    have hwA : IntKind.i64.wrap A = A := IntWalk.i64_in _ (by omega)
    have hwB : wrap64 A = A := by unfold wrap64; omega
    clear h1
    rcases hcs with ⟨k1, rfl, rfl⟩ | ⟨k1, k2, rfl, rfl⟩ | ⟨k1, k2, rfl, rfl⟩
  all_goals
    go_enter Tryd.func28, Tryd.ntmps28
    go_wp2
    all_goals first
      | (exfalso; simp only [ef _ py, hA, hwB] at *; omega)
      | skip
    all_goals (obtain ⟨w1, w2, w3, w4⟩ := HW.out)
    all_goals clear hA hB hC
    refine wp_region_quiet_kept (by assumption) (by kernel_rfl) ?_
    repeat (first | go_big_quiet_step ((go_at_call 31; (first | (with_reducible exact Calls.kept_of (HC.out _)) | (with_reducible exact Calls.kept_of (HR.out _))))) | quiet_step ((go_at_call 31; (first | (with_reducible exact Calls.kept_of (HC.out _)) | (with_reducible exact Calls.kept_of (HR.out _))))))
    refine wpQuiet_nil ?_
    intro w9 hw'
    have hB9 : Below w.heap.size w w9 := by obtain ⟨⟨wk, hb0⟩, hw''⟩ := hw'; rw [hw'']; exact hb0
    have HB2 := Lib.hid hB9
    clear hw' hB9 tc w1 w2 w3 w4
    go_wp2
    go_ret
    exact ⟨rfl, HB2.out⟩
end Go.Proofs.YtmlibfmbbkmeeaaDoor.dir
