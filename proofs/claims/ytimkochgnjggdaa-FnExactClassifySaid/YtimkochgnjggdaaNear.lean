/-
  Proved: what the functions that round quotients return.
  Conditions: the numbers are small enough for their doubles.
-/
import Derived.Test.YtimkochgnjggdaaCore
namespace Go.Proofs.Ytimkochgnjggdaa.near
open Go.ChangeShapes Go.WideShapes Go.ChangeAt Go.RowKit Go.Joins
open Go.Proofs.Ytimkochgnjggdaa.core
set_option linter.unusedVariables false
set_option linter.unusedSimpArgs false
theorem ret_int {k : IntKind} {a b : Int} (h : a = b) : Ending.returned (.int k a) = .returned (.int k b) := by rw [h]
theorem down_of {n d q r : Int} (hd : 0 < d) (h : r + d * q = n) (h0 : 0 ≤ r) (h1 : r < d) : n / d = q := ((Int.ediv_emod_unique hd).2 ⟨h, h0, h1⟩).1
theorem down_neg {n d : Int} (hd : 0 < d) (h : n.tmod d < 0) : n.tdiv d - 1 = n / d := by
  have e := Int.tmod_add_mul_tdiv n d
  have hl : -d < n.tmod d := by
    exact Int.lt_tmod_of_pos n hd
  refine (down_of hd (r := n.tmod d + d) ?_ (by omega) (by omega)).symm
  rw [Int.mul_sub, Int.mul_one]
  omega
theorem down_pos {n d : Int} (hd : 0 < d) (h : ¬ n.tmod d < 0) : n.tdiv d = n / d := by
  have e := Int.tmod_add_mul_tdiv n d
  have hl : n.tmod d < d := by
    exact Int.tmod_lt_of_pos n hd
  exact (down_of hd e (by omega) hl).symm
theorem down_le {n d : Int} {B : Int} (hd : 0 < d) (h1 : -B ≤ n) (h2 : n ≤ B) : -B ≤ n / d ∧ n / d ≤ B := by
  have hB : 0 ≤ B := by omega
  have h3 : -B * d ≤ n := by
    have := Int.mul_le_mul_of_nonneg_left (show (1 : Int) ≤ d by omega) hB
    rw [Int.neg_mul]; omega
  have h4 : n < (B + 1) * d := by
    have := Int.mul_le_mul_of_nonneg_left (show (1 : Int) ≤ d by omega) (show 0 ≤ B + 1 by omega)
    omega
  have a := (Int.le_ediv_iff_mul_le hd).2 h3
  have b := (Int.ediv_lt_iff_lt_mul hd).2 h4
  omega
/-- The quotient of n and d, rounded to the nearest number, the greater one of two. -/
def nr (n d : Int) : Int := (2 * n + d) / (2 * d)

set_option maxRecDepth 100000 in
set_option maxHeartbeats 1000000 in
theorem specDown (n d : Int) (hd : 0 < d) (h1 : -4000000000000000000 ≤ n) (h2 : n ≤ 4000000000000000000) (w : World) :
    Calls Try.prog 120 #[.int .i64 n, .int .i64 d] w fun e w' => e = .returned (.int .i64 (n / d)) ∧ w = w' := by
  have hb := down_le hd h1 h2
  have hne : ¬ d = 0 := by omega
  have hne2 : (d == 0) = false := by simp; omega
  have HD := Lib.hid hd
  by_cases hm : n.tmod d < 0
  · have e := down_neg hd hm
    obtain ⟨q, hq⟩ : ∃ q, n.tdiv d = q := ⟨_, rfl⟩
    obtain ⟨r, hr⟩ : ∃ r, n.tmod d = r := ⟨_, rfl⟩
    have hrl : -d < r := by
      rw [← hr]; exact Int.lt_tmod_of_pos n hd
    rw [hq] at e
    rw [hr] at hm
    have HE := Lib.hid e
    have hq1 : -4000000000000000001 ≤ q ∧ q ≤ 4000000000000000001 := by omega
    clear e hb
    go_enter Try.func120, Try.ntmps120
    go_wp2
    all_goals go_ret
    all_goals exact ⟨ret_int (by rw [← HE.out]), rfl⟩
  · have e := down_pos hd hm
    obtain ⟨q, hq⟩ : ∃ q, n.tdiv d = q := ⟨_, rfl⟩
    obtain ⟨r, hr⟩ : ∃ r, n.tmod d = r := ⟨_, rfl⟩
    rw [hq] at e
    rw [hr] at hm
    have HE := Lib.hid e
    have hq1 : -4000000000000000001 ≤ q ∧ q ≤ 4000000000000000001 := by omega
    clear e hb
    go_enter Try.func120, Try.ntmps120
    go_wp2
    all_goals go_ret
    all_goals exact ⟨ret_int (by rw [← HE.out]), rfl⟩
set_option maxRecDepth 100000 in
set_option maxHeartbeats 1000000 in
theorem implDown (n d : Int) (hd : 0 < d) (h1 : -4000000000000000000 ≤ n) (h2 : n ≤ 4000000000000000000) (w : World) :
    Calls Try.prog 121 #[.int .i64 n, .int .i64 d] w fun e w' => e = .returned (.int .i64 (n / d)) ∧ w = w' := by
  have hb := down_le hd h1 h2
  have hne : ¬ d = 0 := by omega
  have hne2 : (d == 0) = false := by simp; omega
  have HD := Lib.hid hd
  by_cases hm : n.tmod d < 0
  · have e := down_neg hd hm
    obtain ⟨q, hq⟩ : ∃ q, n.tdiv d = q := ⟨_, rfl⟩
    obtain ⟨r, hr⟩ : ∃ r, n.tmod d = r := ⟨_, rfl⟩
    have hrl : -d < r := by
      rw [← hr]; exact Int.lt_tmod_of_pos n hd
    rw [hq] at e
    rw [hr] at hm
    have HE := Lib.hid e
    have hq1 : -4000000000000000001 ≤ q ∧ q ≤ 4000000000000000001 := by omega
    clear e hb
    go_enter Try.func121, Try.ntmps121
    go_wp2
    all_goals go_ret
    all_goals exact ⟨ret_int (by rw [← HE.out]), rfl⟩
  · have e := down_pos hd hm
    obtain ⟨q, hq⟩ : ∃ q, n.tdiv d = q := ⟨_, rfl⟩
    obtain ⟨r, hr⟩ : ∃ r, n.tmod d = r := ⟨_, rfl⟩
    rw [hq] at e
    rw [hr] at hm
    have HE := Lib.hid e
    have hq1 : -4000000000000000001 ≤ q ∧ q ≤ 4000000000000000001 := by omega
    clear e hb
    go_enter Try.func121, Try.ntmps121
    go_wp2
    all_goals go_ret
    all_goals exact ⟨ret_int (by rw [← HE.out]), rfl⟩
set_option maxRecDepth 100000 in
set_option maxHeartbeats 1000000 in
theorem specNear (n d : Int) (hd : 0 < d) (hd2 : d ≤ 1000000000000000000) (h1 : -1000000000000000000 ≤ n) (h2 : n ≤ 1000000000000000000) (w : World) :
    Calls Try.prog 98 #[.int .i64 n, .int .i64 d] w fun e w' => e = .returned (.int .i64 (nr n d)) ∧ w = w' := by
  have HD := Lib.hid (fun W => specDown (2 * n + d) (2 * d) (by omega) (by omega) (by omega) W)
  go_enter Try.func98, Try.ntmps98
  go_wp2_with fail
  refine (HD.out _).mono ?_
  rintro e w1 ⟨rfl, rfl⟩
  go_wp2
  go_ret
  exact ⟨rfl, rfl⟩
set_option maxRecDepth 100000 in
set_option maxHeartbeats 1000000 in
theorem implNear (n d : Int) (hd : 0 < d) (hd2 : d ≤ 1000000000000000000) (h1 : -1000000000000000000 ≤ n) (h2 : n ≤ 1000000000000000000) (w : World) :
    Calls Try.prog 101 #[.int .i64 n, .int .i64 d] w fun e w' => e = .returned (.int .i64 (nr n d)) ∧ w = w' := by
  have HD := Lib.hid (fun W => implDown (2 * n + d) (2 * d) (by omega) (by omega) (by omega) W)
  go_enter Try.func101, Try.ntmps101
  go_wp2_with fail
  refine (HD.out _).mono ?_
  rintro e w1 ⟨rfl, rfl⟩
  go_wp2
  go_ret
  exact ⟨rfl, rfl⟩
end Go.Proofs.Ytimkochgnjggdaa.near
