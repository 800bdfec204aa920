/-
  Proved: what the document's rounded quotient of chapter 3 returns (the text of XNear with other names).
  Conditions: the numbers are small enough for their doubles.
-/
import Derived.Test.YtgbelodobgmlbaaNear
namespace Go.Proofs.Ytgbelodobgmlbaa.near
open Go.ChangeShapes Go.WideShapes Go.ChangeAt Go.RowKit Go.Joins
open Go.Proofs.Ytgbelodobgmlbaa.core
set_option linter.unusedVariables false
set_option linter.unusedSimpArgs false
set_option maxRecDepth 100000 in
set_option maxHeartbeats 1000000 in
theorem specDown3 (n d : Int) (hd : 0 < d) (h1 : -4000000000000000000 ≤ n) (h2 : n ≤ 4000000000000000000) (w : World) :
    Calls Try.prog 83 #[.int .i64 n, .int .i64 d] w fun e w' => e = .returned (.int .i64 (n / d)) ∧ w = w' := by
  have hb := down_le hd h1 h2
  have hne : ¬ d = 0 := by omega
  have hne2 : (d == 0) = false := by simp; omega
  have HD := Lib.hid hd
  by_cases hm : n.tmod d < 0
  · have e := down_neg hd hm
    obtain ⟨q, hq⟩ : ∃ q, n.tdiv d = q := ⟨_, rfl⟩
    obtain ⟨r, hr⟩ : ∃ r, n.tmod d = r := ⟨_, rfl⟩
    have hrl : -d < r := by
      rw [← hr]; exact Int.lt_tmod_of_pos n hd
    rw [hq] at e
    rw [hr] at hm
    have HE := Lib.hid e
    have hq1 : -4000000000000000001 ≤ q ∧ q ≤ 4000000000000000001 := by omega
    clear e hb
    go_enter Try.func83, Try.ntmps83
    go_wp2
    all_goals go_ret
    all_goals exact ⟨ret_int (by rw [← HE.out]), rfl⟩
  · have e := down_pos hd hm
    obtain ⟨q, hq⟩ : ∃ q, n.tdiv d = q := ⟨_, rfl⟩
    obtain ⟨r, hr⟩ : ∃ r, n.tmod d = r := ⟨_, rfl⟩
    rw [hq] at e
    rw [hr] at hm
    have HE := Lib.hid e
    have hq1 : -4000000000000000001 ≤ q ∧ q ≤ 4000000000000000001 := by omega
    clear e hb
    go_enter Try.func83, Try.ntmps83
    go_wp2
    all_goals go_ret
    all_goals exact ⟨ret_int (by rw [← HE.out]), rfl⟩
set_option maxRecDepth 100000 in
set_option maxHeartbeats 1000000 in
theorem specNear3 (n d : Int) (hd : 0 < d) (hd2 : d ≤ 1000000000000000000) (h1 : -1000000000000000000 ≤ n) (h2 : n ≤ 1000000000000000000) (w : World) :
    Calls Try.prog 78 #[.int .i64 n, .int .i64 d] w fun e w' => e = .returned (.int .i64 (nr n d)) ∧ w = w' := by
  have HD := Lib.hid (fun W => specDown3 (2 * n + d) (2 * d) (by omega) (by omega) (by omega) W)
  go_enter Try.func78, Try.ntmps78
  go_wp2_with fail
  refine (HD.out _).mono ?_
  rintro e w1 ⟨rfl, rfl⟩
  go_wp2
  go_ret
  exact ⟨rfl, rfl⟩
end Go.Proofs.Ytgbelodobgmlbaa.near
