/-
  Proved: what the functions that take square roots return.
  Conditions: none.
-/
import Derived.Test.YtmphnhffelfbgaaCore
import Derived.Test.YtmphnhffelfbgaaGeoM
import Derived.IntWalk
namespace Go.Proofs.Ytmphnhffelfbgaa.root
open Go.ChangeShapes Go.WideShapes Go.ChangeAt Go.RowKit Go.Joins
open Go.Proofs.Ytmphnhffelfbgaa.core Go.Proofs.Ytmphnhffelfbgaa.geoM
set_option linter.unusedVariables false
set_option linter.unusedSimpArgs false
theorem ret_int {k : IntKind} {a b : Int} (h : a = b) : Ending.returned (.int k a) = .returned (.int k b) := by rw [h]

set_option maxRecDepth 100000 in
set_option maxHeartbeats 1000000 in
theorem spec_calls (n : Nat) (hn : n ≤ 1000000000000000) (w : World) :
    Calls Try.prog 81 #[.int .i64 n] w fun e w' => e = .returned (.int .i64 (root n : Nat)) ∧ w = w' := by
  have h4 : root n ≤ 40000000 := by
    rcases Nat.lt_or_ge 40000000 (root n) with g | g
    · have := le_root.2 (show 40000001 ≤ root n from g); omega
    · exact g
  go_enter Try.func81, Try.ntmps81
  go_wp2
  go_loop [3, 4] (fun lo hi => ∃ a b : Nat, lo = .int .i64 a ∧ hi = .int .i64 b ∧ a ≤ root n ∧ root n ≤ b ∧ b ≤ 40000000) (fun lo hi => (intOf hi - intOf lo).toNat)
  case atStart => exact ⟨0, 40000000, rfl, rfl, Nat.zero_le _, h4, Nat.le_refl _⟩
  case round =>
    obtain ⟨a, b, rfl, rfl, ha, hb, hbb⟩ := hrel
    by_cases hlt : a < b
    · obtain ⟨m, hm⟩ : ∃ m, m = (a + b + 1) / 2 := ⟨_, rfl⟩
      have m1 : a + 1 ≤ m := by omega
      have m2 : m ≤ b := by omega
      have hmi : ((a : Int) + (b : Int) + 1) / 2 = (m : Int) := by omega
      have hsq : m * m ≤ 1600000000000000 := Nat.le_trans (sq_le (show m ≤ 40000000 by omega)) (by decide)
      have hsi : (m : Int) * (m : Int) = ((m * m : Nat) : Int) := by simp
      obtain ⟨q, hq⟩ : ∃ q, m * m = q := ⟨_, rfl⟩
      rw [hq] at hsi hsq
      have hli : (a : Int) < (b : Int) := by omega
      clear hm
      by_cases hle : m * m ≤ n
      · have hr := le_root.1 hle
        rw [hq] at hle
        have hle' : (q : Int) ≤ (n : Int) := by omega
        clear hq hle
        go_wp2
        go_round
        case rel => exact ⟨m, b, by first | rfl | rw [hmi], rfl, hr, hb, hbb⟩
        case measure => simp [intOf]; omega
      · have hr : root n ≤ m - 1 := by
          rcases Nat.lt_or_ge (m - 1) (root n) with g | g
          · exact absurd (le_root.2 (show m ≤ root n by omega)) hle
          · exact g
        rw [hq] at hle
        have hle' : ¬ (q : Int) ≤ (n : Int) := by omega
        clear hq hle
        go_wp2
        go_round
        case rel => exact ⟨a, m - 1, rfl, by first | rfl | (congr 1; omega), ha, hr, by omega⟩
        case measure => simp [intOf]; omega
    · have hli : ¬ (a : Int) < (b : Int) := by omega
      go_wp2
      go_ret
      exact ⟨ret_int (by omega), rfl⟩
end Go.Proofs.Ytmphnhffelfbgaa.root
