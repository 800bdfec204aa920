/-
  Proved: both programs' sizes of Rice codes, and their best parameters.
  Conditions: none.
-/
import Derived.Test.YtjhndncmeedffaaDoorRng
import Derived.Test.YtjhndncmeedffaaDoorRiceI
namespace Go.Proofs.YtjhndncmeedffaaDoor.size
open Go.ChangeShapes Go.WideShapes Go.ChangeAt Go.RowKit Go.Joins
open Go.Proofs.YtjhndncmeedffaaDoor.core Go.Proofs.YtjhndncmeedffaaDoor.rows Go.Proofs.YtjhndncmeedffaaDoor.bits Go.Proofs.YtjhndncmeedffaaDoor.numS Go.Proofs.YtjhndncmeedffaaDoor.riceS Go.Proofs.YtjhndncmeedffaaDoor.riceI Go.Proofs.YtjhndncmeedffaaDoor.ints
set_option linter.unusedVariables false
set_option linter.unusedSimpArgs false

set_option maxRecDepth 100000 in
set_option maxHeartbeats 1000000 in
theorem length_calls (x : Int) (k : Nat) (h : -1000000000 ≤ x ∧ x ≤ 1000000000) (hk : k ≤ 12) (w : World) :
    Calls Tryd.prog 52 #[.int .i64 x, .int .i64 k] w fun e w' => e = .returned (.int .i64 ((rice x k).length : Nat)) ∧ w = w' := by
  have hu : fold x ≤ 2000000000 := fold_le x 1000000000 h
  have HF := Lib.hid (folded_calls x h w)
  have HR := Lib.hid (rice_length x k)
  clear h
  by_cases hs : fold x / 2 ^ k < 20
  · have HL := Lib.hid (long_no (fold x) k hu hk hs w)
    have HR2 := Lib.hid (HR.out.trans (if_pos hs))
    have HQ := quo (fold x) k
    generalize (rice x k).length = c at *
    generalize fold x = u at *
    generalize u / 2 ^ k = q at *
    clear HR
    have hq : (q : Int) ≤ 20 := by omega
    clear hs
    go_enter Tryd.func52, Tryd.ntmps52
    go_wp2_with fail
    with_reducible refine HF.out.mono ?_
    rintro e w1 ⟨rfl, rfl⟩
    go_wp2_with fail
    with_reducible refine HL.out.mono ?_
    rintro e w1 ⟨rfl, rfl⟩
    go_wp2
    go_ret
    exact ⟨ret_int (by rw [HR2.out]; go_num), by trivial⟩
  · have HL := Lib.hid (long_yes (fold x) k hu hk hs w)
    have HR2 := Lib.hid (HR.out.trans (if_neg hs))
    generalize (rice x k).length = c at *
    generalize fold x = u at *
    clear HR hs
    go_enter Tryd.func52, Tryd.ntmps52
    go_wp2_with fail
    with_reducible refine HF.out.mono ?_
    rintro e w1 ⟨rfl, rfl⟩
    go_wp2_with fail
    with_reducible refine HL.out.mono ?_
    rintro e w1 ⟨rfl, rfl⟩
    go_wp2
    go_ret
    exact ⟨ret_int (by rw [HR2.out]; rfl), by trivial⟩

set_option maxRecDepth 100000 in
set_option maxHeartbeats 1000000 in
theorem lengths_calls (A : Option Addr) (n c : Nat) (f : Nat → Int) (k : Nat) (hk : k ≤ 12) (w : World) (hn : n ≤ 60) (h : IntsAt w A n f) (hA : AllIn 1000000000 f n) :
    Calls Tryd.prog 35 #[.slice A n c, .int .i64 k] w fun e w' => e = .returned (.int .i64 (size f k n : Nat)) ∧ w = w' := by
  have H := Lib.hid h
  have HA := Lib.hid hA
  clear h hA
  go_enter Tryd.func35, Tryd.ntmps35
  go_wp2
  go_loop [5, 10] (fun s i => ∃ j z : Nat, j ≤ n ∧ z ≤ 52 * j ∧ i = .int .i64 (j : Int) ∧ s = .int .i64 (z : Int) ∧ Hid (z = size f k j)) (fun _ i => n - (intOf i).toNat)
  case atStart => exact ⟨0, 0, Nat.zero_le _, Nat.le_refl _, rfl, rfl, Lib.hid rfl⟩
  case round =>
    obtain ⟨j, z, hj, hz, rfl, rfl, HZ⟩ := hrel
    by_cases hlt : j < n
    · obtain ⟨b, o, rfl, hb, hc, -⟩ := H.out j hlt
      have HC := Lib.hid (length_calls (f j) k (HA.out j hlt) hk w)
      have HS := Lib.hid (show size f k (j + 1) = size f k j + (rice (f j) k).length from rfl)
      have hl := rice_le (f j) k hk
      generalize (rice (f j) k).length = x at *
      generalize f j = y at *
      go_wp2_with fail
      with_reducible refine HC.out.mono ?_
      rintro e w1 ⟨rfl, rfl⟩
      go_wp2
      go_round
      case rel => exact ⟨j + 1, z + x, by omega, by omega, by go_num, by go_num, Lib.hid (by rw [HS.out, HZ.out])⟩
      case measure => simp [intOf]; omega
    · obtain rfl : j = n := by omega
      have HZ2 := Lib.hid HZ.out
      clear HZ
      go_wp2
      go_ret
      exact ⟨ret_int (by rw [HZ2.out]), by trivial⟩

end Go.Proofs.YtjhndncmeedffaaDoor.size
