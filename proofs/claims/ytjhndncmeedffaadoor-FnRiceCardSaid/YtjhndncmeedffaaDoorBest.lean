/-
  Proved: both programs' best parameters.
  Conditions: none.
-/
import Derived.Test.YtjhndncmeedffaaDoorSize
namespace Go.Proofs.YtjhndncmeedffaaDoor.size
open Go.ChangeShapes Go.WideShapes Go.ChangeAt Go.RowKit Go.Joins
open Go.Proofs.YtjhndncmeedffaaDoor.core Go.Proofs.YtjhndncmeedffaaDoor.rows Go.Proofs.YtjhndncmeedffaaDoor.bits Go.Proofs.YtjhndncmeedffaaDoor.numS Go.Proofs.YtjhndncmeedffaaDoor.riceS Go.Proofs.YtjhndncmeedffaaDoor.riceI Go.Proofs.YtjhndncmeedffaaDoor.ints
set_option linter.unusedVariables false
set_option linter.unusedSimpArgs false

theorem lengths0_calls (A : Option Addr) (n c : Nat) (f : Nat → Int) (w : World) (hn : n ≤ 60) (h : IntsAt w A n f) (hA : AllIn 1000000000 f n) :
    Calls Tryd.prog 35 #[.slice A n c, .int .i64 0] w fun e w' => e = .returned (.int .i64 (size f 0 n : Nat)) ∧ w = w' :=
  lengths_calls A n c f 0 (by omega) w hn h hA
theorem best_yes {g : Nat → Nat} {k a b : Nat} (h : best g k = (a, b)) (hlt : g (k + 1) < b) : best g (k + 1) = (k + 1, g (k + 1)) := by
  rw [best, h, if_pos hlt]
theorem best_no {g : Nat → Nat} {k a b : Nat} (h : best g k = (a, b)) (hlt : ¬ g (k + 1) < b) : best g (k + 1) = (a, b) := by
  rw [best, h, if_neg hlt]

set_option maxRecDepth 100000 in
set_option maxHeartbeats 2000000 in
theorem bestI_calls (A : Option Addr) (n c : Nat) (f : Nat → Int) (w : World) (hn : n ≤ 60) (h : IntsAt w A n f) (hA : AllIn 1000000000 f n) :
    Calls Tryd.prog 18 #[.slice A n c] w fun e w' => e = .returned (.tuple #[.int .i64 ((best (fun k => size f k n) 12).1 : Nat), .int .i64 ((best (fun k => size f k n) 12).2 : Nat), .int .i64 0]) ∧ w = w' := by
  have H := Lib.hid h
  have HA := Lib.hid hA
  clear h hA
  have HG := Lib.hid (show ∀ k, k ≤ 12 → size f k n ≤ 3120 from fun k hk => by have := size_le f k hk n; omega)
  generalize hg : (fun k => size f k n) = g
  have HE := Lib.hid (show ∀ k, size f k n = g k from fun k => by rw [← hg])
  clear hg
  have HW := Lib.hid (within_calls 1000000000 (by omega) (by omega) A n c f w (by unfold maxLen; omega) H.out true (by simp; exact HA.out))
  have HC := Lib.hid (lengths0_calls A n c f w hn H.out HA.out)
  rw [HE.out 0] at HC
  have hg0 : g 0 ≤ 3120 := by have := HG.out 0 (by omega); rw [HE.out] at this; exact this
  go_enter Tryd.func18, Tryd.ntmps18
  go_wp2_with fail
  with_reducible refine HW.out.mono ?_
  rintro e w1 ⟨rfl, rfl⟩
  go_wp2_with fail
  with_reducible refine HC.out.mono ?_
  rintro e w1 ⟨rfl, rfl⟩
  clear HC HW
  go_wp2
  go_loop [5, 6, 7, 8] (fun b s i _ => ∃ k x z : Nat, k ≤ 12 ∧ z ≤ 3120 ∧ i = .int .i64 ((k + 1 : Nat) : Int) ∧ b = .int .i64 (x : Int) ∧ s = .int .i64 (z : Int) ∧ Hid (best g k = (x, z))) (fun _ _ i _ => 13 - (intOf i).toNat)
  case atStart => exact ⟨0, 0, g 0, by omega, hg0, rfl, rfl, rfl, Lib.hid rfl⟩
  case round =>
    obtain ⟨k, x, z, hk, hz, rfl, rfl, rfl, HX⟩ := hrel
    by_cases hlt : k < 12
    · obtain ⟨k1, hk1⟩ : ∃ k1, k1 = k + 1 := ⟨_, rfl⟩
      have HC := Lib.hid (lengths_calls A n c f k1 (by omega) w hn H.out HA.out)
      have hgk : size f k1 n ≤ 3120 := HG.out k1 (by omega)
      rw [HE.out k1] at HC hgk
      have HK := Lib.hid hk1
      rw [← hk1]
      by_cases hb : g k1 < z
      · have HN := Lib.hid (best_yes HX.out (by rw [← hk1]; exact hb))
        have hb' : (g k1 : Int) < (z : Int) := by omega
        rw [← hk1] at HN
        have hk2 : k1 ≤ 12 := by omega
        clear hk1
        generalize g k1 = y at *
        go_wp2_with fail
        with_reducible refine HC.out.mono ?_
        rintro e w2 ⟨rfl, rfl⟩
        clear HC
        go_wp2
        go_round
        case rel => exact ⟨k1, k1, y, by omega, by omega, by go_num, rfl, rfl, HN⟩
        case measure => simp [intOf]; have := HK.out; omega
      · have HN := Lib.hid (best_no HX.out (by rw [← hk1]; exact hb))
        have hb' : ¬ (g k1 : Int) < (z : Int) := by omega
        rw [← hk1] at HN
        have hk2 : k1 ≤ 12 := by omega
        clear hk1
        generalize g k1 = y at *
        go_wp2_with fail
        with_reducible refine HC.out.mono ?_
        rintro e w2 ⟨rfl, rfl⟩
        clear HC
        go_wp2
        go_round
        case rel => exact ⟨k1, x, z, by omega, by omega, by go_num, rfl, rfl, HN⟩
        case measure => simp [intOf]; have := HK.out; omega
    · obtain rfl : k = 12 := by omega
      have HX2 := Lib.hid HX.out
      clear HX
      go_wp2
      go_ret3
      refine ⟨?_, rfl⟩
      rw [HX2.out]
      simp
end Go.Proofs.YtjhndncmeedffaaDoor.size
