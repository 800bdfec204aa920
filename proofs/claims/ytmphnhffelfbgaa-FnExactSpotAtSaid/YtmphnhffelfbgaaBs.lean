/-
  Proved: what the library's function that searches a list of numbers returns.
  Conditions: the list has at most 60 numbers.
-/
import Derived.Test.YtmphnhffelfbgaaPts
namespace Go.Proofs.Ytmphnhffelfbgaa.bs
open Go.ChangeShapes Go.WideShapes Go.ChangeAt Go.RowKit Go.Joins
open Go.Proofs.Ytmphnhffelfbgaa.core Go.Proofs.Ytmphnhffelfbgaa.stk
set_option linter.unusedVariables false
set_option linter.unusedSimpArgs false
set_option maxHeartbeats 1000000 in
theorem isNaN_calls (a : Int) (w : World) : Calls Try.prog 97 #[.int .i64 a] w fun e w' => e = .returned (.bool false) ∧ w = w' := by
  go_enter Try.func97, Try.ntmps97
  go_wp2
  go_ret
  exact ⟨by simp, rfl⟩
set_option maxHeartbeats 1000000 in
theorem isNaN2_calls (a : Int) (w : World) : Calls Try.prog 95 #[.int .i64 a] w fun e w' => e = .returned (.bool false) ∧ w = w' := by
  go_enter Try.func95, Try.ntmps95
  go_wp2
  go_ret
  exact ⟨by simp, rfl⟩
set_option maxHeartbeats 1000000 in
theorem less_calls (a b : Int) (w : World) : Calls Try.prog 94 #[.int .i64 a, .int .i64 b] w fun e w' => e = .returned (.bool (decide (a < b))) ∧ w = w' := by
  go_enter Try.func94, Try.ntmps94
  go_wp2_with fail
  refine (isNaN_calls a _).mono ?_
  rintro e w1 ⟨rfl, rfl⟩
  go_wp2
  go_ret
  exact ⟨rfl, rfl⟩
set_option maxRecDepth 100000 in
set_option maxHeartbeats 2000000 in
theorem bs_calls {n d g : Nat} {f : Nat → Int} {t : Int} {x : Nat} {r : Bool} (w : World) (hr : r = decide (x < n ∧ f x = t)) (h60 : n ≤ 60) (hg : g < w.heap.size) (hc : ∀ i, i < n → w.cell? ⟨g, i, none⟩ = some (.int .i64 (f i)))
    (hx : x ≤ n) (hlo : ∀ i, i < x → f i < t) (hhi : ∀ i, x ≤ i → i < n → t ≤ f i) :
    Calls Try.prog 86 #[.slice (some ⟨g, 0, none⟩) n d, .int .i64 t] w fun e w' => e = .returned (.tuple #[.int .i64 (x : Int), .bool r]) ∧ w = w' := by
  have HC := Lib.hid hc
  have HLO := Lib.hid hlo
  have HHI := Lib.hid hhi
  have HRR := Lib.hid hr
  clear hc hlo hhi hr
  go_enter Try.func86, Try.ntmps86
  go_wp2
  go_loopw [7, 8] (fun i j w' => ∃ a b : Nat, a ≤ x ∧ x ≤ b ∧ b ≤ n ∧ i = .int .i64 (a : Int) ∧ j = .int .i64 (b : Int) ∧ w = w') (fun i j _ => (intOf j - intOf i).toNat)
  case atStart => exact ⟨0, n, Nat.zero_le _, hx, Nat.le_refl _, rfl, rfl, rfl⟩
  case round =>
    obtain ⟨a, b, ha, hb, hn, rfl, rfl, rfl⟩ := hrel
    by_cases hlt : a < b
    · obtain ⟨h, hh⟩ : ∃ h, (a + b) / 2 = h := ⟨_, rfl⟩
      have c0 := HC.out h (by omega)
      have h1 := HLO.out h
      have h2 := HHI.out h
      generalize f h = y at *
      have hsh : ((a : Int) + (b : Int)) / 2 = (h : Int) := by omega
      have hlt2 : (h : Int) < (n : Int) := by omega
      have hd : Hid (∀ W, Calls Try.prog 94 #[.int .i64 y, .int .i64 t] W fun e w' => e = .returned (.bool (decide (y < t))) ∧ W = w') := Lib.hid (fun W => less_calls y t W)
      by_cases hy : y < t
      · go_wp2_with fail
        with_reducible refine (hd.out _).mono ?_
        rintro e w2 ⟨rfl, rfl⟩
        go_wp2
        go_roundw
        case rel => exact ⟨h + 1, b, by omega, hb, hn, by go_num, rfl, trivial⟩
        case measure => simp [intOf]; omega
      · go_wp2_with fail
        with_reducible refine (hd.out _).mono ?_
        rintro e w2 ⟨rfl, rfl⟩
        go_wp2
        go_roundw
        case rel => exact ⟨a, h, ha, by omega, by omega, rfl, by go_num, trivial⟩
        case measure => simp [intOf]; omega
    · obtain rfl : a = b := by omega
      obtain rfl : a = x := by omega
      by_cases hxn : a < n
      · have c0 := HC.out a hxn
        have hrr := HRR.out
        generalize f a = y at *
        have HR2 := Lib.hid hrr
        clear hrr
        have hxi : (a : Int) < (n : Int) := by omega
        have HN := Lib.hid (fun W => isNaN2_calls y W)
        by_cases hy : y = t
        · subst hy
          have HF := Lib.hid (show r = true by rw [HR2.out]; exact decide_eq_true ⟨hxn, rfl⟩)
          go_wp2
          go_ret2
          exact ⟨by rw [HF.out]; rfl, rfl⟩
        · have hy2 : (y == t) = false := by simpa using hy
          have HF := Lib.hid (show r = false by rw [HR2.out]; exact decide_eq_false fun h => hy h.2)
          go_wp2_with fail
          with_reducible refine (HN.out _).mono ?_
          rintro e w2 ⟨rfl, rfl⟩
          go_wp2
          go_ret2
          exact ⟨by rw [HF.out]; rfl, rfl⟩
      · obtain rfl : a = n := by omega
        have HF := Lib.hid (show r = false by rw [HRR.out]; exact decide_eq_false fun h => hxn h.1)
        go_wp2
        go_ret2
        exact ⟨by rw [HF.out]; rfl, rfl⟩
end Go.Proofs.Ytmphnhffelfbgaa.bs
