/-
  Proved: what the functions that measure an argument return (contracts of callees of the exact laws).
  Conditions: the argument is read out of memory.
-/
import Derived.Test.YtgbelodobgmlbaaShape
namespace Go.Proofs.Ytgbelodobgmlbaa.core
open Go.ChangeShapes Go.WideShapes Go.ChangeAt Go.RowKit Go.Joins
set_option linter.unusedVariables false
set_option linter.unusedSimpArgs false

set_option maxRecDepth 100000 in
set_option maxHeartbeats 2000000 in
theorem szFeatS_calls (A : Option Addr) (n c : Nat) (f : Nat → Nat → Dat) (l : Int) (w : World) (hl : 0 ≤ l) (hl2 : l ≤ 1048576) (hm : n ≤ maxLen) (hr : RowsAt w A n 3 f) (ht : tyFeatS (.sl n 3 f)) :
    Calls Try.prog 12 #[.slice A n c, .int .i64 l] w fun e w' => e = .returned (.int .i64 (left l (cost (.sl n 3 f)))) ∧ Below w.heap.size w w' := by
  have HR := Lib.hid hr
  have HT := Lib.hid (tyFeatS_at ht)
  clear hr ht
  have hm' : n ≤ 9223372036854775807 := by unfold maxLen at hm; omega
  clear hm
  have HE := Lib.hid (show cost (.sl n 3 f) = n from cost_flat fun i j hi hj => by
    obtain ⟨⟨x0, e0⟩, ⟨x1, e1⟩, ⟨x2, e2⟩⟩ := HT.out i hi
    rcases (by omega : j = 0 ∨ j = 1 ∨ j = 2) with rfl | rfl | rfl
    · simp only [e0, cost]
    · simp only [e1, cost]
    · simp only [e2, cost]
    )
  rw [HE.out]
  clear HE
  by_cases h0 : (n : Int) ≤ l
  · have h0' : ¬ (l - (n : Int) < 0) := by omega
    go_enter Try.func12, Try.ntmps12
    go_wp2
    go_ret
    exact ⟨ret_int (left_yes' (by omega) rfl), Below.refl _ _⟩
  · have h0' : l - (n : Int) < 0 := by omega
    go_enter Try.func12, Try.ntmps12
    go_wp2
    go_ret
    exact ⟨ret_int (left_no' (by omega)), Below.refl _ _⟩

set_option maxRecDepth 100000 in
set_option maxHeartbeats 2000000 in
theorem szPairS_calls (A : Option Addr) (n c : Nat) (f : Nat → Nat → Dat) (l : Int) (w : World) (hl : 0 ≤ l) (hl2 : l ≤ 1048576) (hm : n ≤ maxLen) (hr : RowsAt w A n 2 f) (ht : tyPairS (.sl n 2 f)) :
    Calls Try.prog 28 #[.slice A n c, .int .i64 l] w fun e w' => e = .returned (.int .i64 (left l (cost (.sl n 2 f)))) ∧ Below w.heap.size w w' := by
  have HR := Lib.hid hr
  have HT := Lib.hid (tyPairS_at ht)
  clear hr ht
  have hm' : n ≤ 9223372036854775807 := by unfold maxLen at hm; omega
  clear hm
  have HE := Lib.hid (show cost (.sl n 2 f) = n from cost_flat fun i j hi hj => by
    obtain ⟨⟨x0, e0⟩, ⟨x1, e1⟩⟩ := HT.out i hi
    rcases (by omega : j = 0 ∨ j = 1) with rfl | rfl
    · simp only [e0, cost]
    · simp only [e1, cost]
    )
  rw [HE.out]
  clear HE
  by_cases h0 : (n : Int) ≤ l
  · have h0' : ¬ (l - (n : Int) < 0) := by omega
    go_enter Try.func28, Try.ntmps28
    go_wp2
    go_ret
    exact ⟨ret_int (left_yes' (by omega) rfl), Below.refl _ _⟩
  · have h0' : l - (n : Int) < 0 := by omega
    go_enter Try.func28, Try.ntmps28
    go_wp2
    go_ret
    exact ⟨ret_int (left_no' (by omega)), Below.refl _ _⟩

end Go.Proofs.Ytgbelodobgmlbaa.core
