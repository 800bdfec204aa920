/-
  Proved: what the functions that measure an argument return (contracts of callees of the exact laws).
  Conditions: the argument is read out of memory.
-/
import Derived.Test.YtmlibfmbbkmeeaaDoorShape
namespace Go.Proofs.YtmlibfmbbkmeeaaDoor.core
open Go.ChangeShapes Go.WideShapes Go.ChangeAt Go.RowKit Go.Joins
set_option linter.unusedVariables false
set_option linter.unusedSimpArgs false

set_option maxRecDepth 100000 in
set_option maxHeartbeats 2000000 in
theorem szPointS_calls (A : Option Addr) (n c : Nat) (f : Nat → Nat → Dat) (l : Int) (w : World) (hl : 0 ≤ l) (hl2 : l ≤ 1048576) (hm : n ≤ maxLen) (hr : RowsAt w A n 3 f) (ht : tyPointS (.sl n 3 f)) :
    Calls Tryd.prog 13 #[.slice A n c, .int .i64 l] w fun e w' => e = .returned (.int .i64 (left l (cost (.sl n 3 f)))) ∧ Below w.heap.size w w' := by
  have HR := Lib.hid hr
  have HT := Lib.hid (tyPointS_at ht)
  clear hr ht
  have hm' : n ≤ 9223372036854775807 := by unfold maxLen at hm; omega
  clear hm
  have HE := Lib.hid (show cost (.sl n 3 f) = n from cost_flat fun i j hi hj => by
    obtain ⟨⟨x0, e0⟩, ⟨x1, e1⟩, ⟨x2, e2⟩⟩ := HT.out i hi
    rcases (by omega : j = 0 ∨ j = 1 ∨ j = 2) with rfl | rfl | rfl
    · simp only [e0, cost]
    · simp only [e1, cost]
    · simp only [e2, cost]
    )
  rw [HE.out]
  clear HE
  by_cases h0 : (n : Int) ≤ l
  · have h0' : ¬ (l - (n : Int) < 0) := by omega
    go_enter Tryd.func13, Tryd.ntmps13
    go_wp2
    go_ret
    exact ⟨ret_int (left_yes' (by omega) rfl), Below.refl _ _⟩
  · have h0' : l - (n : Int) < 0 := by omega
    go_enter Tryd.func13, Tryd.ntmps13
    go_wp2
    go_ret
    exact ⟨ret_int (left_no' (by omega)), Below.refl _ _⟩

set_option maxRecDepth 100000 in
set_option maxHeartbeats 2000000 in
theorem szStroke_calls (A0 : Option Addr) (n0 c0 : Nat) (f0 : Nat → Nat → Dat) (l : Int) (w : World) (hl : 0 ≤ l) (hl2 : l ≤ 1048576) (hm0 : n0 ≤ maxLen) (hr0 : RowsAt w A0 n0 3 f0) (ht0 : tyPointS (.sl n0 3 f0)) :
    Calls Tryd.prog 4 #[.agg #[.slice A0 n0 c0], .int .i64 l] w fun e w' => e = .returned (.int .i64 (left l (cost (.sl n0 3 f0)))) ∧ Below w.heap.size w w' := by
  have HR0 := Lib.hid hr0
  have HT0 := Lib.hid ht0
  clear hr0 ht0
  go_enter Tryd.func4, Tryd.ntmps4
  go_wp2_with fail
  refine (szPointS_calls A0 n0 c0 f0 _ _ (by omega) (by omega) hm0 (HR0.out.below (below_alloc1 w (.cells #[.slice A0 n0 c0] 24))) HT0.out).mono ?_
  rintro e w0 ⟨rfl, hb⟩
  have HB0 := Lib.hid ((below_alloc1 w (.cells #[.slice A0 n0 c0] 24)).trans (hb.mono (below_alloc1 w (.cells #[.slice A0 n0 c0] 24)).size))
  have lz0 : w.heap.size < w0.heap.size := by have := hb.size; (try simp at this); omega
  have d0_0 := (hb.cell (p := ⟨w.heap.size, 0, none⟩) (by simp)).trans (show _ = some (.slice A0 n0 c0) by simp)
  clear hb
  by_cases h0 : (((cost (.sl n0 3 f0)) : Nat) : Int) ≤ l
  rotate_left
  · rw [left_no h0]
    go_wp2
    go_ret
    exact ⟨ret_int (left_no' (by omega)), HB0.out⟩
  rw [left_yes h0]
  have h0' : ¬ (l - (((cost (.sl n0 3 f0)) : Nat) : Int) < 0) := by omega
  go_wp2
  go_ret
  exact ⟨ret_int (left_yes' (by omega) (by omega)), HB0.out⟩

end Go.Proofs.YtmlibfmbbkmeeaaDoor.core
