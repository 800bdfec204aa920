/-
  Proved: the program's residuals, and the lists with given residuals.
  Conditions: none.
-/
import Derived.Test.YtjhndncmeedffaaDoorResS
namespace Go.Proofs.YtjhndncmeedffaaDoor.resid
open Go.ChangeShapes Go.WideShapes Go.ChangeAt Go.RowKit Go.Joins
open Go.Proofs.YtjhndncmeedffaaDoor.core Go.Proofs.YtjhndncmeedffaaDoor.rows Go.Proofs.YtjhndncmeedffaaDoor.bits Go.Proofs.YtjhndncmeedffaaDoor.numS Go.Proofs.YtjhndncmeedffaaDoor.ints
set_option linter.unusedVariables false
set_option linter.unusedSimpArgs false

theorem make0 (n : Nat) (hn : n ≤ 1048576) (w : World) : ∃ cur : Array Value, cur.size = n * 1 ∧
    (Instr.makeSlice 30 (.int .i64 0) (.int .i64 (n : Int))).run Tryd.prog w = .ok (.slice (some ⟨w.heap.size, 0, none⟩) 0 n) (w.alloc (.cells cur 2)) := by
  obtain ⟨i0, hi, hz0, hz1, hz2⟩ := info_get infoInt
  have hr := run_make (P := Tryd.prog) w 30 2 i0 _ Tryd.underlying30 hi hz0 .i64 .i64 0 n (by omega) (by omega) (by rw [hz2]; omega) (by omega)
  simp only [Int.toNat_natCast] at hr
  refine ⟨_, ?_, hr⟩
  rw [hz1]
  simp [madeCells]

set_option maxRecDepth 100000 in
set_option maxHeartbeats 1000000 in
theorem residS_law (A : Option Addr) (n c : Nat) (f : Nat → Int) (w : World) (hn : n ≤ 60) (h : IntsAt w A n f) (hA : AllIn 125000000 f n) :
    Calls Tryd.prog 17 #[.slice A n c] w fun e w' => ∃ G C : Nat, e = .returned (.tuple #[.slice (some ⟨G, 0, none⟩) n C, .int .i64 0]) ∧ w'.ownsRow w.heap.size 2 1 (.slice (some ⟨G, 0, none⟩) n C) n ((lst (resid f) n).map (Value.int .i64)) ∧ Below w.heap.size w w' := by
  have H1 := Lib.hid (small_calls A n c f w (by unfold maxLen; omega) h true (by simp; exact ⟨hn, hA⟩))
  have H2 := Lib.hid (residS_calls A n c f w hn h hA)
  clear h hA
  go_enter Tryd.func17, Tryd.ntmps17
  go_wp2_with fail
  with_reducible refine H1.out.mono ?_
  rintro e w1 ⟨rfl, rfl⟩
  go_wp2_with fail
  with_reducible refine H2.out.mono ?_
  rintro e w1 ⟨G, C, rfl, ho, hb⟩
  have HO := Lib.hid ho
  have HB := Lib.hid hb
  clear ho hb
  go_wp2
  go_ret2
  exact ⟨G, C, rfl, HO.out, HB.out⟩
set_option maxRecDepth 100000 in
set_option maxHeartbeats 1000000 in
theorem residS_no (A : Option Addr) (n c : Nat) (f : Nat → Int) (w : World) (hn : n ≤ maxLen) (h : IntsAt w A n f) (hA : ¬ (n ≤ 60 ∧ AllIn 125000000 f n)) :
    Calls Tryd.prog 17 #[.slice A n c] w fun e w' => e = .returned (.tuple #[.slice none 0 0, .int .i64 2]) ∧ Below w.heap.size w w' := by
  have H1 := Lib.hid (small_calls A n c f w hn h false (by simp; exact fun a b => hA ⟨a, b⟩))
  clear h hA
  go_enter Tryd.func17, Tryd.ntmps17
  go_wp2_with fail
  with_reducible refine H1.out.mono ?_
  rintro e w1 ⟨rfl, rfl⟩
  go_wp2
  go_ret2
  exact ⟨by simp, Below.refl _ _⟩
end Go.Proofs.YtjhndncmeedffaaDoor.resid
