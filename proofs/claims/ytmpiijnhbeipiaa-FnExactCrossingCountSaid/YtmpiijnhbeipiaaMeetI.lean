/-
  Proved: what the program's functions on segments that meet return.
  Conditions: the points are in their range.
-/
import Derived.Test.YtmpiijnhbeipiaaAll
import Derived.Test.YtmpiijnhbeipiaaBox
namespace Go.Proofs.Ytmpiijnhbeipiaa.meetI
open Go.ChangeShapes Go.WideShapes Go.ChangeAt Go.RowKit Go.Joins
open Go.Proofs.Ytmpiijnhbeipiaa.core Go.Proofs.Ytmpiijnhbeipiaa.geoM Go.Proofs.Ytmpiijnhbeipiaa.stk Go.Proofs.Ytmpiijnhbeipiaa.seg Go.Proofs.Ytmpiijnhbeipiaa.side Go.Proofs.Ytmpiijnhbeipiaa.all Go.Proofs.Ytmpiijnhbeipiaa.box
set_option linter.unusedVariables false
set_option linter.unusedSimpArgs false

/-- The box of a segment. -/
abbrev sbox (a b : P3) : Value := box (min a.1 b.1) (min a.2.1 b.2.1) (max a.1 b.1) (max a.2.1 b.2.1)
def ovlB (a b c d : P3) : Bool := decide (min a.1 b.1 ≤ max c.1 d.1) && decide (min c.1 d.1 ≤ max a.1 b.1) && decide (min a.2.1 b.2.1 ≤ max c.2.1 d.2.1) && decide (min c.2.1 d.2.1 ≤ max a.2.1 b.2.1)

set_option maxRecDepth 100000 in
set_option maxHeartbeats 2000000 in
theorem boxes_calls (x1 y1 x2 y2 u1 v1 u2 v2 : Int) (w : World) :
    Calls Try.prog 77 #[box x1 y1 x2 y2, box u1 v1 u2 v2] w fun e w' => e = .returned (.bool (decide (x1 ≤ u2) && decide (u1 ≤ x2) && decide (y1 ≤ v2) && decide (v1 ≤ y2))) ∧ Below w.heap.size w w' := by
  go_enter Try.func77, Try.ntmps77
  go_wp2
  all_goals go_ret
  all_goals exact ⟨ret_bool (by rw [Bool.eq_iff_iff]; simp; try omega), below_alloc2 _ _ _⟩

set_option maxRecDepth 100000 in
set_option maxHeartbeats 4000000 in
theorem box_calls (a b : P3) (w : World) :
    Calls Try.prog 76 #[sg a b] w fun e w' => e = .returned (sbox a b) ∧ Below w.heap.size w w' := by
  have B0 := Lib.hid (below_alloc2 w (.cells #[.int .i64 a.1, .int .i64 a.2.1, .int .i64 a.2.2, .int .i64 b.1, .int .i64 b.2.1, .int .i64 b.2.2] 66) (.cells #[.int .i64 0, .int .i64 0, .int .i64 0, .int .i64 0] 95))
  have BL := Lib.hid (show ((w.alloc (.cells #[.int .i64 a.1, .int .i64 a.2.1, .int .i64 a.2.2, .int .i64 b.1, .int .i64 b.2.1, .int .i64 b.2.2] 66)).alloc (.cells #[.int .i64 0, .int .i64 0, .int .i64 0, .int .i64 0] 95)).heap[w.heap.size]? = some (.cells #[.int .i64 a.1, .int .i64 a.2.1, .int .i64 a.2.2, .int .i64 b.1, .int .i64 b.2.1, .int .i64 b.2.2] 66 (0, 0)) by
    rw [Below.heap_alloc _ _ _ (by simp)]
    exact heap_alloc_new w _)
  have BR := Lib.hid (show ((w.alloc (.cells #[.int .i64 a.1, .int .i64 a.2.1, .int .i64 a.2.2, .int .i64 b.1, .int .i64 b.2.1, .int .i64 b.2.2] 66)).alloc (.cells #[.int .i64 0, .int .i64 0, .int .i64 0, .int .i64 0] 95)).heap[w.heap.size + 1]? = some (.cells #[.int .i64 0, .int .i64 0, .int .i64 0, .int .i64 0] 95 (0, 0)) by
    have h := heap_alloc_new (w.alloc (.cells #[.int .i64 a.1, .int .i64 a.2.1, .int .i64 a.2.2, .int .i64 b.1, .int .i64 b.2.1, .int .i64 b.2.2] 66)) (.cells #[.int .i64 0, .int .i64 0, .int .i64 0, .int .i64 0] 95)
    have e : (w.alloc (.cells #[.int .i64 a.1, .int .i64 a.2.1, .int .i64 a.2.2, .int .i64 b.1, .int .i64 b.2.1, .int .i64 b.2.2] 66)).heap.size = w.heap.size + 1 := by simp
    rw [e] at h
    exact h)
  have hz : w.heap.size + 1 < ((w.alloc (.cells #[.int .i64 a.1, .int .i64 a.2.1, .int .i64 a.2.2, .int .i64 b.1, .int .i64 b.2.1, .int .i64 b.2.2] 66)).alloc (.cells #[.int .i64 0, .int .i64 0, .int .i64 0, .int .i64 0] 95)).heap.size := by simp
  go_enter Try.func76, Try.ntmps76
  go_wp2
  generalize (w.alloc (.cells #[.int .i64 a.1, .int .i64 a.2.1, .int .i64 a.2.2, .int .i64 b.1, .int .i64 b.2.1, .int .i64 b.2.2] 66)).alloc (.cells #[.int .i64 0, .int .i64 0, .int .i64 0, .int .i64 0] 95) = W0 at *
  have c0 : W0.cell? ⟨w.heap.size, 0, none⟩ = some (.int .i64 a.1) := by rw [cell_of_block BL.out]; rfl
  have c1 : W0.cell? ⟨w.heap.size, 1, none⟩ = some (.int .i64 a.2.1) := by rw [cell_of_block BL.out]; rfl
  have c2 : W0.cell? ⟨w.heap.size, 2, none⟩ = some (.int .i64 a.2.2) := by rw [cell_of_block BL.out]; rfl
  have c3 : W0.cell? ⟨w.heap.size, 3, none⟩ = some (.int .i64 b.1) := by rw [cell_of_block BL.out]; rfl
  have c4 : W0.cell? ⟨w.heap.size, 4, none⟩ = some (.int .i64 b.2.1) := by rw [cell_of_block BL.out]; rfl
  have c5 : W0.cell? ⟨w.heap.size, 5, none⟩ = some (.int .i64 b.2.2) := by rw [cell_of_block BL.out]; rfl
  have hz0 : w.heap.size < W0.heap.size := by omega
  go_region_with (first
    | (go_at_call 86; (with_reducible refine (boxAt_calls _ _ _ _).mono ?_); rintro e w2 ⟨rfl, hb2⟩; have hb3 : Below W0.heap.size W0 w2 := (by first | exact (Below.refl _ _).drew.trans hb2 | exact ((Below.refl W0.heap.size W0).drew.alloc (Nat.le_refl _) _).trans (hb2.mono ((Below.refl W0.heap.size W0).drew.alloc (Nat.le_refl _) _).size)); have e3 := (hb3.cell (p := ⟨w.heap.size, 3, none⟩) hz0).trans c3; have e4 := (hb3.cell (p := ⟨w.heap.size, 4, none⟩) hz0).trans c4; have e5 := (hb3.cell (p := ⟨w.heap.size, 5, none⟩) hz0).trans c5; have z2 : w.heap.size < w2.heap.size := Nat.lt_of_lt_of_le hz0 hb3.size; have HB2 := Lib.hid hb2; have HB3 := Lib.hid hb3; clear hb2 hb3)
    | (go_at_call 87; refine (grown_calls _ _ _ _ _ 1 1 (pts1 b) _ (by omega) (by first | exact new1 w2 b _ | exact (new1 W0.drew b 28).kept HB2.out)).mono ?_; rintro e w3 ⟨rfl, hb4⟩; have hb5 : Below W0.heap.size W0 w3 := (by first | exact HB3.out.trans (hb4.mono HB3.out.size) | exact (HB3.out.alloc HB3.out.size _).trans (hb4.mono (HB3.out.alloc HB3.out.size _).size)); have HR := Lib.hid ((hb5.block _ hz).trans BR.out); have f0 := (cell_of_block HR.out 0).trans (show _ = some (Value.int .i64 0) from rfl); have f1 := (cell_of_block HR.out 1).trans (show _ = some (Value.int .i64 0) from rfl); have f2 := (cell_of_block HR.out 2).trans (show _ = some (Value.int .i64 0) from rfl); have f3 := (cell_of_block HR.out 3).trans (show _ = some (Value.int .i64 0) from rfl); have ff := unfrozen_of_block HR.out; have z3 : w.heap.size + 1 < w3.heap.size := Nat.lt_of_lt_of_le hz hb5.size; have HB5 := Lib.hid (B0.out.trans (hb5.mono B0.out.size)); clear hb4 hb5))
  all_goals
    go_wp2
    exact bodyPost_ret (v := sbox a b) (by simp [results, Try.results76, go_sem, gX1, gY1, gX2, gY2, pts1, f0, f1, f2, f3]) rfl ⟨rfl, (((HB5.out.setCell (by simp) _).setCell (by simp) _).setCell (by simp) _).setCell (by simp) _⟩
end Go.Proofs.Ytmpiijnhbeipiaa.meetI
