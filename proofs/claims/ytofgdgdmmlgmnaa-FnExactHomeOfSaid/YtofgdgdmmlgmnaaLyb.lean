/-
  Proved: the box of one of a layout's strokes, at the first call and later.
  Conditions: the strokes are valid and not many.
-/
import Derived.Test.YtofgdgdmmlgmnaaLyt
namespace Go.Proofs.Ytofgdgdmmlgmnaa.lyt
open Go.ChangeShapes Go.WideShapes Go.ChangeAt Go.RowKit Go.Joins
open Go.Proofs.Ytofgdgdmmlgmnaa.core Go.Proofs.Ytofgdgdmmlgmnaa.rown Go.Proofs.Ytofgdgdmmlgmnaa.stk Go.Proofs.Ytofgdgdmmlgmnaa.boxed Go.Proofs.Ytofgdgdmmlgmnaa.box Go.Proofs.Ytofgdgdmmlgmnaa.bxs Go.Proofs.Ytofgdgdmmlgmnaa.ink
set_option linter.unusedVariables false
set_option linter.unusedSimpArgs false
theorem But.fin {b : Nat} {w w1 W3 : World} (hA : Below w.heap.size w w1) (h3 : But b (w.heap.size + 1) w1 W3) (hb : b < w.heap.size) (x0 x1 x2 x3 : Value) : But b w.heap.size w ((((W3.setCell ⟨w.heap.size, 0, none⟩ x0).setCell ⟨w.heap.size, 1, none⟩ x1).setCell ⟨w.heap.size, 2, none⟩ x2).setCell ⟨w.heap.size, 3, none⟩ x3) := by
  have hle := Nat.le_of_lt hb
  refine ⟨((((((hA.mono hle).trans h3.below).setCell (p := ⟨w.heap.size, 0, none⟩) hle _).setCell (p := ⟨w.heap.size, 1, none⟩) hle _).setCell (p := ⟨w.heap.size, 2, none⟩) hle _).setCell (p := ⟨w.heap.size, 3, none⟩) hle _), fun j hj hn => ?_⟩
  have hne : ∀ k : Nat, (⟨w.heap.size, k, none⟩ : Addr).block ≠ j := fun k e => by simp at e; omega
  rw [Below.heap_setCell _ _ _ _ (by simp; omega), Below.heap_setCell _ _ _ _ (by simp; omega), Below.heap_setCell _ _ _ _ (by simp; omega), Below.heap_setCell _ _ _ _ (by simp; omega), h3.rest j (by omega) hn, hA.block j hj]
theorem row_of {L b n C c : Nat} {A D : Option Addr} {d s : Int} {ns : Nat → Nat} {ps : Nat → Nat → P3} {W : World} (h : LyB L b n A C d s D n c (bw ns ps) W) {i : Nat} (hi : i < n) :
    ∃ g : Nat, D = some ⟨g, 0, none⟩ ∧ g < W.heap.size ∧ L ≤ g ∧ W.cell? ⟨g, i * 4, none⟩ = some (.int .i64 (bX1 (ns i) (ps i))) ∧ W.cell? ⟨g, i * 4 + 1, none⟩ = some (.int .i64 (bY1 (ns i) (ps i))) ∧ W.cell? ⟨g, i * 4 + 2, none⟩ = some (.int .i64 (bX2 (ns i) (ps i))) ∧ W.cell? ⟨g, i * 4 + 3, none⟩ = some (.int .i64 (bY2 (ns i) (ps i))) := by
  have h' := h.own
  rcases h.own with ⟨-, ⟨-, h0⟩ | ⟨g, c, cur, e, hg0, -⟩⟩
  · omega
  · injection e with e1 e2 e3
    subst e1 e3
    have hg := row_lt h'
    refine ⟨g, rfl, hg, hg0, ?_, ?_, ?_, ?_⟩
    · have := row_cell h' (bw_len ns ps) hi (show 0 < 4 by omega) rfl; simpa using this
    · have := row_cell h' (bw_len ns ps) hi (show 1 < 4 by omega) rfl; simpa using this
    · have := row_cell h' (bw_len ns ps) hi (show 2 < 4 by omega) rfl; simpa using this
    · have := row_cell h' (bw_len ns ps) hi (show 3 < 4 by omega) rfl; simpa using this
set_option maxRecDepth 100000 in
set_option maxHeartbeats 4000000 in
/-- The first call: all boxes are found. -/
theorem boxN (b n C i : Nat) (A : Option Addr) (ns : Nat → Nat) (ps : Nat → Nat → P3) (w0 w : World) (h16 : n ≤ 16) (hle : w0.heap.size ≤ b) (h0 : Below w0.heap.size w0 w) (hI : InkAt w0 A n ns ps) (hv : ∀ i, i < n → vS (ns i) (ps i) = true)
    (hL : LyB w.heap.size b n A C 0 0 none 0 0 (bw ns ps) w) (hi : i < n) :
    Calls Try.prog 96 #[.pointer (some ⟨b, 0, none⟩), .int .i64 (i : Int)] w fun e w' => e = .returned (bx (ns i) (ps i)) ∧ (∃ D c, LyB (w.heap.size + 1) b n A C 1 0 D n c (bw ns ps) w') ∧ But b w.heap.size w w' := by
  have hbw := hL.ltW
  have BA := below_alloc1 w (.cells #[.int .i64 0, .int .i64 0, .int .i64 0, .int .i64 0] 90)
  have KZ := heap_alloc_new w (.cells #[.int .i64 0, .int .i64 0, .int .i64 0, .int .i64 0] 90)
  obtain ⟨w1, hw1⟩ : ∃ w1, w1 = w.alloc (.cells #[.int .i64 0, .int .i64 0, .int .i64 0, .int .i64 0] 90) := ⟨_, rfl⟩
  have hz1 : w1.heap.size = w.heap.size + 1 := by rw [hw1]; simp
  rw [← hw1] at BA KZ
  have hK1 := hL.kept BA
  have hL1 : LyB (w.heap.size + 1) b n A C 0 0 none 0 0 (bw ns ps) w1 := ⟨by omega, by omega, hK1.blk, World.ownsRow_nil _ _ _ _⟩
  have hL2 : LyB (w.heap.size + 1) b n A C 0 1 none 0 0 (bw ns ps) (w1.setCell ⟨b, 1 + 1, none⟩ (.int .i32 1)) := ⟨by omega, by rw [sz_set]; omega, block_setCell (i := 1 + 1) hL1.blk _, World.ownsRow_nil _ _ _ _⟩
  have h02 : Below w0.heap.size w0 (w1.setCell ⟨b, 1 + 1, none⟩ (.int .i32 1)) := (h0.trans (BA.mono h0.size)).setCell (p := ⟨b, 1 + 1, none⟩) hle _
  have hF := findB (w.heap.size + 1) b n C A ns ps w0 _ h16 hle h02 hI hv hL2
  obtain ⟨k1, k2, f1, f2⟩ := hL1.cells
  have HD := Lib.hid (once.doFirst b 1 #[.pointer (some ⟨b, 0, none⟩)] (fun W => (∃ D c, LyB (w.heap.size + 1) b n A C 0 1 D n c (bw ns ps) W) ∧ But b (w.heap.size + 1) (w1.setCell ⟨b, 1 + 1, none⟩ (.int .i32 1)) W) w1 k1 k2 f1 f2 hF (fun W hR => by
    obtain ⟨⟨D, c, hy⟩, -⟩ := hR
    exact hy.cells))
  have HBE := Lib.hid (show But b (w.heap.size + 1) w1 (w1.setCell ⟨b, 1 + 1, none⟩ (.int .i32 1)) from (But.refl _ _ _).step (Below.refl _ _) (by omega) _)
  have HW1 := Lib.hid hw1
  have HKZ := Lib.hid KZ
  have HBA := Lib.hid BA
  have hmf : ∀ (fn : Fn) (first cap : Array Value) (w : World), (Instr.makeFunc fn first cap).run Try.prog w = .ok (.func fn first cap) w := fun _ _ _ _ => rfl
  clear hK1 hL1 hL2 h02 hF k1 k2 f1 f2 BA KZ hz1 hI hv h0 hL hle
  go_enter Try.func96, Try.ntmps96
  go_wp2_with fail
  rw [← HW1.out]
  refine HD.out.mono ?_
  rintro e w' ⟨rfl, w2, ⟨⟨D, c, hly⟩, hbut⟩, rfl⟩
  have hbl1 : b < w.heap.size + 1 := by omega
  have hb3 : But b (w.heap.size + 1) w1 ((w2.drew.setCell ⟨b, 1, none⟩ (.int .u32 1)).setCell ⟨b, 1 + 1, none⟩ (.int .i32 0)) := ((HBE.out.trans hbut).step (i := 1) (Below.refl _ _).drew hbl1 _).step (Below.refl _ _) hbl1 _
  have hy := hly.done
  obtain ⟨W3, hW3⟩ : ∃ W3, (w2.drew.setCell ⟨b, 1, none⟩ (.int .u32 1)).setCell ⟨b, 1 + 1, none⟩ (.int .i32 0) = W3 := ⟨_, rfl⟩
  rw [hW3] at hb3 hy ⊢
  obtain ⟨-, c4, -⟩ := hy.seen (Below.refl (b + 1) W3)
  obtain ⟨g, rfl, hg, hLg, r0, r1, r2, r3⟩ := row_of hy hi
  have kz : W3.heap[w.heap.size]? = some (.cells #[.int .i64 0, .int .i64 0, .int .i64 0, .int .i64 0] 90 (0, 0)) := (hb3.rest w.heap.size (by omega) (by omega)).trans HKZ.out
  obtain ⟨z0, z1, z2, z3⟩ := box_cells kz
  have hin : (i : Int) < (n : Int) := by omega
  have hi0 : (0 : Int) ≤ (i : Int) := by omega
  have zf := fun o => unfrozen_of_block kz o
  have KF := Lib.hid (fourR (a' := .int .i64 (bX1 (ns i) (ps i))) (b' := .int .i64 (bY1 (ns i) (ps i))) (c' := .int .i64 (bX2 (ns i) (ps i))) (d' := .int .i64 (bY2 (ns i) (ps i))) kz)
  obtain ⟨y0, y1, y2, y3⟩ := box_cells KF.out
  have HFY := Lib.hid ((((hy.far (q := w.heap.size) (by omega) (by omega) 0 (.int .i64 (bX1 (ns i) (ps i)))).far (q := w.heap.size) (by omega) (by omega) 1 (.int .i64 (bY1 (ns i) (ps i)))).far (q := w.heap.size) (by omega) (by omega) 2 (.int .i64 (bX2 (ns i) (ps i)))).far (q := w.heap.size) (by omega) (by omega) 3 (.int .i64 (bY2 (ns i) (ps i))))
  have HB4 := Lib.hid (But.fin HBA.out hb3 hbw (.int .i64 (bX1 (ns i) (ps i))) (.int .i64 (bY1 (ns i) (ps i))) (.int .i64 (bX2 (ns i) (ps i))) (.int .i64 (bY2 (ns i) (ps i))))
  clear hly hbut HBE HD hy hb3 hW3 HKZ HBA KF kz
  go_wp2
  exact bodyPost_ret (v := bx (ns i) (ps i)) (by simp [results, Try.results96, go_sem, y0, y1, y2, y3]) rfl ⟨rfl, ⟨_, _, HFY.out⟩, HB4.out⟩
set_option maxRecDepth 100000 in
set_option maxHeartbeats 4000000 in
/-- A later call: nothing that was there is turned. -/
theorem boxD (L b n C i c : Nat) (A D : Option Addr) (ns : Nat → Nat) (ps : Nat → Nat → P3) (w : World) (hL : LyB L b n A C 1 0 D n c (bw ns ps) w) (hi : i < n) :
    Calls Try.prog 96 #[.pointer (some ⟨b, 0, none⟩), .int .i64 (i : Int)] w fun e w' => e = .returned (bx (ns i) (ps i)) ∧ Below w.heap.size w w' := by
  have BA := below_alloc1 w (.cells #[.int .i64 0, .int .i64 0, .int .i64 0, .int .i64 0] 90)
  have kz := heap_alloc_new w (.cells #[.int .i64 0, .int .i64 0, .int .i64 0, .int .i64 0] 90)
  obtain ⟨w1, hw1⟩ : ∃ w1, w1 = w.alloc (.cells #[.int .i64 0, .int .i64 0, .int .i64 0, .int .i64 0] 90) := ⟨_, rfl⟩
  rw [← hw1] at BA kz
  have hy := hL.kept BA
  obtain ⟨k1, -, -, -⟩ := hy.cells
  obtain ⟨-, c4, -⟩ := hy.seen (Below.refl (b + 1) w1)
  obtain ⟨g, rfl, hg, hLg, r0, r1, r2, r3⟩ := row_of hy hi
  have HD := Lib.hid (fun fv => once.doDone ⟨b, 1, none⟩ 1 (by decide) fv w1 k1)
  obtain ⟨z0, z1, z2, z3⟩ := box_cells kz
  have hin : (i : Int) < (n : Int) := by omega
  have hi0 : (0 : Int) ≤ (i : Int) := by omega
  have zf := fun o => unfrozen_of_block kz o
  have KF := Lib.hid (fourR (a' := .int .i64 (bX1 (ns i) (ps i))) (b' := .int .i64 (bY1 (ns i) (ps i))) (c' := .int .i64 (bX2 (ns i) (ps i))) (d' := .int .i64 (bY2 (ns i) (ps i))) kz)
  obtain ⟨y0, y1, y2, y3⟩ := box_cells KF.out
  have HB4 := Lib.hid ((((BA.setCell (p := ⟨w.heap.size, 0, none⟩) (Nat.le_refl _) (.int .i64 (bX1 (ns i) (ps i)))).setCell (p := ⟨w.heap.size, 1, none⟩) (Nat.le_refl _) (.int .i64 (bY1 (ns i) (ps i)))).setCell (p := ⟨w.heap.size, 2, none⟩) (Nat.le_refl _) (.int .i64 (bX2 (ns i) (ps i)))).setCell (p := ⟨w.heap.size, 3, none⟩) (Nat.le_refl _) (.int .i64 (bY2 (ns i) (ps i))))
  have HW1 := Lib.hid hw1
  have hmf : ∀ (fn : Fn) (first cap : Array Value) (w : World), (Instr.makeFunc fn first cap).run Try.prog w = .ok (.func fn first cap) w := fun _ _ _ _ => rfl
  clear hL hy BA kz KF k1 hw1
  go_enter Try.func96, Try.ntmps96
  go_wp2_with fail
  rw [← HW1.out]
  refine (HD.out _).mono ?_
  rintro e w' ⟨rfl, rfl⟩
  clear HD HW1
  go_wp2
  exact bodyPost_ret (v := bx (ns i) (ps i)) (by simp [results, Try.results96, go_sem, y0, y1, y2, y3]) rfl ⟨rfl, HB4.out⟩
end Go.Proofs.Ytofgdgdmmlgmnaa.lyt
