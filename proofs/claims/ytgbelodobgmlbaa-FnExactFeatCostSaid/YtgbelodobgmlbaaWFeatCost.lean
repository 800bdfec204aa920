/-
  Proved: the walk of the law on FeatCost, out of what the two functions return.
  Conditions: what the two functions return for arguments that read as the law's own.
-/
import Derived.Test.YtgbelodobgmlbaaOpen
namespace Go.Proofs.Ytgbelodobgmlbaa.wFeatCost
open Go.ChangeShapes Go.WideShapes Go.ChangeAt Go.RowKit Go.Joins
set_option linter.unusedVariables false
set_option linter.unusedSimpArgs false
open Go.Proofs.Ytgbelodobgmlbaa.core
theorem reads_int {w W : World} {v : Value} {d : Dat} (ht : tyInt d) (h : Reads w v d) : Reads W v d := by
  obtain ⟨z, rfl⟩ := ht
  cases h
  constructor
  assumption
theorem cellN (W : World) (cs : Array Value) (T : TypeId) (b q : Nat) (v : Value) (hb : W.heap.size = b) (h : cs[q]? = some v) : (W.alloc (.cells cs T)).cell? ⟨b, q, none⟩ = some v := by
  subst hb
  rw [cell_of_block (heap_alloc_new W _)]
  exact h
theorem cellA (W : World) (o : Obj) (b q : Nat) (v : Value) (hb : b < W.heap.size) (h : W.cell? ⟨b, q, none⟩ = some v) : (W.alloc o).cell? ⟨b, q, none⟩ = some v := ((below_alloc1 W o).cell (p := ⟨b, q, none⟩) hb).trans h

set_option maxRecDepth 100000 in
set_option maxHeartbeats 4000000 in
theorem walkI  (x0_0 : Int) (x0_1 : Int) (x0_2 : Int) (x1_0 : Int) (x1_1 : Int) (x1_2 : Int) (r0 : Int) (r1 : Int) (w : World)
    (hS : ∀ (W : World), Calls Try.prog 17 #[.agg #[.int .i64 x0_0, .int .i64 x0_1, .int .i64 x0_2], .agg #[.int .i64 x1_0, .int .i64 x1_1, .int .i64 x1_2]] W fun e W' => e = .returned (.tuple #[.int .i64 r0, .int .i64 r1]) ∧ Below W.heap.size W W')
    (hI : ∀ (W : World), Calls Try.prog 19 #[.agg #[.int .i64 x0_0, .int .i64 x0_1, .int .i64 x0_2], .agg #[.int .i64 x1_0, .int .i64 x1_1, .int .i64 x1_2]] W fun e W' => e = .returned (.tuple #[.int .i64 r0, .int .i64 r1]) ∧ Below W.heap.size W W') :
    Calls Try.prog 4 #[.agg #[.int .i64 x0_0, .int .i64 x0_1, .int .i64 x0_2], .agg #[.int .i64 x1_0, .int .i64 x1_1, .int .i64 x1_2]] w fun e w' => e = .returned (.bool true) ∧ Below w.heap.size w w' := by
  have HS := Lib.hid hS
  have HI := Lib.hid hI
  clear hS hI
  have hmx : Try.prog.follows .mixedOrders = true := by kernel_rfl
  have C0_0 := Lib.hid (show ((w.alloc (.cells #[.int .i64 x0_0, .int .i64 x0_1, .int .i64 x0_2] 30)).alloc (.cells #[.int .i64 x1_0, .int .i64 x1_1, .int .i64 x1_2] 30)).cell? ⟨w.heap.size, 0, none⟩ = some (.int .i64 x0_0) from (cellA _ _ _ _ _ (by first | (simp; done) | (simp; omega)) (cellN _ _ _ _ _ _ (by simp) (by simp))))
  have C0_1 := Lib.hid (show ((w.alloc (.cells #[.int .i64 x0_0, .int .i64 x0_1, .int .i64 x0_2] 30)).alloc (.cells #[.int .i64 x1_0, .int .i64 x1_1, .int .i64 x1_2] 30)).cell? ⟨w.heap.size, 1, none⟩ = some (.int .i64 x0_1) from (cellA _ _ _ _ _ (by first | (simp; done) | (simp; omega)) (cellN _ _ _ _ _ _ (by simp) (by simp))))
  have C0_2 := Lib.hid (show ((w.alloc (.cells #[.int .i64 x0_0, .int .i64 x0_1, .int .i64 x0_2] 30)).alloc (.cells #[.int .i64 x1_0, .int .i64 x1_1, .int .i64 x1_2] 30)).cell? ⟨w.heap.size, 2, none⟩ = some (.int .i64 x0_2) from (cellA _ _ _ _ _ (by first | (simp; done) | (simp; omega)) (cellN _ _ _ _ _ _ (by simp) (by simp))))
  have C1_0 := Lib.hid (show ((w.alloc (.cells #[.int .i64 x0_0, .int .i64 x0_1, .int .i64 x0_2] 30)).alloc (.cells #[.int .i64 x1_0, .int .i64 x1_1, .int .i64 x1_2] 30)).cell? ⟨w.heap.size + 1, 0, none⟩ = some (.int .i64 x1_0) from (cellN _ _ _ _ _ _ (by simp) (by simp)))
  have C1_1 := Lib.hid (show ((w.alloc (.cells #[.int .i64 x0_0, .int .i64 x0_1, .int .i64 x0_2] 30)).alloc (.cells #[.int .i64 x1_0, .int .i64 x1_1, .int .i64 x1_2] 30)).cell? ⟨w.heap.size + 1, 1, none⟩ = some (.int .i64 x1_1) from (cellN _ _ _ _ _ _ (by simp) (by simp)))
  have C1_2 := Lib.hid (show ((w.alloc (.cells #[.int .i64 x0_0, .int .i64 x0_1, .int .i64 x0_2] 30)).alloc (.cells #[.int .i64 x1_0, .int .i64 x1_1, .int .i64 x1_2] 30)).cell? ⟨w.heap.size + 1, 2, none⟩ = some (.int .i64 x1_2) from (cellN _ _ _ _ _ _ (by simp) (by simp)))
  have B0 := Lib.hid (show Below w.heap.size w ((w.alloc (.cells #[.int .i64 x0_0, .int .i64 x0_1, .int .i64 x0_2] 30)).alloc (.cells #[.int .i64 x1_0, .int .i64 x1_1, .int .i64 x1_2] 30)) from (((Below.refl _ _).alloc (Nat.le_refl _) _).alloc (by simp; try omega) _))
  have Z0 := Lib.hid (show ((w.alloc (.cells #[.int .i64 x0_0, .int .i64 x0_1, .int .i64 x0_2] 30)).alloc (.cells #[.int .i64 x1_0, .int .i64 x1_1, .int .i64 x1_2] 30)).heap.size = w.heap.size + 1 + 1 by simp)
  go_enter Try.func4, Try.ntmps4
  all_goals
    go_wp2
    have c0_0 := C0_0.out
    have c0_1 := C0_1.out
    have c0_2 := C0_2.out
    have c1_0 := C1_0.out
    have c1_1 := C1_1.out
    have c1_2 := C1_2.out
    replace c0_0 := cell_kept (w := ((w.alloc (.cells #[.int .i64 x0_0, .int .i64 x0_1, .int .i64 x0_2] 30)).alloc (.cells #[.int .i64 x1_0, .int .i64 x1_1, .int .i64 x1_2] 30))) (a := ⟨w.heap.size, 0, none⟩) (by simp; try omega) c0_0
    replace c0_1 := cell_kept (w := ((w.alloc (.cells #[.int .i64 x0_0, .int .i64 x0_1, .int .i64 x0_2] 30)).alloc (.cells #[.int .i64 x1_0, .int .i64 x1_1, .int .i64 x1_2] 30))) (a := ⟨w.heap.size, 1, none⟩) (by simp; try omega) c0_1
    replace c0_2 := cell_kept (w := ((w.alloc (.cells #[.int .i64 x0_0, .int .i64 x0_1, .int .i64 x0_2] 30)).alloc (.cells #[.int .i64 x1_0, .int .i64 x1_1, .int .i64 x1_2] 30))) (a := ⟨w.heap.size, 2, none⟩) (by simp; try omega) c0_2
    replace c1_0 := cell_kept (w := ((w.alloc (.cells #[.int .i64 x0_0, .int .i64 x0_1, .int .i64 x0_2] 30)).alloc (.cells #[.int .i64 x1_0, .int .i64 x1_1, .int .i64 x1_2] 30))) (a := ⟨w.heap.size + 1, 0, none⟩) (by simp; try omega) c1_0
    replace c1_1 := cell_kept (w := ((w.alloc (.cells #[.int .i64 x0_0, .int .i64 x0_1, .int .i64 x0_2] 30)).alloc (.cells #[.int .i64 x1_0, .int .i64 x1_1, .int .i64 x1_2] 30))) (a := ⟨w.heap.size + 1, 1, none⟩) (by simp; try omega) c1_1
    replace c1_2 := cell_kept (w := ((w.alloc (.cells #[.int .i64 x0_0, .int .i64 x0_1, .int .i64 x0_2] 30)).alloc (.cells #[.int .i64 x1_0, .int .i64 x1_1, .int .i64 x1_2] 30))) (a := ⟨w.heap.size + 1, 2, none⟩) (by simp; try omega) c1_2
    refine wp_region_quiet_kept (by assumption) (by kernel_rfl) ?_
    repeat (first | go_big_quiet_step ((first | (go_at_call 18; exact Calls.kept_of (toFeat_calls _ _ _ _)) | (go_at_call 17; exact Calls.kept_of (HS.out _)))) | quiet_step ((first | (go_at_call 18; exact Calls.kept_of (toFeat_calls _ _ _ _)) | (go_at_call 17; exact Calls.kept_of (HS.out _)))))
    refine wpQuiet_nil ?_
    intro w1 hw'
    have hB : Below ((w.alloc (.cells #[.int .i64 x0_0, .int .i64 x0_1, .int .i64 x0_2] 30)).alloc (.cells #[.int .i64 x1_0, .int .i64 x1_1, .int .i64 x1_2] 30)).heap.size ((w.alloc (.cells #[.int .i64 x0_0, .int .i64 x0_1, .int .i64 x0_2] 30)).alloc (.cells #[.int .i64 x1_0, .int .i64 x1_1, .int .i64 x1_2] 30)) w1 := by obtain ⟨⟨wk, hb0⟩, hw''⟩ := hw'; rw [hw'']; exact hb0
    have B1 := Lib.hid (B0.out.trans (hB.mono B0.out.size))
    have hz := hB.size
    rw [Z0.out] at hz
    clear c0_0 c0_1 c0_2 c1_0 c1_1 c1_2
    have c0_0 := (hB.cell (p := ⟨w.heap.size, 0, none⟩) (by rw [Z0.out]; show w.heap.size < _; omega)).trans C0_0.out
    have c0_1 := (hB.cell (p := ⟨w.heap.size, 1, none⟩) (by rw [Z0.out]; show w.heap.size < _; omega)).trans C0_1.out
    have c0_2 := (hB.cell (p := ⟨w.heap.size, 2, none⟩) (by rw [Z0.out]; show w.heap.size < _; omega)).trans C0_2.out
    have c1_0 := (hB.cell (p := ⟨w.heap.size + 1, 0, none⟩) (by rw [Z0.out]; show w.heap.size + 1 < _; omega)).trans C1_0.out
    have c1_1 := (hB.cell (p := ⟨w.heap.size + 1, 1, none⟩) (by rw [Z0.out]; show w.heap.size + 1 < _; omega)).trans C1_1.out
    have c1_2 := (hB.cell (p := ⟨w.heap.size + 1, 2, none⟩) (by rw [Z0.out]; show w.heap.size + 1 < _; omega)).trans C1_2.out
    clear hw' hB
    go_wp2
    replace c0_0 := cell_kept (w := w1) (a := ⟨w.heap.size, 0, none⟩) (by show w.heap.size < w1.heap.size; omega) c0_0
    replace c0_1 := cell_kept (w := w1) (a := ⟨w.heap.size, 1, none⟩) (by show w.heap.size < w1.heap.size; omega) c0_1
    replace c0_2 := cell_kept (w := w1) (a := ⟨w.heap.size, 2, none⟩) (by show w.heap.size < w1.heap.size; omega) c0_2
    replace c1_0 := cell_kept (w := w1) (a := ⟨w.heap.size + 1, 0, none⟩) (by show w.heap.size + 1 < w1.heap.size; omega) c1_0
    replace c1_1 := cell_kept (w := w1) (a := ⟨w.heap.size + 1, 1, none⟩) (by show w.heap.size + 1 < w1.heap.size; omega) c1_1
    replace c1_2 := cell_kept (w := w1) (a := ⟨w.heap.size + 1, 2, none⟩) (by show w.heap.size + 1 < w1.heap.size; omega) c1_2
    refine wp_region_quiet_kept (by assumption) (by kernel_rfl) ?_
    repeat (first | go_big_quiet_step ((first | (go_at_call 18; exact Calls.kept_of (toFeat_calls _ _ _ _)) | (go_at_call 19; exact Calls.kept_of (HI.out _)))) | quiet_step ((first | (go_at_call 18; exact Calls.kept_of (toFeat_calls _ _ _ _)) | (go_at_call 19; exact Calls.kept_of (HI.out _)))))
    refine wpQuiet_nil ?_
    intro w2 hw'
    have hB : Below w1.heap.size w1 w2 := by obtain ⟨⟨wk, hb0⟩, hw''⟩ := hw'; rw [hw'']; exact hb0
    have B2 := Lib.hid (B1.out.trans (hB.mono B1.out.size))
    clear c0_0 c0_1 c0_2 c1_0 c1_1 c1_2
    clear hw' hB
    go_wp2
    go_ret
    exact ⟨rfl, B2.out⟩

theorem walk (vs0 : Nat → Value) (g0 : Nat → Dat) (vs1 : Nat → Value) (g1 : Nat → Dat) (w : World) (hr0 : ReadsRec w 3 vs0 g0) (ht0 : tyrFeat g0) (hr1 : ReadsRec w 3 vs1 g1) (ht1 : tyrFeat g1)
    (hm : ∃ (r0 : Int) (r1 : Int), (∀ (W : World) (us0 : Nat → Value) (us1 : Nat → Value), ReadsRec W 3 us0 g0 → ReadsRec W 3 us1 g1 → Calls Try.prog 17 #[.agg #[us0 0, us0 1, us0 2], .agg #[us1 0, us1 1, us1 2]] W fun e W' => e = .returned (.tuple #[.int .i64 r0, .int .i64 r1]) ∧ Below W.heap.size W W') ∧ (∀ (W : World) (us0 : Nat → Value) (us1 : Nat → Value), ReadsRec W 3 us0 g0 → ReadsRec W 3 us1 g1 → Calls Try.prog 19 #[.agg #[us0 0, us0 1, us0 2], .agg #[us1 0, us1 1, us1 2]] W fun e W' => e = .returned (.tuple #[.int .i64 r0, .int .i64 r1]) ∧ Below W.heap.size W W')) :
    Calls Try.prog 4 #[.agg #[vs0 0, vs0 1, vs0 2], .agg #[vs1 0, vs1 1, vs1 2]] w fun e w' => e = .returned (.bool true) ∧ Below w.heap.size w w' := by
  obtain ⟨r0, r1, hS, hI⟩ := hm
  have ha0 : ∀ W, ReadsRec W 3 vs0 g0 := fun W j hj => by
    rcases (show j = 0 ∨ j = 1 ∨ j = 2 by omega) with rfl | rfl | rfl
    · exact reads_int ht0.1 (hr0 0 (by omega))
    · exact reads_int ht0.2.1 (hr0 1 (by omega))
    · exact reads_int ht0.2.2 (hr0 2 (by omega))
  obtain ⟨⟨x0_0, hx0_0⟩, ⟨x0_1, hx0_1⟩, ⟨x0_2, hx0_2⟩⟩ := ht0
  have hv0_0 := hr0 0 (by omega)
  rw [hx0_0] at hv0_0
  have hw0_0 := hv0_0.int_inv.1
  have hv0_1 := hr0 1 (by omega)
  rw [hx0_1] at hv0_1
  have hw0_1 := hv0_1.int_inv.1
  have hv0_2 := hr0 2 (by omega)
  rw [hx0_2] at hv0_2
  have hw0_2 := hv0_2.int_inv.1
  have ha1 : ∀ W, ReadsRec W 3 vs1 g1 := fun W j hj => by
    rcases (show j = 0 ∨ j = 1 ∨ j = 2 by omega) with rfl | rfl | rfl
    · exact reads_int ht1.1 (hr1 0 (by omega))
    · exact reads_int ht1.2.1 (hr1 1 (by omega))
    · exact reads_int ht1.2.2 (hr1 2 (by omega))
  obtain ⟨⟨x1_0, hx1_0⟩, ⟨x1_1, hx1_1⟩, ⟨x1_2, hx1_2⟩⟩ := ht1
  have hv1_0 := hr1 0 (by omega)
  rw [hx1_0] at hv1_0
  have hw1_0 := hv1_0.int_inv.1
  have hv1_1 := hr1 1 (by omega)
  rw [hx1_1] at hv1_1
  have hw1_1 := hv1_1.int_inv.1
  have hv1_2 := hr1 2 (by omega)
  rw [hx1_2] at hv1_2
  have hw1_2 := hv1_2.int_inv.1
  have hS' := fun W => hS W vs0 vs1 (ha0 W) (ha1 W)
  have hI' := fun W => hI W vs0 vs1 (ha0 W) (ha1 W)
  simp only [hw0_0, hw0_1, hw0_2, hw1_0, hw1_1, hw1_2] at hS' hI' ⊢
  exact walkI  x0_0 x0_1 x0_2 x1_0 x1_1 x1_2 r0 r1 w hS' hI'

end Go.Proofs.Ytgbelodobgmlbaa.wFeatCost
