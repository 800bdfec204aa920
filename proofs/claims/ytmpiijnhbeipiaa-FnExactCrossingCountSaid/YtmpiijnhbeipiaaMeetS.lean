/-
  Proved: what the document's functions on segments that meet return.
  Conditions: the points are in their range.
-/
import Derived.Test.YtmpiijnhbeipiaaAll
namespace Go.Proofs.Ytmpiijnhbeipiaa.meetS
open Go.ChangeShapes Go.WideShapes Go.ChangeAt Go.RowKit Go.Joins
open Go.Proofs.Ytmpiijnhbeipiaa.core Go.Proofs.Ytmpiijnhbeipiaa.geoM Go.Proofs.Ytmpiijnhbeipiaa.stk Go.Proofs.Ytmpiijnhbeipiaa.seg Go.Proofs.Ytmpiijnhbeipiaa.side Go.Proofs.Ytmpiijnhbeipiaa.all
set_option linter.unusedVariables false
set_option linter.unusedSimpArgs false

theorem min_b (a b : Int) (w : World) : Calls Try.prog 79 #[.int .i64 a, .int .i64 b] w fun e w' => e = .returned (.int .i64 (min a b)) ∧ Below w.heap.size w w' := by
  go_enter Try.func79, Try.ntmps79
  go_wp2
  all_goals go_ret
  all_goals exact ⟨stk.ret_int (by omega), Below.refl _ _⟩
theorem max_b (a b : Int) (w : World) : Calls Try.prog 85 #[.int .i64 a, .int .i64 b] w fun e w' => e = .returned (.int .i64 (max a b)) ∧ Below w.heap.size w w' := by
  go_enter Try.func85, Try.ntmps85
  go_wp2
  all_goals go_ret
  all_goals exact ⟨stk.ret_int (by omega), Below.refl _ _⟩
theorem in_b (x lo hi : Int) (r : Bool) (h : decide (lo ≤ x ∧ x ≤ hi) = r) (w : World) : Calls Try.prog 42 #[.int .i64 x, .int .i64 lo, .int .i64 hi] w fun e w' => e = .returned (.bool r) ∧ Below w.heap.size w w' :=
  (in_calls x lo hi w).mono fun _ _ ⟨he, hw⟩ => ⟨by rw [he, h], by rw [← hw]; exact Below.refl _ _⟩
theorem cellN (W : World) (cs : Array Value) (T : TypeId) (b q : Nat) (v : Value) (hb : W.heap.size = b) (h : cs[q]? = some v) : (W.alloc (.cells cs T)).cell? ⟨b, q, none⟩ = some v := by
  subst hb
  rw [cell_of_block (heap_alloc_new W _)]
  exact h
theorem cellA (W : World) (o : Obj) (b q : Nat) (v : Value) (hb : b < W.heap.size) (h : W.cell? ⟨b, q, none⟩ = some v) : (W.alloc o).cell? ⟨b, q, none⟩ = some v := ((below_alloc1 W o).cell (p := ⟨b, q, none⟩) hb).trans h
/-- The point lies between the ends. -/
def onB (a b p : P3) : Bool := decide (min a.1 b.1 ≤ p.1 ∧ p.1 ≤ max a.1 b.1) && decide (min a.2.1 b.2.1 ≤ p.2.1 ∧ p.2.1 ≤ max a.2.1 b.2.1)
theorem onB_iff (a b p : P3) : onB a b p = true ↔ onS a.1 a.2.1 b.1 b.2.1 p.1 p.2.1 := by
  unfold onB onS
  simp only [Bool.and_eq_true, decide_eq_true_eq]
  omega

set_option maxRecDepth 100000 in
set_option maxHeartbeats 2000000 in
theorem on_calls (a b p : P3) (r : Bool) (hr : onB a b p = r) (w : World) :
    Calls Try.prog 75 #[pv a, pv b, pv p] w fun e w' => e = .returned (.bool r) ∧ Below w.heap.size w w' := by
  unfold onB at hr
  have hm := mixedO
  have hu : undef = Value.tuple #[] := rfl
  generalize hX : decide (min a.1 b.1 ≤ p.1 ∧ p.1 ≤ max a.1 b.1) = x at hr
  generalize hY : decide (min a.2.1 b.2.1 ≤ p.2.1 ∧ p.2.1 ≤ max a.2.1 b.2.1) = y at hr
  have HX := Lib.hid (fun W => in_b _ _ _ x hX W)
  have HY := Lib.hid (fun W => in_b _ _ _ y hY W)
  clear hX hY
  have B0 := Lib.hid (below_alloc3 w (.cells #[.int .i64 a.1, .int .i64 a.2.1, .int .i64 a.2.2] 28) (.cells #[.int .i64 b.1, .int .i64 b.2.1, .int .i64 b.2.2] 28) (.cells #[.int .i64 p.1, .int .i64 p.2.1, .int .i64 p.2.2] 28))
  have a0 := cell_kept (w := ((w.alloc (.cells #[.int .i64 a.1, .int .i64 a.2.1, .int .i64 a.2.2] 28)).alloc (.cells #[.int .i64 b.1, .int .i64 b.2.1, .int .i64 b.2.2] 28)).alloc (.cells #[.int .i64 p.1, .int .i64 p.2.1, .int .i64 p.2.2] 28)) (a := ⟨w.heap.size, 0, none⟩) (v := .int .i64 a.1) (by first | (simp; done) | (simp; omega)) (cellA _ _ _ _ _ (by first | (simp; done) | (simp; omega)) (cellA _ _ _ _ _ (by simp) (by simp)))
  have a1 := cell_kept (w := ((w.alloc (.cells #[.int .i64 a.1, .int .i64 a.2.1, .int .i64 a.2.2] 28)).alloc (.cells #[.int .i64 b.1, .int .i64 b.2.1, .int .i64 b.2.2] 28)).alloc (.cells #[.int .i64 p.1, .int .i64 p.2.1, .int .i64 p.2.2] 28)) (a := ⟨w.heap.size, 1, none⟩) (v := .int .i64 a.2.1) (by first | (simp; done) | (simp; omega)) (cellA _ _ _ _ _ (by first | (simp; done) | (simp; omega)) (cellA _ _ _ _ _ (by simp) (by simp)))
  have b0 := cell_kept (w := ((w.alloc (.cells #[.int .i64 a.1, .int .i64 a.2.1, .int .i64 a.2.2] 28)).alloc (.cells #[.int .i64 b.1, .int .i64 b.2.1, .int .i64 b.2.2] 28)).alloc (.cells #[.int .i64 p.1, .int .i64 p.2.1, .int .i64 p.2.2] 28)) (a := ⟨w.heap.size + 1, 0, none⟩) (v := .int .i64 b.1) (by first | (simp; done) | (simp; omega)) (cellA _ _ _ _ _ (by simp) (cellN _ _ _ _ _ _ (by simp) (by simp)))
  have b1 := cell_kept (w := ((w.alloc (.cells #[.int .i64 a.1, .int .i64 a.2.1, .int .i64 a.2.2] 28)).alloc (.cells #[.int .i64 b.1, .int .i64 b.2.1, .int .i64 b.2.2] 28)).alloc (.cells #[.int .i64 p.1, .int .i64 p.2.1, .int .i64 p.2.2] 28)) (a := ⟨w.heap.size + 1, 1, none⟩) (v := .int .i64 b.2.1) (by first | (simp; done) | (simp; omega)) (cellA _ _ _ _ _ (by simp) (cellN _ _ _ _ _ _ (by simp) (by simp)))
  have p0 := cell_kept (w := ((w.alloc (.cells #[.int .i64 a.1, .int .i64 a.2.1, .int .i64 a.2.2] 28)).alloc (.cells #[.int .i64 b.1, .int .i64 b.2.1, .int .i64 b.2.2] 28)).alloc (.cells #[.int .i64 p.1, .int .i64 p.2.1, .int .i64 p.2.2] 28)) (a := ⟨w.heap.size + 1 + 1, 0, none⟩) (v := .int .i64 p.1) (by simp) (cellN _ _ _ _ _ _ (by simp) (by simp))
  have p1 := cell_kept (w := ((w.alloc (.cells #[.int .i64 a.1, .int .i64 a.2.1, .int .i64 a.2.2] 28)).alloc (.cells #[.int .i64 b.1, .int .i64 b.2.1, .int .i64 b.2.2] 28)).alloc (.cells #[.int .i64 p.1, .int .i64 p.2.1, .int .i64 p.2.2] 28)) (a := ⟨w.heap.size + 1 + 1, 1, none⟩) (v := .int .i64 p.2.1) (by simp) (cellN _ _ _ _ _ _ (by simp) (by simp))
  go_enter Try.func75, Try.ntmps75
  cases x
  all_goals
    simp only [Bool.false_and, Bool.true_and] at hr
    subst hr
    go_wp2
    refine wp_region_quiet_kept (by assumption) (by kernel_rfl) ?_
    repeat (first | go_big_quiet_step ((first | (go_at_call 79; exact Calls.kept_of (min_b _ _ _)) | (go_at_call 85; exact Calls.kept_of (max_b _ _ _)) | (go_at_call 42; (with_reducible exact Calls.kept_of (HX.out _))) | (go_at_call 42; (with_reducible exact Calls.kept_of (HY.out _))))) | quiet_step ((first | (go_at_call 79; exact Calls.kept_of (min_b _ _ _)) | (go_at_call 85; exact Calls.kept_of (max_b _ _ _)) | (go_at_call 42; (with_reducible exact Calls.kept_of (HX.out _))) | (go_at_call 42; (with_reducible exact Calls.kept_of (HY.out _))))))
    refine wpQuiet_nil ?_
    intro w2 hw'
    have hB : Below (((w.alloc (.cells #[.int .i64 a.1, .int .i64 a.2.1, .int .i64 a.2.2] 28)).alloc (.cells #[.int .i64 b.1, .int .i64 b.2.1, .int .i64 b.2.2] 28)).alloc (.cells #[.int .i64 p.1, .int .i64 p.2.1, .int .i64 p.2.2] 28)).heap.size (((w.alloc (.cells #[.int .i64 a.1, .int .i64 a.2.1, .int .i64 a.2.2] 28)).alloc (.cells #[.int .i64 b.1, .int .i64 b.2.1, .int .i64 b.2.2] 28)).alloc (.cells #[.int .i64 p.1, .int .i64 p.2.1, .int .i64 p.2.2] 28)) w2 := by obtain ⟨⟨wk, hb0⟩, hw''⟩ := hw'; rw [hw'']; exact hb0
    have HB2 := Lib.hid (B0.out.trans (hB.mono B0.out.size))
    clear hw' hB a0 a1 b0 b1 p0 p1 hu
    go_wp2
    go_ret
    exact ⟨rfl, HB2.out⟩

theorem turn_rng (a b c : P3) : -1 ≤ turn a b c ∧ turn a b c ≤ 1 := by
  unfold turn sgn
  split
  · omega
  · split <;> omega
/-- Whether two segments meet, in the document's words. -/
def meetV (p q r t : Int) (o1 o2 o3 o4 : Bool) : Bool :=
  (decide (p * q < 0) && decide (r * t < 0)) || (decide (p = 0) && o1) || (decide (q = 0) && o2) || (decide (r = 0) && o3) || (decide (t = 0) && o4)
/-- Four points in boxes of their own, and nothing else turned. -/
structure Four (w : World) (a b c d : P3) (W : World) : Prop where
  below : Below w.heap.size w W
  z : w.heap.size + 1 + 1 + 1 < W.heap.size
  a0 : W.cell? ⟨w.heap.size, 0, none⟩ = some (.int .i64 a.1)
  a1 : W.cell? ⟨w.heap.size, 1, none⟩ = some (.int .i64 a.2.1)
  a2 : W.cell? ⟨w.heap.size, 2, none⟩ = some (.int .i64 a.2.2)
  b0 : W.cell? ⟨w.heap.size + 1, 0, none⟩ = some (.int .i64 b.1)
  b1 : W.cell? ⟨w.heap.size + 1, 1, none⟩ = some (.int .i64 b.2.1)
  b2 : W.cell? ⟨w.heap.size + 1, 2, none⟩ = some (.int .i64 b.2.2)
  c0 : W.cell? ⟨w.heap.size + 1 + 1, 0, none⟩ = some (.int .i64 c.1)
  c1 : W.cell? ⟨w.heap.size + 1 + 1, 1, none⟩ = some (.int .i64 c.2.1)
  c2 : W.cell? ⟨w.heap.size + 1 + 1, 2, none⟩ = some (.int .i64 c.2.2)
  d0 : W.cell? ⟨w.heap.size + 1 + 1 + 1, 0, none⟩ = some (.int .i64 d.1)
  d1 : W.cell? ⟨w.heap.size + 1 + 1 + 1, 1, none⟩ = some (.int .i64 d.2.1)
  d2 : W.cell? ⟨w.heap.size + 1 + 1 + 1, 2, none⟩ = some (.int .i64 d.2.2)
theorem Four.kept {w : World} {a b c d : P3} {W W' : World} (h : Four w a b c d W) (hb : Below W.heap.size W W') : Four w a b c d W' := by
  have z := h.z
  have k : ∀ (x q : Nat), x ≤ w.heap.size + 1 + 1 + 1 → W'.cell? ⟨x, q, none⟩ = W.cell? ⟨x, q, none⟩ := fun x q hx => hb.cell (p := ⟨x, q, none⟩) (by show x < _; omega)
  exact ⟨h.below.trans (hb.mono h.below.size), Nat.lt_of_lt_of_le z hb.size, (k _ _ (by omega)).trans h.a0, (k _ _ (by omega)).trans h.a1, (k _ _ (by omega)).trans h.a2, (k _ _ (by omega)).trans h.b0, (k _ _ (by omega)).trans h.b1, (k _ _ (by omega)).trans h.b2, (k _ _ (by omega)).trans h.c0, (k _ _ (by omega)).trans h.c1, (k _ _ (by omega)).trans h.c2, (k _ _ (by omega)).trans h.d0, (k _ _ (by omega)).trans h.d1, (k _ _ (by omega)).trans h.d2⟩
theorem Four.start (w : World) (a b c d : P3) (T : TypeId) : Four w a b c d ((((w.alloc (.cells #[.int .i64 a.1, .int .i64 a.2.1, .int .i64 a.2.2] T)).alloc (.cells #[.int .i64 b.1, .int .i64 b.2.1, .int .i64 b.2.2] T)).alloc (.cells #[.int .i64 c.1, .int .i64 c.2.1, .int .i64 c.2.2] T)).alloc (.cells #[.int .i64 d.1, .int .i64 d.2.1, .int .i64 d.2.2] T)) := by
  exact ⟨(below_alloc3 w _ _ _).trans ((below_alloc1 _ _).mono (below_alloc3 w _ _ _).size), by simp, (cellA _ _ _ _ _ (by first | (simp; done) | (simp; omega)) (cellA _ _ _ _ _ (by first | (simp; done) | (simp; omega)) (cellA _ _ _ _ _ (by first | (simp; done) | (simp; omega)) (cellN _ _ _ _ _ _ (by simp) (by simp))))), (cellA _ _ _ _ _ (by first | (simp; done) | (simp; omega)) (cellA _ _ _ _ _ (by first | (simp; done) | (simp; omega)) (cellA _ _ _ _ _ (by first | (simp; done) | (simp; omega)) (cellN _ _ _ _ _ _ (by simp) (by simp))))), (cellA _ _ _ _ _ (by first | (simp; done) | (simp; omega)) (cellA _ _ _ _ _ (by first | (simp; done) | (simp; omega)) (cellA _ _ _ _ _ (by first | (simp; done) | (simp; omega)) (cellN _ _ _ _ _ _ (by simp) (by simp))))), (cellA _ _ _ _ _ (by first | (simp; done) | (simp; omega)) (cellA _ _ _ _ _ (by first | (simp; done) | (simp; omega)) (cellN _ _ _ _ _ _ (by simp) (by simp)))), (cellA _ _ _ _ _ (by first | (simp; done) | (simp; omega)) (cellA _ _ _ _ _ (by first | (simp; done) | (simp; omega)) (cellN _ _ _ _ _ _ (by simp) (by simp)))), (cellA _ _ _ _ _ (by first | (simp; done) | (simp; omega)) (cellA _ _ _ _ _ (by first | (simp; done) | (simp; omega)) (cellN _ _ _ _ _ _ (by simp) (by simp)))), (cellA _ _ _ _ _ (by first | (simp; done) | (simp; omega)) (cellN _ _ _ _ _ _ (by simp) (by simp))), (cellA _ _ _ _ _ (by first | (simp; done) | (simp; omega)) (cellN _ _ _ _ _ _ (by simp) (by simp))), (cellA _ _ _ _ _ (by first | (simp; done) | (simp; omega)) (cellN _ _ _ _ _ _ (by simp) (by simp))), (cellN _ _ _ _ _ _ (by simp) (by simp)), (cellN _ _ _ _ _ _ (by simp) (by simp)), (cellN _ _ _ _ _ _ (by simp) (by simp))⟩

set_option maxRecDepth 100000 in
set_option maxHeartbeats 8000000 in
theorem meet_calls (a b c d : P3) (ha : Rg a) (hb : Rg b) (hc : Rg c) (hd : Rg d) (w : World) :
    Calls Try.prog 58 #[pv a, pv b, pv c, pv d] w fun e w' => e = .returned (.bool (meetV (turn a b c) (turn a b d) (turn c d a) (turn c d b) (onB a b c) (onB a b d) (onB c d a) (onB c d b))) ∧ Below w.heap.size w w' := by
  have T1 := Lib.hid (fun W => specTurn a b c ha hb hc W)
  have T2 := Lib.hid (fun W => specTurn a b d ha hb hd W)
  have T3 := Lib.hid (fun W => specTurn c d a hc hd ha W)
  have T4 := Lib.hid (fun W => specTurn c d b hc hd hb W)
  have hp := turn_rng a b c
  have hq := turn_rng a b d
  have hr := turn_rng c d a
  have ht := turn_rng c d b
  have O1 := Lib.hid (fun W => on_calls a b c _ rfl W)
  have O2 := Lib.hid (fun W => on_calls a b d _ rfl W)
  have O3 := Lib.hid (fun W => on_calls c d a _ rfl W)
  have O4 := Lib.hid (fun W => on_calls c d b _ rfl W)
  generalize turn a b c = p at *
  generalize turn a b d = q at *
  generalize turn c d a = r at *
  generalize turn c d b = t at *
  generalize onB a b c = o1 at *
  generalize onB a b d = o2 at *
  generalize onB c d a = o3 at *
  generalize onB c d b = o4 at *
  have hpq := mul_small (x := p) (y := q) (by omega) (by omega) (by omega) (by omega)
  have hrt := mul_small (x := r) (y := t) (by omega) (by omega) (by omega) (by omega)
  obtain ⟨u, hu⟩ : ∃ u, p * q = u := ⟨_, rfl⟩
  obtain ⟨v, hv⟩ : ∃ v, r * t = v := ⟨_, rfl⟩
  rw [hu] at hpq
  rw [hv] at hrt
  have HV := Lib.hid (show meetV p q r t o1 o2 o3 o4 = ((decide (u < 0) && decide (v < 0)) || (decide (p = 0) && o1) || (decide (q = 0) && o2) || (decide (r = 0) && o3) || (decide (t = 0) && o4)) by unfold meetV; rw [hu, hv])
  have F0 := Lib.hid (Four.start w a b c d 28)
  clear ha hb hc hd
  go_enter Try.func58, Try.ntmps58
  go_wp2_with (first
    | (go_at_call 56; (first | (with_reducible refine (T1.out _).mono ?_) | (with_reducible refine (T2.out _).mono ?_) | (with_reducible refine (T3.out _).mono ?_) | (with_reducible refine (T4.out _).mono ?_)); rintro e wn ⟨rfl, hbn⟩; have F1 := Lib.hid (F0.out.kept hbn); clear F0 hbn; (have F0 := F1); clear F1; (try clear a0 a1 a2 b0 b1 b2 c0 c1 c2 d0 d1 d2); obtain ⟨-, -, a0, a1, a2, b0, b1, b2, c0, c1, c2, d0, d1, d2⟩ := F0.out)
    | (go_at_call 75; (first | (with_reducible refine (O1.out _).mono ?_) | (with_reducible refine (O2.out _).mono ?_) | (with_reducible refine (O3.out _).mono ?_) | (with_reducible refine (O4.out _).mono ?_)); rintro e wn ⟨rfl, hbn⟩; have F1 := Lib.hid (F0.out.kept hbn); clear F0 hbn; (have F0 := F1); clear F1; (try clear a0 a1 a2 b0 b1 b2 c0 c1 c2 d0 d1 d2); obtain ⟨-, -, a0, a1, a2, b0, b1, b2, c0, c1, c2, d0, d1, d2⟩ := F0.out))
  all_goals go_ret
  all_goals (refine ⟨ret_bool ?_, F0.out.below⟩; rw [HV.out]; simp [*]; try (intros; omega))
end Go.Proofs.Ytmpiijnhbeipiaa.meetS
