/-
  Proved: what the program's functions on segments that meet return, and that it is what the document's return.
  Conditions: the points are in their range.
-/
import Derived.Test.YtmpiijnhbeipiaaMeetS
import Derived.Test.YtmpiijnhbeipiaaMeetI
namespace Go.Proofs.Ytmpiijnhbeipiaa.meet
open Go.ChangeShapes Go.WideShapes Go.ChangeAt Go.RowKit Go.Joins
open Go.Proofs.Ytmpiijnhbeipiaa.core Go.Proofs.Ytmpiijnhbeipiaa.geoM Go.Proofs.Ytmpiijnhbeipiaa.stk Go.Proofs.Ytmpiijnhbeipiaa.seg Go.Proofs.Ytmpiijnhbeipiaa.side Go.Proofs.Ytmpiijnhbeipiaa.all Go.Proofs.Ytmpiijnhbeipiaa.meetS Go.Proofs.Ytmpiijnhbeipiaa.meetI
set_option linter.unusedVariables false
set_option linter.unusedSimpArgs false

theorem sgn_pos {x : Int} (h : 0 < x) : sgn x = 1 := by unfold sgn; rw [if_neg (by omega), if_pos h]
theorem sgn_neg {x : Int} (h : x < 0) : sgn x = -1 := by unfold sgn; rw [if_pos h]
theorem sgn_zero : sgn 0 = 0 := rfl
theorem sgn_mul (x y : Int) : sgn x * sgn y = sgn (x * y) := by
  rcases Int.lt_trichotomy x 0 with hx | hx | hx
  · rcases Int.lt_trichotomy y 0 with hy | hy | hy
    · rw [sgn_neg hx, sgn_neg hy, sgn_pos (Int.mul_pos_of_neg_of_neg hx hy)]; rfl
    · subst hy; simp [sgn_zero]
    · rw [sgn_neg hx, sgn_pos hy, sgn_neg (Int.mul_neg_of_neg_of_pos hx hy)]; rfl
  · subst hx; simp [sgn_zero]
  · rcases Int.lt_trichotomy y 0 with hy | hy | hy
    · rw [sgn_pos hx, sgn_neg hy, sgn_neg (Int.mul_neg_of_pos_of_neg hx hy)]; rfl
    · subst hy; simp [sgn_zero]
    · rw [sgn_pos hx, sgn_pos hy, sgn_pos (Int.mul_pos hx hy)]; rfl
theorem sgn_lt (x : Int) : sgn x < 0 ↔ x < 0 := by unfold sgn; split <;> (try split) <;> omega
theorem sgn_gt (x : Int) : 0 < sgn x ↔ 0 < x := by unfold sgn; split <;> (try split) <;> omega
theorem sgn_eq (x : Int) : sgn x = 0 ↔ x = 0 := by unfold sgn; split <;> (try split) <;> omega
/-- Whether two segments meet, in the program's words. -/
def meetB (a b c d : P3) : Bool := ovlB a b c d && !decide (0 < turn c d a * turn c d b) && !decide (0 < turn a b c * turn a b d)
theorem meet_eq (a b c d : P3) : meetV (turn a b c) (turn a b d) (turn c d a) (turn c d b) (onB a b c) (onB a b d) (onB c d a) (onB c d b) = meetB a b c d := by
  rw [Bool.eq_iff_iff]
  unfold meetV meetB ovlB turn crsP
  simp only [Bool.or_eq_true, Bool.and_eq_true, decide_eq_true_eq, Bool.not_eq_true', decide_eq_false_iff_not, onB_iff, sgn_mul, sgn_lt, sgn_gt, sgn_eq, Int.not_lt, or_assoc]
  have key := meet_iff a.1 a.2.1 b.1 b.2.1 c.1 c.2.1 d.1 d.2.1
  unfold ovl at key
  rw [key]
  constructor
  · rintro ⟨⟨h1, h2, h3, h4⟩, h5, h6⟩
    exact ⟨⟨⟨⟨⟨h1, h2⟩, h3⟩, h4⟩, h5⟩, h6⟩
  · rintro ⟨⟨⟨⟨⟨h1, h2⟩, h3⟩, h4⟩, h5⟩, h6⟩
    exact ⟨⟨h1, h2, h3, h4⟩, h5, h6⟩

set_option maxRecDepth 100000 in
set_option maxHeartbeats 2000000 in
theorem beside_calls (a b c d : P3) (ha : Rg a) (hb : Rg b) (hc : Rg c) (hd : Rg d) (r : Bool) (hr : decide (0 < turn c d a * turn c d b) = r) (w : World) :
    Calls Try.prog 78 #[sg a b, .func (.func 57) #[sg c d] #[]] w fun e w' => e = .returned (.bool r) ∧ Below w.heap.size w w' := by
  have T1 := Lib.hid (fun W => turnTo_calls c d a hc hd ha W)
  have T2 := Lib.hid (fun W => turnTo_calls c d b hc hd hb W)
  have hp := turn_rng c d a
  have hq := turn_rng c d b
  have hm := mixedO
  generalize turn c d a = p at *
  generalize turn c d b = q at *
  have hpq := mul_small (x := p) (y := q) (by omega) (by omega) (by omega) (by omega)
  obtain ⟨u, hu⟩ : ∃ u, p * q = u := ⟨_, rfl⟩
  rw [hu] at hpq hr
  have hu2 : IntKind.i64.wrap (p * q) = u := by rw [hu]; exact IntWalk.i64_in _ (by omega)
  have B0 := Lib.hid (below_alloc1 w (.cells #[.int .i64 a.1, .int .i64 a.2.1, .int .i64 a.2.2, .int .i64 b.1, .int .i64 b.2.1, .int .i64 b.2.2] 66))
  clear ha hb hc hd hp hq
  go_enter Try.func78, Try.ntmps78
  go_wp2
  have c0 := cell_kept (w := w.alloc (.cells #[.int .i64 a.1, .int .i64 a.2.1, .int .i64 a.2.2, .int .i64 b.1, .int .i64 b.2.1, .int .i64 b.2.2] 66)) (a := ⟨w.heap.size, 0, none⟩) (v := .int .i64 a.1) (by simp) (by simp)
  have c1 := cell_kept (w := w.alloc (.cells #[.int .i64 a.1, .int .i64 a.2.1, .int .i64 a.2.2, .int .i64 b.1, .int .i64 b.2.1, .int .i64 b.2.2] 66)) (a := ⟨w.heap.size, 1, none⟩) (v := .int .i64 a.2.1) (by simp) (by simp)
  have c2 := cell_kept (w := w.alloc (.cells #[.int .i64 a.1, .int .i64 a.2.1, .int .i64 a.2.2, .int .i64 b.1, .int .i64 b.2.1, .int .i64 b.2.2] 66)) (a := ⟨w.heap.size, 2, none⟩) (v := .int .i64 a.2.2) (by simp) (by simp)
  have c3 := cell_kept (w := w.alloc (.cells #[.int .i64 a.1, .int .i64 a.2.1, .int .i64 a.2.2, .int .i64 b.1, .int .i64 b.2.1, .int .i64 b.2.2] 66)) (a := ⟨w.heap.size, 3, none⟩) (v := .int .i64 b.1) (by simp) (by simp)
  have c4 := cell_kept (w := w.alloc (.cells #[.int .i64 a.1, .int .i64 a.2.1, .int .i64 a.2.2, .int .i64 b.1, .int .i64 b.2.1, .int .i64 b.2.2] 66)) (a := ⟨w.heap.size, 4, none⟩) (v := .int .i64 b.2.1) (by simp) (by simp)
  have c5 := cell_kept (w := w.alloc (.cells #[.int .i64 a.1, .int .i64 a.2.1, .int .i64 a.2.2, .int .i64 b.1, .int .i64 b.2.1, .int .i64 b.2.2] 66)) (a := ⟨w.heap.size, 5, none⟩) (v := .int .i64 b.2.2) (by simp) (by simp)
  clear hu
  refine wp_region_quiet_kept (by assumption) (by kernel_rfl) ?_
  repeat (first | go_big_quiet_step ((go_at_call 57; (first | (with_reducible exact Calls.kept_of (T1.out _)) | (with_reducible exact Calls.kept_of (T2.out _))))) | quiet_step ((go_at_call 57; (first | (with_reducible exact Calls.kept_of (T1.out _)) | (with_reducible exact Calls.kept_of (T2.out _))))))
  refine wpQuiet_nil ?_
  intro w2 hw'
  have hB : Below (w.alloc (.cells #[.int .i64 a.1, .int .i64 a.2.1, .int .i64 a.2.2, .int .i64 b.1, .int .i64 b.2.1, .int .i64 b.2.2] 66)).heap.size (w.alloc (.cells #[.int .i64 a.1, .int .i64 a.2.1, .int .i64 a.2.2, .int .i64 b.1, .int .i64 b.2.1, .int .i64 b.2.2] 66)) w2 := by obtain ⟨⟨wk, hb0⟩, hw''⟩ := hw'; rw [hw'']; exact hb0
  have HB2 := Lib.hid (B0.out.trans (hB.mono B0.out.size))
  clear hw' hB c0 c1 c2 c3 c4 c5 hu2
  go_wp2
  go_ret
  exact ⟨by first | rfl | exact ret_bool hr, HB2.out⟩
theorem boxes_r (a b c d : P3) (r : Bool) (hr : ovlB a b c d = r) (w : World) : Calls Try.prog 77 #[sbox a b, sbox c d] w fun e w' => e = .returned (.bool r) ∧ Below w.heap.size w w' :=
  (boxes_calls _ _ _ _ _ _ _ _ w).mono fun _ _ ⟨he, hb⟩ => ⟨by rw [he, ← hr]; rfl, hb⟩
set_option maxRecDepth 100000 in
set_option maxHeartbeats 4000000 in
theorem meets_calls (a b c d : P3) (ha : Rg a) (hb : Rg b) (hc : Rg c) (hd : Rg d) (w : World) :
    Calls Try.prog 59 #[sg a b, sg c d] w fun e w' => e = .returned (.bool (meetB a b c d)) ∧ Below w.heap.size w w' := by
  have X1 := Lib.hid (fun W => box_calls a b W)
  have X2 := Lib.hid (fun W => box_calls c d W)
  obtain ⟨o, ho⟩ : ∃ o, ovlB a b c d = o := ⟨_, rfl⟩
  obtain ⟨s1, h1⟩ : ∃ s, decide (0 < turn c d a * turn c d b) = s := ⟨_, rfl⟩
  obtain ⟨s2, h2⟩ : ∃ s, decide (0 < turn a b c * turn a b d) = s := ⟨_, rfl⟩
  have HV := Lib.hid (show meetB a b c d = (o && !s1 && !s2) by unfold meetB; rw [ho, h1, h2])
  have O := Lib.hid (fun W => boxes_r a b c d o ho W)
  have S1 := Lib.hid (fun W => beside_calls a b c d ha hb hc hd s1 h1 W)
  have S2 := Lib.hid (fun W => beside_calls c d a b hc hd ha hb s2 h2 W)
  have hm := mixedO
  have hu : undef = Value.tuple #[] := rfl
  have B0 := Lib.hid (below_alloc2 w (.cells #[.int .i64 a.1, .int .i64 a.2.1, .int .i64 a.2.2, .int .i64 b.1, .int .i64 b.2.1, .int .i64 b.2.2] 66) (.cells #[.int .i64 c.1, .int .i64 c.2.1, .int .i64 c.2.2, .int .i64 d.1, .int .i64 d.2.1, .int .i64 d.2.2] 66))
  clear ho h1 h2 ha hb hc hd
  have c0 := cell_kept (w := ((w.alloc (.cells #[.int .i64 a.1, .int .i64 a.2.1, .int .i64 a.2.2, .int .i64 b.1, .int .i64 b.2.1, .int .i64 b.2.2] 66)).alloc (.cells #[.int .i64 c.1, .int .i64 c.2.1, .int .i64 c.2.2, .int .i64 d.1, .int .i64 d.2.1, .int .i64 d.2.2] 66))) (a := ⟨w.heap.size, 0, none⟩) (v := .int .i64 a.1) (by first | (simp; done) | (simp; omega)) (cellA _ _ _ _ _ (by simp) (by simp))
  have c1 := cell_kept (w := ((w.alloc (.cells #[.int .i64 a.1, .int .i64 a.2.1, .int .i64 a.2.2, .int .i64 b.1, .int .i64 b.2.1, .int .i64 b.2.2] 66)).alloc (.cells #[.int .i64 c.1, .int .i64 c.2.1, .int .i64 c.2.2, .int .i64 d.1, .int .i64 d.2.1, .int .i64 d.2.2] 66))) (a := ⟨w.heap.size, 1, none⟩) (v := .int .i64 a.2.1) (by first | (simp; done) | (simp; omega)) (cellA _ _ _ _ _ (by simp) (by simp))
  have c2 := cell_kept (w := ((w.alloc (.cells #[.int .i64 a.1, .int .i64 a.2.1, .int .i64 a.2.2, .int .i64 b.1, .int .i64 b.2.1, .int .i64 b.2.2] 66)).alloc (.cells #[.int .i64 c.1, .int .i64 c.2.1, .int .i64 c.2.2, .int .i64 d.1, .int .i64 d.2.1, .int .i64 d.2.2] 66))) (a := ⟨w.heap.size, 2, none⟩) (v := .int .i64 a.2.2) (by first | (simp; done) | (simp; omega)) (cellA _ _ _ _ _ (by simp) (by simp))
  have c3 := cell_kept (w := ((w.alloc (.cells #[.int .i64 a.1, .int .i64 a.2.1, .int .i64 a.2.2, .int .i64 b.1, .int .i64 b.2.1, .int .i64 b.2.2] 66)).alloc (.cells #[.int .i64 c.1, .int .i64 c.2.1, .int .i64 c.2.2, .int .i64 d.1, .int .i64 d.2.1, .int .i64 d.2.2] 66))) (a := ⟨w.heap.size, 3, none⟩) (v := .int .i64 b.1) (by first | (simp; done) | (simp; omega)) (cellA _ _ _ _ _ (by simp) (by simp))
  have c4 := cell_kept (w := ((w.alloc (.cells #[.int .i64 a.1, .int .i64 a.2.1, .int .i64 a.2.2, .int .i64 b.1, .int .i64 b.2.1, .int .i64 b.2.2] 66)).alloc (.cells #[.int .i64 c.1, .int .i64 c.2.1, .int .i64 c.2.2, .int .i64 d.1, .int .i64 d.2.1, .int .i64 d.2.2] 66))) (a := ⟨w.heap.size, 4, none⟩) (v := .int .i64 b.2.1) (by first | (simp; done) | (simp; omega)) (cellA _ _ _ _ _ (by simp) (by simp))
  have c5 := cell_kept (w := ((w.alloc (.cells #[.int .i64 a.1, .int .i64 a.2.1, .int .i64 a.2.2, .int .i64 b.1, .int .i64 b.2.1, .int .i64 b.2.2] 66)).alloc (.cells #[.int .i64 c.1, .int .i64 c.2.1, .int .i64 c.2.2, .int .i64 d.1, .int .i64 d.2.1, .int .i64 d.2.2] 66))) (a := ⟨w.heap.size, 5, none⟩) (v := .int .i64 b.2.2) (by first | (simp; done) | (simp; omega)) (cellA _ _ _ _ _ (by simp) (by simp))
  have d0 := cell_kept (w := ((w.alloc (.cells #[.int .i64 a.1, .int .i64 a.2.1, .int .i64 a.2.2, .int .i64 b.1, .int .i64 b.2.1, .int .i64 b.2.2] 66)).alloc (.cells #[.int .i64 c.1, .int .i64 c.2.1, .int .i64 c.2.2, .int .i64 d.1, .int .i64 d.2.1, .int .i64 d.2.2] 66))) (a := ⟨w.heap.size + 1, 0, none⟩) (v := .int .i64 c.1) (by simp) (cellN _ _ _ _ _ _ (by simp) (by simp))
  have d1 := cell_kept (w := ((w.alloc (.cells #[.int .i64 a.1, .int .i64 a.2.1, .int .i64 a.2.2, .int .i64 b.1, .int .i64 b.2.1, .int .i64 b.2.2] 66)).alloc (.cells #[.int .i64 c.1, .int .i64 c.2.1, .int .i64 c.2.2, .int .i64 d.1, .int .i64 d.2.1, .int .i64 d.2.2] 66))) (a := ⟨w.heap.size + 1, 1, none⟩) (v := .int .i64 c.2.1) (by simp) (cellN _ _ _ _ _ _ (by simp) (by simp))
  have d2 := cell_kept (w := ((w.alloc (.cells #[.int .i64 a.1, .int .i64 a.2.1, .int .i64 a.2.2, .int .i64 b.1, .int .i64 b.2.1, .int .i64 b.2.2] 66)).alloc (.cells #[.int .i64 c.1, .int .i64 c.2.1, .int .i64 c.2.2, .int .i64 d.1, .int .i64 d.2.1, .int .i64 d.2.2] 66))) (a := ⟨w.heap.size + 1, 2, none⟩) (v := .int .i64 c.2.2) (by simp) (cellN _ _ _ _ _ _ (by simp) (by simp))
  have d3 := cell_kept (w := ((w.alloc (.cells #[.int .i64 a.1, .int .i64 a.2.1, .int .i64 a.2.2, .int .i64 b.1, .int .i64 b.2.1, .int .i64 b.2.2] 66)).alloc (.cells #[.int .i64 c.1, .int .i64 c.2.1, .int .i64 c.2.2, .int .i64 d.1, .int .i64 d.2.1, .int .i64 d.2.2] 66))) (a := ⟨w.heap.size + 1, 3, none⟩) (v := .int .i64 d.1) (by simp) (cellN _ _ _ _ _ _ (by simp) (by simp))
  have d4 := cell_kept (w := ((w.alloc (.cells #[.int .i64 a.1, .int .i64 a.2.1, .int .i64 a.2.2, .int .i64 b.1, .int .i64 b.2.1, .int .i64 b.2.2] 66)).alloc (.cells #[.int .i64 c.1, .int .i64 c.2.1, .int .i64 c.2.2, .int .i64 d.1, .int .i64 d.2.1, .int .i64 d.2.2] 66))) (a := ⟨w.heap.size + 1, 4, none⟩) (v := .int .i64 d.2.1) (by simp) (cellN _ _ _ _ _ _ (by simp) (by simp))
  have d5 := cell_kept (w := ((w.alloc (.cells #[.int .i64 a.1, .int .i64 a.2.1, .int .i64 a.2.2, .int .i64 b.1, .int .i64 b.2.1, .int .i64 b.2.2] 66)).alloc (.cells #[.int .i64 c.1, .int .i64 c.2.1, .int .i64 c.2.2, .int .i64 d.1, .int .i64 d.2.1, .int .i64 d.2.2] 66))) (a := ⟨w.heap.size + 1, 5, none⟩) (v := .int .i64 d.2.2) (by simp) (cellN _ _ _ _ _ _ (by simp) (by simp))
  rw [HV.out]
  clear HV
  have hcase : (o = false) ∨ (o = true ∧ s1 = true) ∨ (o = true ∧ s1 = false ∧ s2 = true) ∨ (o = true ∧ s1 = false ∧ s2 = false) := by
    cases o <;> cases s1 <;> cases s2 <;> simp
  rcases hcase with rfl | ⟨rfl, rfl⟩ | ⟨rfl, rfl, rfl⟩ | ⟨rfl, rfl, rfl⟩
  all_goals
    go_enter Try.func59, Try.ntmps59
    go_wp2
    refine wp_region_quiet_kept (by assumption) (by kernel_rfl) ?_
    repeat (first | go_big_quiet_step ((first | (go_at_call 76; (first | (with_reducible exact Calls.kept_of (X1.out _)) | (with_reducible exact Calls.kept_of (X2.out _)))) | (go_at_call 77; (with_reducible exact Calls.kept_of (O.out _))) | (go_at_call 78; (first | (with_reducible exact Calls.kept_of (S1.out _)) | (with_reducible exact Calls.kept_of (S2.out _)))))) | quiet_step ((first | (go_at_call 76; (first | (with_reducible exact Calls.kept_of (X1.out _)) | (with_reducible exact Calls.kept_of (X2.out _)))) | (go_at_call 77; (with_reducible exact Calls.kept_of (O.out _))) | (go_at_call 78; (first | (with_reducible exact Calls.kept_of (S1.out _)) | (with_reducible exact Calls.kept_of (S2.out _)))))))
    refine wpQuiet_nil ?_
    intro w2 hw'
    have hB : Below ((w.alloc (.cells #[.int .i64 a.1, .int .i64 a.2.1, .int .i64 a.2.2, .int .i64 b.1, .int .i64 b.2.1, .int .i64 b.2.2] 66)).alloc (.cells #[.int .i64 c.1, .int .i64 c.2.1, .int .i64 c.2.2, .int .i64 d.1, .int .i64 d.2.1, .int .i64 d.2.2] 66)).heap.size ((w.alloc (.cells #[.int .i64 a.1, .int .i64 a.2.1, .int .i64 a.2.2, .int .i64 b.1, .int .i64 b.2.1, .int .i64 b.2.2] 66)).alloc (.cells #[.int .i64 c.1, .int .i64 c.2.1, .int .i64 c.2.2, .int .i64 d.1, .int .i64 d.2.1, .int .i64 d.2.2] 66)) w2 := by obtain ⟨⟨wk, hb0⟩, hw''⟩ := hw'; rw [hw'']; exact hb0
    have HB2 := Lib.hid (B0.out.trans (hB.mono B0.out.size))
    clear hw' hB c0 c1 c2 c3 c4 c5 d0 d1 d2 d3 d4 d5 hu
    go_wp2
    go_ret
    exact ⟨rfl, HB2.out⟩
end Go.Proofs.Ytmpiijnhbeipiaa.meet
