/-
  Proved: comparing two values that read as the same datum answers true (contracts of callees of the exact laws).
  Conditions: both values are read out of memory.
-/
import Derived.Test.YtofgdgdmmlgmnaaShape
namespace Go.Proofs.Ytofgdgdmmlgmnaa.core
open Go.ChangeShapes Go.WideShapes Go.ChangeAt Go.RowKit Go.Joins
set_option linter.unusedVariables false
set_option linter.unusedSimpArgs false

theorem mixed : Try.prog.follows .mixedOrders = true := by kernel_rfl
theorem box2 {w W : World} {C0 C1 : Array Value} {T0 T1 : Nat} (hb : Below ((w.alloc (.cells C0 T0)).alloc (.cells C1 T1)).heap.size ((w.alloc (.cells C0 T0)).alloc (.cells C1 T1)) W) :
    (∀ q, W.cell? ⟨w.heap.size, q, none⟩ = C0[q]?) ∧ (∀ q, W.cell? ⟨w.heap.size + 1, q, none⟩ = C1[q]?) ∧ w.heap.size + 1 < W.heap.size := by
  have hs := hb.size
  simp at hs
  refine ⟨fun q => (hb.cell (p := ⟨w.heap.size, q, none⟩) (by simp; omega)).trans ?_, fun q => (hb.cell (p := ⟨w.heap.size + 1, q, none⟩) (by simp)).trans ?_, by omega⟩
  · rw [World.cell?_alloc_lt _ _ _ (by simp)]; exact World.cell?_alloc_new w C0 T0 q
  · simp

set_option maxRecDepth 100000 in
set_option maxHeartbeats 2000000 in
theorem eqPoint_same (x0 : Int) (x1 : Int) (x2 : Int) (w : World)  :
    Calls Try.prog 92 #[.agg #[.int .i64 x0, .int .i64 x1, .int .i64 x2], .agg #[.int .i64 x0, .int .i64 x1, .int .i64 x2]] w fun e w' => e = .returned (.bool true) ∧ Below w.heap.size w w' := by
  go_enter Try.func92, Try.ntmps92
  go_wp2
  go_ret
  exact ⟨rfl, below_alloc2 _ _ _⟩

set_option maxRecDepth 100000 in
set_option maxHeartbeats 2000000 in
theorem eqPointS_same (A B : Option Addr) (n c d : Nat) (f : Nat → Nat → Dat) (w : World) (hm : n ≤ maxLen) (hr : RowsAt w A n 3 f) (hs : RowsAt w B n 3 f) (ht : tyPointS (.sl n 3 f)) :
    Calls Try.prog 64 #[.slice A n c, .slice B n d] w fun e w' => e = .returned (.bool true) ∧ Below w.heap.size w w' := by
  have HR := Lib.hid hr
  have HS := Lib.hid hs
  have HT := Lib.hid (tyPointS_at ht)
  have hm' : n ≤ 9223372036854775807 := by unfold maxLen at hm; omega
  clear hr hs ht hm
  have hmix := mixed
  have hu : undef = Value.tuple #[] := rfl
  go_enter Try.func64, Try.ntmps64
  go_wp2
  go_loopw [5] (fun i w' => ∃ m : Nat, m ≤ n ∧ i = .int .i64 (m : Int) ∧ Hid (Below w.heap.size w w')) (fun i _ => n - (intOf i).toNat)
  case atStart => exact ⟨0, Nat.zero_le _, rfl, Lib.hid (Below.refl _ _)⟩
  case round =>
    obtain ⟨m, hmn, rfl, HB⟩ := hrel
    by_cases hlt : m < n
    · obtain ⟨b, o, rfl, hbl, hj⟩ := HR.out m hlt
      obtain ⟨b', o', rfl, hbl', hj'⟩ := HS.out m hlt
      have hT := HT.out m hlt
      obtain ⟨⟨x0, e0⟩, ⟨x1, e1⟩, ⟨x2, e2⟩⟩ := hT
      obtain ⟨u0, q0, r0⟩ := hj 0 (by omega)
      rw [e0] at r0
      obtain ⟨rfl, hi0⟩ := r0.int_inv
      replace q0 := (HB.out.cell (p := ⟨b, o + m * 3 + 0, none⟩) hbl).trans q0
      clear r0
      simp only [Nat.add_zero, Nat.mul_one] at q0
      obtain ⟨u1, q1, r1⟩ := hj 1 (by omega)
      rw [e1] at r1
      obtain ⟨rfl, hi1⟩ := r1.int_inv
      replace q1 := (HB.out.cell (p := ⟨b, o + m * 3 + 1, none⟩) hbl).trans q1
      clear r1
      obtain ⟨u2, q2, r2⟩ := hj 2 (by omega)
      rw [e2] at r2
      obtain ⟨rfl, hi2⟩ := r2.int_inv
      replace q2 := (HB.out.cell (p := ⟨b, o + m * 3 + 2, none⟩) hbl).trans q2
      clear r2
      clear hj
      obtain ⟨u0', p0, r0⟩ := hj' 0 (by omega)
      rw [e0] at r0
      obtain ⟨rfl, -⟩ := r0.int_inv
      replace p0 := (HB.out.cell (p := ⟨b', o' + m * 3 + 0, none⟩) hbl').trans p0
      clear r0
      simp only [Nat.add_zero, Nat.mul_one] at p0
      obtain ⟨u1', p1, r1⟩ := hj' 1 (by omega)
      rw [e1] at r1
      obtain ⟨rfl, -⟩ := r1.int_inv
      replace p1 := (HB.out.cell (p := ⟨b', o' + m * 3 + 1, none⟩) hbl').trans p1
      clear r1
      obtain ⟨u2', p2, r2⟩ := hj' 2 (by omega)
      rw [e2] at r2
      obtain ⟨rfl, -⟩ := r2.int_inv
      replace p2 := (HB.out.cell (p := ⟨b', o' + m * 3 + 2, none⟩) hbl').trans p2
      clear r2
      clear hj'
      clear e0 e1 e2
      have hbz : b < wr.heap.size := Nat.lt_of_lt_of_le hbl HB.out.size
      have hbz' : b' < wr.heap.size := Nat.lt_of_lt_of_le hbl' HB.out.size
      replace q0 := cell_kept hbz q0
      replace p0 := cell_kept hbz' p0
      replace q1 := cell_kept hbz q1
      replace p1 := cell_kept hbz' p1
      replace q2 := cell_kept hbz q2
      replace p2 := cell_kept hbz' p2
      have hli : (m : Int) < (n : Int) := by omega
      go_wp2
      refine wp_region_quiet_kept (by assumption) (by kernel_rfl) ?_
      repeat (first | go_big_quiet_step ((go_at_call 92; exact Calls.kept_of (eqPoint_same x0 x1 x2 _ ))) | quiet_step ((go_at_call 92; exact Calls.kept_of (eqPoint_same x0 x1 x2 _ ))))
      refine wpQuiet_nil ?_
      intro _ hw'
      obtain ⟨⟨w2, hb2⟩, hw''⟩ := hw'
      subst hw''
      have HB2 := Lib.hid (HB.out.trans (hb2.mono HB.out.size))
      clear hb2 hli q0 p0 q1 p1 q2 p2
      go_wp2
      go_roundw
      case rel => exact ⟨m + 1, by omega, by go_num, HB2⟩
      case measure => simp [intOf]; omega
    · go_wp2
      go_ret
      exact ⟨rfl, HB.out⟩

set_option maxRecDepth 100000 in
set_option maxHeartbeats 2000000 in
theorem eqStroke_same (A0 : Option Addr) (n0 c0 : Nat) (f0 : Nat → Nat → Dat) (B0 : Option Addr) (d0 : Nat) (w : World) (hm0 : n0 ≤ maxLen) (hr0 : RowsAt w A0 n0 3 f0) (hs0 : RowsAt w B0 n0 3 f0) (ht0 : tyPointS (.sl n0 3 f0)) :
    Calls Try.prog 37 #[.agg #[.slice A0 n0 c0], .agg #[.slice B0 n0 d0]] w fun e w' => e = .returned (.bool true) ∧ Below w.heap.size w w' := by
  have HR0 := Lib.hid hr0
  have HS0 := Lib.hid hs0
  have HT0 := Lib.hid ht0
  clear hr0 hs0 ht0
  go_enter Try.func37, Try.ntmps37
  go_wp2_with fail
  refine (eqPointS_same A0 B0 n0 c0 d0 f0 _ hm0 (HR0.out.below (below_alloc2 _ _ _)) (HS0.out.below (below_alloc2 _ _ _)) HT0.out).mono ?_
  rintro e w0 ⟨rfl, hb⟩
  have HX0 := Lib.hid hb
  have HB0 := Lib.hid ((below_alloc2 w _ _).trans (hb.mono (below_alloc2 w _ _).size))
  obtain ⟨bx0_0, bx1_0, bz_0⟩ := box2 HX0.out
  clear hb
  go_wp2
  go_ret
  exact ⟨rfl, HB0.out⟩

set_option maxRecDepth 100000 in
set_option maxHeartbeats 2000000 in
theorem eqStrokeS_same (A B : Option Addr) (n c d : Nat) (f : Nat → Nat → Dat) (w : World) (hm : n ≤ maxLen) (hr : RowsAt w A n 1 f) (hs : RowsAt w B n 1 f) (ht : tyStrokeS (.sl n 1 f)) :
    Calls Try.prog 73 #[.slice A n c, .slice B n d] w fun e w' => e = .returned (.bool true) ∧ Below w.heap.size w w' := by
  have HR := Lib.hid hr
  have HS := Lib.hid hs
  have HT := Lib.hid (tyStrokeS_at ht)
  have hm' : n ≤ 9223372036854775807 := by unfold maxLen at hm; omega
  clear hr hs ht hm
  have hmix := mixed
  have hu : undef = Value.tuple #[] := rfl
  go_enter Try.func73, Try.ntmps73
  go_wp2
  go_loopw [5] (fun i w' => ∃ m : Nat, m ≤ n ∧ i = .int .i64 (m : Int) ∧ Hid (Below w.heap.size w w')) (fun i _ => n - (intOf i).toNat)
  case atStart => exact ⟨0, Nat.zero_le _, rfl, Lib.hid (Below.refl _ _)⟩
  case round =>
    obtain ⟨m, hmn, rfl, HB⟩ := hrel
    by_cases hlt : m < n
    · obtain ⟨b, o, rfl, hbl, hj⟩ := HR.out m hlt
      obtain ⟨b', o', rfl, hbl', hj'⟩ := HS.out m hlt
      have hT := HT.out m hlt
      have ht0 := hT
      have HT0 := Lib.hid ht0
      obtain ⟨n0, f0, e0, -⟩ := ht0
      rw [e0] at HT0
      obtain ⟨u0, q0, r0⟩ := hj 0 (by omega)
      rw [e0] at r0
      obtain ⟨A0, c0, rfl, hm0, hr0⟩ := r0.sl_inv
      have HR0 := Lib.hid (hr0.below HB.out)
      clear hr0
      replace q0 := (HB.out.cell (p := ⟨b, o + m * 1 + 0, none⟩) hbl).trans q0
      clear r0
      simp only [Nat.add_zero, Nat.mul_one] at q0
      clear hj
      obtain ⟨u0', p0, r0⟩ := hj' 0 (by omega)
      rw [e0] at r0
      obtain ⟨B0, d0, rfl, -, hr0⟩ := r0.sl_inv
      have HS0 := Lib.hid (hr0.below HB.out)
      clear hr0
      replace p0 := (HB.out.cell (p := ⟨b', o' + m * 1 + 0, none⟩) hbl').trans p0
      clear r0
      simp only [Nat.add_zero, Nat.mul_one] at p0
      clear hj'
      clear e0
      have hbz : b < wr.heap.size := Nat.lt_of_lt_of_le hbl HB.out.size
      have hbz' : b' < wr.heap.size := Nat.lt_of_lt_of_le hbl' HB.out.size
      replace q0 := cell_kept hbz q0
      replace p0 := cell_kept hbz' p0
      have hli : (m : Int) < (n : Int) := by omega
      go_wp2
      refine wp_region_quiet_kept (by assumption) (by kernel_rfl) ?_
      repeat (first | go_big_quiet_step ((go_at_call 37; exact Calls.kept_of (eqStroke_same A0 n0 c0 f0 B0 d0 _ hm0 (HR0.out.below (Kept.below _)) (HS0.out.below (Kept.below _)) HT0.out))) | quiet_step ((go_at_call 37; exact Calls.kept_of (eqStroke_same A0 n0 c0 f0 B0 d0 _ hm0 (HR0.out.below (Kept.below _)) (HS0.out.below (Kept.below _)) HT0.out))))
      refine wpQuiet_nil ?_
      intro _ hw'
      obtain ⟨⟨w2, hb2⟩, hw''⟩ := hw'
      subst hw''
      have HB2 := Lib.hid (HB.out.trans (hb2.mono HB.out.size))
      clear hb2 hli q0 p0
      go_wp2
      go_roundw
      case rel => exact ⟨m + 1, by omega, by go_num, HB2⟩
      case measure => simp [intOf]; omega
    · go_wp2
      go_ret
      exact ⟨rfl, HB.out⟩

set_option maxRecDepth 100000 in
set_option maxHeartbeats 2000000 in
theorem eqInk_same (A0 : Option Addr) (n0 c0 : Nat) (f0 : Nat → Nat → Dat) (B0 : Option Addr) (d0 : Nat) (w : World) (hm0 : n0 ≤ maxLen) (hr0 : RowsAt w A0 n0 1 f0) (hs0 : RowsAt w B0 n0 1 f0) (ht0 : tyStrokeS (.sl n0 1 f0)) :
    Calls Try.prog 42 #[.agg #[.slice A0 n0 c0], .agg #[.slice B0 n0 d0]] w fun e w' => e = .returned (.bool true) ∧ Below w.heap.size w w' := by
  have HR0 := Lib.hid hr0
  have HS0 := Lib.hid hs0
  have HT0 := Lib.hid ht0
  clear hr0 hs0 ht0
  go_enter Try.func42, Try.ntmps42
  go_wp2_with fail
  refine (eqStrokeS_same A0 B0 n0 c0 d0 f0 _ hm0 (HR0.out.below (below_alloc2 _ _ _)) (HS0.out.below (below_alloc2 _ _ _)) HT0.out).mono ?_
  rintro e w0 ⟨rfl, hb⟩
  have HX0 := Lib.hid hb
  have HB0 := Lib.hid ((below_alloc2 w _ _).trans (hb.mono (below_alloc2 w _ _).size))
  obtain ⟨bx0_0, bx1_0, bz_0⟩ := box2 HX0.out
  clear hb
  go_wp2
  go_ret
  exact ⟨rfl, HB0.out⟩

set_option maxRecDepth 100000 in
set_option maxHeartbeats 2000000 in
theorem eqHyp_same (s0 : ByteArray) (x1 : Int) (w : World)  :
    Calls Try.prog 26 #[.agg #[.string s0, .int .i64 x1], .agg #[.string s0, .int .i64 x1]] w fun e w' => e = .returned (.bool true) ∧ Below w.heap.size w w' := by
  go_enter Try.func26, Try.ntmps26
  go_wp2
  go_ret
  exact ⟨rfl, below_alloc2 _ _ _⟩

set_option maxRecDepth 100000 in
set_option maxHeartbeats 2000000 in
theorem eqHypS_same (A B : Option Addr) (n c d : Nat) (f : Nat → Nat → Dat) (w : World) (hm : n ≤ maxLen) (hr : RowsAt w A n 2 f) (hs : RowsAt w B n 2 f) (ht : tyHypS (.sl n 2 f)) :
    Calls Try.prog 19 #[.slice A n c, .slice B n d] w fun e w' => e = .returned (.bool true) ∧ Below w.heap.size w w' := by
  have HR := Lib.hid hr
  have HS := Lib.hid hs
  have HT := Lib.hid (tyHypS_at ht)
  have hm' : n ≤ 9223372036854775807 := by unfold maxLen at hm; omega
  clear hr hs ht hm
  have hmix := mixed
  have hu : undef = Value.tuple #[] := rfl
  go_enter Try.func19, Try.ntmps19
  go_wp2
  go_loopw [5] (fun i w' => ∃ m : Nat, m ≤ n ∧ i = .int .i64 (m : Int) ∧ Hid (Below w.heap.size w w')) (fun i _ => n - (intOf i).toNat)
  case atStart => exact ⟨0, Nat.zero_le _, rfl, Lib.hid (Below.refl _ _)⟩
  case round =>
    obtain ⟨m, hmn, rfl, HB⟩ := hrel
    by_cases hlt : m < n
    · obtain ⟨b, o, rfl, hbl, hj⟩ := HR.out m hlt
      obtain ⟨b', o', rfl, hbl', hj'⟩ := HS.out m hlt
      have hT := HT.out m hlt
      obtain ⟨⟨s0, e0⟩, ⟨x1, e1⟩⟩ := hT
      obtain ⟨u0, q0, r0⟩ := hj 0 (by omega)
      rw [e0] at r0
      obtain ⟨rfl, hs0⟩ := r0.str_inv
      have hS0 : s0.size ≤ 9223372036854775807 := by unfold maxLen at hs0; omega
      replace q0 := (HB.out.cell (p := ⟨b, o + m * 2 + 0, none⟩) hbl).trans q0
      clear r0
      simp only [Nat.add_zero, Nat.mul_one] at q0
      obtain ⟨u1, q1, r1⟩ := hj 1 (by omega)
      rw [e1] at r1
      obtain ⟨rfl, hi1⟩ := r1.int_inv
      replace q1 := (HB.out.cell (p := ⟨b, o + m * 2 + 1, none⟩) hbl).trans q1
      clear r1
      clear hj
      obtain ⟨u0', p0, r0⟩ := hj' 0 (by omega)
      rw [e0] at r0
      obtain ⟨rfl, -⟩ := r0.str_inv
      replace p0 := (HB.out.cell (p := ⟨b', o' + m * 2 + 0, none⟩) hbl').trans p0
      clear r0
      simp only [Nat.add_zero, Nat.mul_one] at p0
      obtain ⟨u1', p1, r1⟩ := hj' 1 (by omega)
      rw [e1] at r1
      obtain ⟨rfl, -⟩ := r1.int_inv
      replace p1 := (HB.out.cell (p := ⟨b', o' + m * 2 + 1, none⟩) hbl').trans p1
      clear r1
      clear hj'
      clear e0 e1
      have hbz : b < wr.heap.size := Nat.lt_of_lt_of_le hbl HB.out.size
      have hbz' : b' < wr.heap.size := Nat.lt_of_lt_of_le hbl' HB.out.size
      replace q0 := cell_kept hbz q0
      replace p0 := cell_kept hbz' p0
      replace q1 := cell_kept hbz q1
      replace p1 := cell_kept hbz' p1
      have hli : (m : Int) < (n : Int) := by omega
      go_wp2
      refine wp_region_quiet_kept (by assumption) (by kernel_rfl) ?_
      repeat (first | go_big_quiet_step ((go_at_call 26; exact Calls.kept_of (eqHyp_same s0 x1 _ ))) | quiet_step ((go_at_call 26; exact Calls.kept_of (eqHyp_same s0 x1 _ ))))
      refine wpQuiet_nil ?_
      intro _ hw'
      obtain ⟨⟨w2, hb2⟩, hw''⟩ := hw'
      subst hw''
      have HB2 := Lib.hid (HB.out.trans (hb2.mono HB.out.size))
      clear hb2 hli q0 p0 q1 p1
      go_wp2
      go_roundw
      case rel => exact ⟨m + 1, by omega, by go_num, HB2⟩
      case measure => simp [intOf]; omega
    · go_wp2
      go_ret
      exact ⟨rfl, HB.out⟩

end Go.Proofs.Ytofgdgdmmlgmnaa.core
