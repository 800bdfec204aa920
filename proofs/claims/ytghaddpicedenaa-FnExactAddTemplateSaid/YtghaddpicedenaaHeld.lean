/-
  Proved: the marks that were left are found again (contracts of callees of the exact laws).
  Conditions: the marks are read out of memory.
-/
import Derived.Test.YtghaddpicedenaaMark
import Derived.Test.YtghaddpicedenaaEq
namespace Go.Proofs.Ytghaddpicedenaa.core
open Go.ChangeShapes Go.WideShapes Go.ChangeAt Go.RowKit Go.Joins
set_option linter.unusedVariables false
set_option linter.unusedSimpArgs false

theorem rows_of {w : World} {A : Option Addr} {n c k K : Nat} {f : Nat → Nat → Dat} (h : Reads w (.slice A n c) (mark mt (.sl n k f) K)) : RowsAt w A n k (fun i j => mark mt (f i j) (K + pre (fun a b => cnt (f a b)) k i j)) := by
  obtain ⟨A', c', e, _, hr⟩ := Reads.sl_inv h
  cases e
  exact hr

set_option maxRecDepth 100000 in
set_option maxHeartbeats 2000000 in
theorem heldFeatS_calls (A : Option Addr) (n c K : Nat) (z : Int) (f : Nat → Nat → Dat) (w : World) (hz : z = (K : Int)) (h1 : 1 ≤ K) (hcap : K + cnt (.sl n 3 f) ≤ 1000000000000) (hm : n ≤ maxLen) (ht : tyFeatS (.sl n 3 f)) (hr : Reads w (.slice A n c) (mark mt (.sl n 3 f) K)) :
    Calls Try.prog 41 #[.slice A n c, .int .i64 z] w fun e w' => e = .returned (.int .i64 ((K + cnt (.sl n 3 f) : Nat) : Int)) ∧ Below w.heap.size w w' := by
  subst hz
  have HT := Lib.hid (tyFeatS_at ht)
  have HR := Lib.hid (rows_of hr)
  have hm' : n ≤ 9223372036854775807 := by unfold maxLen at hm; omega
  have HC := Lib.hid hcap
  clear ht hr hcap hm
  go_enter Try.func41, Try.ntmps41
  go_wp2
  go_loopw [1, 5] (fun a i w' => ∃ m : Nat, m ≤ n ∧ i = .int .i64 (m : Int) ∧ a = .int .i64 ((K + pre (fun a b => cnt (f a b)) 3 m 0 : Nat) : Int) ∧ Hid (Below w.heap.size w w')) (fun _ i _ => n - (intOf i).toNat)
  case atStart => exact ⟨0, Nat.zero_le _, rfl, rfl, Lib.hid (Below.refl _ _)⟩
  case round =>
    obtain ⟨m, hmn, rfl, rfl, HB⟩ := hrel
    by_cases hlt : m < n
    · obtain ⟨b, o, rfl, hbl, hj⟩ := HR.out m hlt
      have hT := HT.out m hlt
      have hli : (m : Int) < (n : Int) := by omega
      obtain ⟨⟨x0, e0⟩, ⟨x1, e1⟩, ⟨x2, e2⟩⟩ := hT
      have E0 := Lib.hid e0
      clear e0
      have E1 := Lib.hid e1
      clear e1
      have E2 := Lib.hid e2
      clear e2
      have N0 := Lib.hid (show pre (fun a b => cnt (f a b)) 3 m 1 = pre (fun a b => cnt (f a b)) 3 m 0 + 1 by rw [pre_col]; simp only [E0.out]; try rfl)
      have N1 := Lib.hid (show pre (fun a b => cnt (f a b)) 3 m 2 = pre (fun a b => cnt (f a b)) 3 m 1 + 1 by rw [pre_col]; simp only [E1.out]; try rfl)
      have N2 := Lib.hid (show pre (fun a b => cnt (f a b)) 3 m 3 = pre (fun a b => cnt (f a b)) 3 m 2 + 1 by rw [pre_col]; simp only [E2.out]; try rfl)
      have NR := Lib.hid (pre_row (fun a b => cnt (f a b)) 3 m)
      have NL := Lib.hid (show K + pre (fun a b => cnt (f a b)) 3 m 3 ≤ 1000000000000 by have := HC.out; have := pre_le (fun a b => cnt (f a b)) hlt (Nat.le_refl 3); simp only [cnt] at *; omega)
      obtain ⟨p0, hp0⟩ : ∃ p, p = K + pre (fun a b => cnt (f a b)) 3 m 0 := ⟨_, rfl⟩
      obtain ⟨p1, hp1⟩ : ∃ p, p = K + pre (fun a b => cnt (f a b)) 3 m 1 := ⟨_, rfl⟩
      obtain ⟨p2, hp2⟩ : ∃ p, p = K + pre (fun a b => cnt (f a b)) 3 m 2 := ⟨_, rfl⟩
      obtain ⟨p3, hp3⟩ : ∃ p, p = K + pre (fun a b => cnt (f a b)) 3 m 3 := ⟨_, rfl⟩
      rw [← hp0]
      have z0 : p1 = p0 + 1 := by have := N0.out; omega
      have z1 : p2 = p1 + 1 := by have := N1.out; omega
      have z2 : p3 = p2 + 1 := by have := N2.out; omega
      have zl : p3 ≤ 1000000000000 := by have := NL.out; omega
      have zf : 1 ≤ p0 := by omega
      have zb0 : p0 ≤ 1000000000000 := by omega
      have za0 : 1 ≤ p0 := by omega
      have zb1 : p1 ≤ 1000000000000 := by omega
      have za1 : 1 ≤ p1 := by omega
      have zb2 : p2 ≤ 1000000000000 := by omega
      have za2 : 1 ≤ p2 := by omega
      have zb3 : p3 ≤ 1000000000000 := by omega
      have za3 : 1 ≤ p3 := by omega
      have HP0 := Lib.hid hp0
      have HP1 := Lib.hid hp1
      have HP2 := Lib.hid hp2
      have HP3 := Lib.hid hp3
      have Z0 := Lib.hid z0
      have Z1 := Lib.hid z1
      have Z2 := Lib.hid z2
      clear hp0 hp1 hp2 hp3 z0 z1 z2 zl zf
      obtain ⟨u0, q0, r0⟩ := hj 0 (by omega)
      replace r0 : Reads w u0 (mark mt (f m 0) (K + pre (fun a b => cnt (f a b)) 3 m 0)) := r0
      rw [E0.out, ← HP0.out] at r0
      obtain ⟨rfl, -⟩ := r0.int_inv
      clear r0
      replace q0 := (HB.out.cell (p := ⟨b, o + m * 3 + 0, none⟩) hbl).trans q0
      simp only [Nat.add_zero, Nat.mul_one] at q0
      obtain ⟨u1, q1, r1⟩ := hj 1 (by omega)
      replace r1 : Reads w u1 (mark mt (f m 1) (K + pre (fun a b => cnt (f a b)) 3 m 1)) := r1
      rw [E1.out, ← HP1.out] at r1
      obtain ⟨rfl, -⟩ := r1.int_inv
      clear r1
      replace q1 := (HB.out.cell (p := ⟨b, o + m * 3 + 1, none⟩) hbl).trans q1
      obtain ⟨u2, q2, r2⟩ := hj 2 (by omega)
      replace r2 : Reads w u2 (mark mt (f m 2) (K + pre (fun a b => cnt (f a b)) 3 m 2)) := r2
      rw [E2.out, ← HP2.out] at r2
      obtain ⟨rfl, -⟩ := r2.int_inv
      clear r2
      replace q2 := (HB.out.cell (p := ⟨b, o + m * 3 + 2, none⟩) hbl).trans q2
      clear hj
      have i1 : (p1 : Int) = (p0 : Int) + 1 := by have := Z0.out; omega
      have i2 : (p2 : Int) = (p1 : Int) + 1 := by have := Z1.out; omega
      have hbz : b < wr.heap.size := Nat.lt_of_lt_of_le hbl HB.out.size
      rw [show (p1 : Int) = (p0 : Int) + 1 by have := Z0.out; omega] at q1
      clear i1
      rw [show (p2 : Int) = (p0 : Int) + 1 + 1 by have := Z0.out; have := Z1.out; omega] at q2
      clear i2
      have HA := Lib.hid (show (p0 : Int) + 1 + 1 + 1 = ((K + pre (fun a b => cnt (f a b)) 3 (m + 1) 0 : Nat) : Int) by have := NR.out; have := Z0.out; have := Z1.out; have := Z2.out; have := HP0.out; have := HP1.out; have := HP2.out; have := HP3.out; omega)
      go_wp2
      go_roundw
      case rel => exact ⟨m + 1, by omega, by go_num, congrArg (Value.int .i64) (by have := HA.out; omega), HB⟩
      case measure => simp [intOf]; omega
    · obtain rfl : m = n := by omega
      go_wp2
      go_ret
      exact ⟨rfl, HB.out⟩

set_option maxRecDepth 100000 in
set_option maxHeartbeats 2000000 in
theorem heldTemplateS_calls (A : Option Addr) (n c K : Nat) (z : Int) (f : Nat → Nat → Dat) (w : World) (hz : z = (K : Int)) (h1 : 1 ≤ K) (hcap : K + cnt (.sl n 2 f) ≤ 1000000000000) (hm : n ≤ maxLen) (ht : tyTemplateS (.sl n 2 f)) (hr : Reads w (.slice A n c) (mark mt (.sl n 2 f) K)) :
    Calls Try.prog 30 #[.slice A n c, .int .i64 z] w fun e w' => e = .returned (.int .i64 ((K + cnt (.sl n 2 f) : Nat) : Int)) ∧ Below w.heap.size w w' := by
  subst hz
  have HT := Lib.hid (tyTemplateS_at ht)
  have HR := Lib.hid (rows_of hr)
  have hm' : n ≤ 9223372036854775807 := by unfold maxLen at hm; omega
  have HC := Lib.hid hcap
  clear ht hr hcap hm
  have hmix := mixed
  go_enter Try.func30, Try.ntmps30
  go_wp2
  go_loopw [1, 5] (fun a i w' => ∃ m : Nat, m ≤ n ∧ i = .int .i64 (m : Int) ∧ a = .int .i64 ((K + pre (fun a b => cnt (f a b)) 2 m 0 : Nat) : Int) ∧ Hid (Below w.heap.size w w')) (fun _ i _ => n - (intOf i).toNat)
  case atStart => exact ⟨0, Nat.zero_le _, rfl, rfl, Lib.hid (Below.refl _ _)⟩
  case round =>
    obtain ⟨m, hmn, rfl, rfl, HB⟩ := hrel
    by_cases hlt : m < n
    · obtain ⟨b, o, rfl, hbl, hj⟩ := HR.out m hlt
      have hT := HT.out m hlt
      have hli : (m : Int) < (n : Int) := by omega
      obtain ⟨⟨s0, e0⟩, ht1⟩ := hT
      have E0 := Lib.hid e0
      clear e0
      have HT1 := Lib.hid ht1
      obtain ⟨n1, f1, e1, -⟩ := ht1
      rw [e1] at HT1
      have E1 := Lib.hid e1
      clear e1
      have N0 := Lib.hid (show pre (fun a b => cnt (f a b)) 2 m 1 = pre (fun a b => cnt (f a b)) 2 m 0 + 1 by rw [pre_col]; simp only [E0.out]; try rfl)
      have N1 := Lib.hid (show pre (fun a b => cnt (f a b)) 2 m 2 = pre (fun a b => cnt (f a b)) 2 m 1 + cnt (.sl n1 3 f1) by rw [pre_col]; simp only [E1.out]; try rfl)
      have NR := Lib.hid (pre_row (fun a b => cnt (f a b)) 2 m)
      have NL := Lib.hid (show K + pre (fun a b => cnt (f a b)) 2 m 2 ≤ 1000000000000 by have := HC.out; have := pre_le (fun a b => cnt (f a b)) hlt (Nat.le_refl 2); simp only [cnt] at *; omega)
      obtain ⟨p0, hp0⟩ : ∃ p, p = K + pre (fun a b => cnt (f a b)) 2 m 0 := ⟨_, rfl⟩
      obtain ⟨p1, hp1⟩ : ∃ p, p = K + pre (fun a b => cnt (f a b)) 2 m 1 := ⟨_, rfl⟩
      obtain ⟨p2, hp2⟩ : ∃ p, p = K + pre (fun a b => cnt (f a b)) 2 m 2 := ⟨_, rfl⟩
      rw [← hp0]
      have z0 : p1 = p0 + 1 := by have := N0.out; omega
      have z1 : p2 = p1 + cnt (.sl n1 3 f1) := by have := N1.out; omega
      have zl : p2 ≤ 1000000000000 := by have := NL.out; omega
      have zf : 1 ≤ p0 := by omega
      have zb0 : p0 ≤ 1000000000000 := by omega
      have za0 : 1 ≤ p0 := by omega
      have zb1 : p1 ≤ 1000000000000 := by omega
      have za1 : 1 ≤ p1 := by omega
      have zb2 : p2 ≤ 1000000000000 := by omega
      have za2 : 1 ≤ p2 := by omega
      have HP0 := Lib.hid hp0
      have HP1 := Lib.hid hp1
      have HP2 := Lib.hid hp2
      have Z0 := Lib.hid z0
      have Z1 := Lib.hid z1
      clear hp0 hp1 hp2 z0 z1 zl zf
      obtain ⟨u0, q0, r0⟩ := hj 0 (by omega)
      replace r0 : Reads w u0 (mark mt (f m 0) (K + pre (fun a b => cnt (f a b)) 2 m 0)) := r0
      rw [E0.out, ← HP0.out] at r0
      obtain ⟨rfl, -⟩ := r0.str_inv
      clear r0
      replace q0 := (HB.out.cell (p := ⟨b, o + m * 2 + 0, none⟩) hbl).trans q0
      simp only [Nat.add_zero, Nat.mul_one] at q0
      obtain ⟨u1, q1, r1⟩ := hj 1 (by omega)
      replace r1 : Reads w u1 (mark mt (f m 1) (K + pre (fun a b => cnt (f a b)) 2 m 1)) := r1
      rw [E1.out, ← HP1.out] at r1
      obtain ⟨A1, c1, rfl, hm1, hr1⟩ := r1.sl_inv
      have HR1 := Lib.hid r1
      clear hr1
      replace q1 := (HB.out.cell (p := ⟨b, o + m * 2 + 1, none⟩) hbl).trans q1
      clear hj
      have hbz : b < wr.heap.size := Nat.lt_of_lt_of_le hbl HB.out.size
      have HMT0 := Lib.hid (fun (W : World) (z : Int) (hz : z = (p0 : Int)) => markText_calls p0 z W hz za0 zb0)
      have HQ0 := Lib.hid q0
      generalize mt p0 = tx0 at q0 HMT0 HQ0
      replace q0 := cell_kept hbz q0
      go_wp2
      refine wp_region_quiet_kept (by assumption) (by kernel_rfl) ?_
      repeat (first | go_big_quiet_step ((go_at_call 40; exact Calls.kept_of (HMT0.out _ _ (by have := Z0.out; have := Z0.out; omega)))) | quiet_step ((go_at_call 40; exact Calls.kept_of (HMT0.out _ _ (by have := Z0.out; have := Z0.out; omega)))))
      refine wpQuiet_nil ?_
      intro w0 hw'
      have hb : Below wr.heap.size wr w0 := by obtain ⟨⟨wk, hb0⟩, hw''⟩ := hw'; rw [hw'']; exact hb0
      clear hw'
      have HB0 := Lib.hid (HB.out.trans (hb.mono HB.out.size))
      have hbz0 : b < w0.heap.size := Nat.lt_of_lt_of_le hbz hb.size
      clear q0
      replace q1 := (hb.cell (p := ⟨b, o + m * 2 + 1, none⟩) hbz).trans q1
      clear hb hbz
      have hbz := hbz0
      clear hbz0
      go_wp2_with fail
      refine (heldFeatS_calls A1 n1 c1 p1 _ f1 _ (by have := Z0.out; have := Z1.out; omega) za1 (by have := Z1.out; omega) hm1 HT1.out (HR1.out.kept HB0.out)).mono ?_
      rintro e w1 ⟨rfl, hb⟩
      have HB1 := Lib.hid (HB0.out.trans (hb.mono HB0.out.size))
      have hbz1 : b < w1.heap.size := Nat.lt_of_lt_of_le hbz hb.size
      clear q1
      clear hb hbz
      have hbz := hbz1
      clear hbz1
      have hneg1 : ¬ (((p1 + cnt (.sl n1 3 f1) : Nat) : Int) < 0) := by omega
      have HA := Lib.hid (show ((p1 + cnt (.sl n1 3 f1) : Nat) : Int) = ((K + pre (fun a b => cnt (f a b)) 2 (m + 1) 0 : Nat) : Int) by have := NR.out; have := Z0.out; have := Z1.out; have := HP0.out; have := HP1.out; have := HP2.out; omega)
      go_wp2
      go_roundw
      case rel => exact ⟨m + 1, by omega, by go_num, congrArg (Value.int .i64) (by have := HA.out; omega), HB1⟩
      case measure => simp [intOf]; omega
    · obtain rfl : m = n := by omega
      go_wp2
      go_ret
      exact ⟨rfl, HB.out⟩

set_option maxRecDepth 100000 in
set_option maxHeartbeats 2000000 in
theorem heldStore_calls (x0 : Int) (A1 : Option Addr) (n1 c1 : Nat) (f1 : Nat → Nat → Dat) (K : Nat) (z : Int) (w : World) (hz : z = (K : Int)) (h1 : 1 ≤ K) (hcap : K + cnt (.sl n1 2 f1) ≤ 1000000000000) (hm1 : n1 ≤ maxLen) (ht1 : tyTemplateS (.sl n1 2 f1)) (hr1 : Reads w (.slice A1 n1 c1) (mark mt (.sl n1 2 f1) (K))) :
    Calls Try.prog 14 #[.agg #[.int .i64 x0, .slice A1 n1 c1], .int .i64 z] w fun e w' => e = .returned (.int .i64 ((K + cnt (.sl n1 2 f1) : Nat) : Int)) ∧ Below w.heap.size w w' := by
  subst hz
  have HT1 := Lib.hid ht1
  have HR1 := Lib.hid hr1
  clear ht1 hr1
  have HC := Lib.hid hcap
  clear hcap
  go_enter Try.func14, Try.ntmps14
  go_wp2_with fail
  refine (heldTemplateS_calls A1 n1 c1 (K) _ f1 _ (by first | rfl | omega) (by omega) (by have := HC.out; omega) hm1 HT1.out (HR1.out.kept (below_alloc1 w (.cells #[.int .i64 x0, .slice A1 n1 c1] 32)))).mono ?_
  rintro e w1 ⟨rfl, hb⟩
  have HB1 := Lib.hid ((below_alloc1 w (.cells #[.int .i64 x0, .slice A1 n1 c1] 32)).trans (hb.mono (below_alloc1 w (.cells #[.int .i64 x0, .slice A1 n1 c1] 32)).size))
  have d1_0 := (hb.cell (p := ⟨w.heap.size, 0, none⟩) (by simp)).trans (show _ = some (.int .i64 x0) by simp)
  have d1_1 := (hb.cell (p := ⟨w.heap.size, 1, none⟩) (by simp)).trans (show _ = some (.slice A1 n1 c1) by simp)
  have lz1 : w.heap.size < w1.heap.size := by have := hb.size; (try simp at this); omega
  have hneg1 : ¬ (((K + cnt (.sl n1 2 f1) : Nat) : Int) < 0) := by omega
  clear hb
  go_wp2
  go_ret
  exact ⟨ret_int (by omega), HB1.out⟩

end Go.Proofs.Ytghaddpicedenaa.core
