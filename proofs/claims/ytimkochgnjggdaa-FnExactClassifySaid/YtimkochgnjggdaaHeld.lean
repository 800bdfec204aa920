/-
  Proved: the marks that were left are found again (contracts of callees of the exact laws).
  Conditions: the marks are read out of memory.
-/
import Derived.Test.YtimkochgnjggdaaMark
import Derived.Test.YtimkochgnjggdaaEq
namespace Go.Proofs.Ytimkochgnjggdaa.core
open Go.ChangeShapes Go.WideShapes Go.ChangeAt Go.RowKit Go.Joins
set_option linter.unusedVariables false
set_option linter.unusedSimpArgs false

theorem rows_of {w : World} {A : Option Addr} {n c k K : Nat} {f : Nat → Nat → Dat} (h : Reads w (.slice A n c) (mark mt (.sl n k f) K)) : RowsAt w A n k (fun i j => mark mt (f i j) (K + pre (fun a b => cnt (f a b)) k i j)) := by
  obtain ⟨A', c', e, _, hr⟩ := Reads.sl_inv h
  cases e
  exact hr

set_option maxRecDepth 100000 in
set_option maxHeartbeats 2000000 in
theorem heldInt64S_calls (A : Option Addr) (n c K : Nat) (z : Int) (f : Nat → Nat → Dat) (w : World) (hz : z = (K : Int)) (h1 : 1 ≤ K) (hcap : K + cnt (.sl n 1 f) ≤ 1000000000000) (hm : n ≤ maxLen) (ht : tyInt64S (.sl n 1 f)) (hr : Reads w (.slice A n c) (mark mt (.sl n 1 f) K)) :
    Calls Try.prog 21 #[.slice A n c, .int .i64 z] w fun e w' => e = .returned (.int .i64 ((K + cnt (.sl n 1 f) : Nat) : Int)) ∧ Below w.heap.size w w' := by
  subst hz
  have HT := Lib.hid (tyInt64S_at ht)
  have HR := Lib.hid (rows_of hr)
  have hm' : n ≤ 9223372036854775807 := by unfold maxLen at hm; omega
  have HC := Lib.hid hcap
  clear ht hr hcap hm
  go_enter Try.func21, Try.ntmps21
  go_wp2
  go_loopw [1, 5] (fun a i w' => ∃ m : Nat, m ≤ n ∧ i = .int .i64 (m : Int) ∧ a = .int .i64 ((K + pre (fun a b => cnt (f a b)) 1 m 0 : Nat) : Int) ∧ Hid (Below w.heap.size w w')) (fun _ i _ => n - (intOf i).toNat)
  case atStart => exact ⟨0, Nat.zero_le _, rfl, rfl, Lib.hid (Below.refl _ _)⟩
  case round =>
    obtain ⟨m, hmn, rfl, rfl, HB⟩ := hrel
    by_cases hlt : m < n
    · obtain ⟨b, o, rfl, hbl, hj⟩ := HR.out m hlt
      have hT := HT.out m hlt
      have hli : (m : Int) < (n : Int) := by omega
      obtain ⟨x0, e0⟩ := hT
      have E0 := Lib.hid e0
      clear e0
      have N0 := Lib.hid (show pre (fun a b => cnt (f a b)) 1 m 1 = pre (fun a b => cnt (f a b)) 1 m 0 + 1 by rw [pre_col]; simp only [E0.out]; try rfl)
      have NR := Lib.hid (pre_row (fun a b => cnt (f a b)) 1 m)
      have NL := Lib.hid (show K + pre (fun a b => cnt (f a b)) 1 m 1 ≤ 1000000000000 by have := HC.out; have := pre_le (fun a b => cnt (f a b)) hlt (Nat.le_refl 1); simp only [cnt] at *; omega)
      obtain ⟨p0, hp0⟩ : ∃ p, p = K + pre (fun a b => cnt (f a b)) 1 m 0 := ⟨_, rfl⟩
      obtain ⟨p1, hp1⟩ : ∃ p, p = K + pre (fun a b => cnt (f a b)) 1 m 1 := ⟨_, rfl⟩
      rw [← hp0]
      have z0 : p1 = p0 + 1 := by have := N0.out; omega
      have zl : p1 ≤ 1000000000000 := by have := NL.out; omega
      have zf : 1 ≤ p0 := by omega
      have zb0 : p0 ≤ 1000000000000 := by omega
      have za0 : 1 ≤ p0 := by omega
      have zb1 : p1 ≤ 1000000000000 := by omega
      have za1 : 1 ≤ p1 := by omega
      have HP0 := Lib.hid hp0
      have HP1 := Lib.hid hp1
      have Z0 := Lib.hid z0
      clear hp0 hp1 z0 zl zf
      obtain ⟨u0, q0, r0⟩ := hj 0 (by omega)
      replace r0 : Reads w u0 (mark mt (f m 0) (K + pre (fun a b => cnt (f a b)) 1 m 0)) := r0
      rw [E0.out, ← HP0.out] at r0
      obtain ⟨rfl, -⟩ := r0.int_inv
      clear r0
      replace q0 := (HB.out.cell (p := ⟨b, o + m * 1 + 0, none⟩) hbl).trans q0
      simp only [Nat.add_zero, Nat.mul_one] at q0
      clear hj
      have hbz : b < wr.heap.size := Nat.lt_of_lt_of_le hbl HB.out.size
      have HA := Lib.hid (show (p0 : Int) + 1 = ((K + pre (fun a b => cnt (f a b)) 1 (m + 1) 0 : Nat) : Int) by have := NR.out; have := Z0.out; have := HP0.out; have := HP1.out; omega)
      go_wp2
      go_roundw
      case rel => exact ⟨m + 1, by omega, by go_num, congrArg (Value.int .i64) (by have := HA.out; omega), HB⟩
      case measure => simp [intOf]; omega
    · obtain rfl : m = n := by omega
      go_wp2
      go_ret
      exact ⟨rfl, HB.out⟩

set_option maxRecDepth 100000 in
set_option maxHeartbeats 2000000 in
theorem heldInt64SS_calls (A : Option Addr) (n c K : Nat) (z : Int) (f : Nat → Nat → Dat) (w : World) (hz : z = (K : Int)) (h1 : 1 ≤ K) (hcap : K + cnt (.sl n 1 f) ≤ 1000000000000) (hm : n ≤ maxLen) (ht : tyInt64SS (.sl n 1 f)) (hr : Reads w (.slice A n c) (mark mt (.sl n 1 f) K)) :
    Calls Try.prog 70 #[.slice A n c, .int .i64 z] w fun e w' => e = .returned (.int .i64 ((K + cnt (.sl n 1 f) : Nat) : Int)) ∧ Below w.heap.size w w' := by
  subst hz
  have HT := Lib.hid (tyInt64SS_at ht)
  have HR := Lib.hid (rows_of hr)
  have hm' : n ≤ 9223372036854775807 := by unfold maxLen at hm; omega
  have HC := Lib.hid hcap
  clear ht hr hcap hm
  go_enter Try.func70, Try.ntmps70
  go_wp2
  go_loopw [1, 5] (fun a i w' => ∃ m : Nat, m ≤ n ∧ i = .int .i64 (m : Int) ∧ a = .int .i64 ((K + pre (fun a b => cnt (f a b)) 1 m 0 : Nat) : Int) ∧ Hid (Below w.heap.size w w')) (fun _ i _ => n - (intOf i).toNat)
  case atStart => exact ⟨0, Nat.zero_le _, rfl, rfl, Lib.hid (Below.refl _ _)⟩
  case round =>
    obtain ⟨m, hmn, rfl, rfl, HB⟩ := hrel
    by_cases hlt : m < n
    · obtain ⟨b, o, rfl, hbl, hj⟩ := HR.out m hlt
      have hT := HT.out m hlt
      have hli : (m : Int) < (n : Int) := by omega
      have ht0 := hT
      have HT0 := Lib.hid ht0
      obtain ⟨n0, f0, e0, -⟩ := ht0
      rw [e0] at HT0
      have E0 := Lib.hid e0
      clear e0
      have N0 := Lib.hid (show pre (fun a b => cnt (f a b)) 1 m 1 = pre (fun a b => cnt (f a b)) 1 m 0 + cnt (.sl n0 1 f0) by rw [pre_col]; simp only [E0.out]; try rfl)
      have NR := Lib.hid (pre_row (fun a b => cnt (f a b)) 1 m)
      have NL := Lib.hid (show K + pre (fun a b => cnt (f a b)) 1 m 1 ≤ 1000000000000 by have := HC.out; have := pre_le (fun a b => cnt (f a b)) hlt (Nat.le_refl 1); simp only [cnt] at *; omega)
      obtain ⟨p0, hp0⟩ : ∃ p, p = K + pre (fun a b => cnt (f a b)) 1 m 0 := ⟨_, rfl⟩
      obtain ⟨p1, hp1⟩ : ∃ p, p = K + pre (fun a b => cnt (f a b)) 1 m 1 := ⟨_, rfl⟩
      rw [← hp0]
      have z0 : p1 = p0 + cnt (.sl n0 1 f0) := by have := N0.out; omega
      have zl : p1 ≤ 1000000000000 := by have := NL.out; omega
      have zf : 1 ≤ p0 := by omega
      have zb0 : p0 ≤ 1000000000000 := by omega
      have za0 : 1 ≤ p0 := by omega
      have zb1 : p1 ≤ 1000000000000 := by omega
      have za1 : 1 ≤ p1 := by omega
      have HP0 := Lib.hid hp0
      have HP1 := Lib.hid hp1
      have Z0 := Lib.hid z0
      clear hp0 hp1 z0 zl zf
      obtain ⟨u0, q0, r0⟩ := hj 0 (by omega)
      replace r0 : Reads w u0 (mark mt (f m 0) (K + pre (fun a b => cnt (f a b)) 1 m 0)) := r0
      rw [E0.out, ← HP0.out] at r0
      obtain ⟨A0, c0, rfl, hm0, hr0⟩ := r0.sl_inv
      have HR0 := Lib.hid r0
      clear hr0
      replace q0 := (HB.out.cell (p := ⟨b, o + m * 1 + 0, none⟩) hbl).trans q0
      simp only [Nat.add_zero, Nat.mul_one] at q0
      clear hj
      have hbz : b < wr.heap.size := Nat.lt_of_lt_of_le hbl HB.out.size
      go_wp2_with fail
      refine (heldInt64S_calls A0 n0 c0 p0 _ f0 _ (by have := Z0.out; omega) za0 (by have := Z0.out; omega) hm0 HT0.out (HR0.out.kept HB.out)).mono ?_
      rintro e w0 ⟨rfl, hb⟩
      have HB0 := Lib.hid (HB.out.trans (hb.mono HB.out.size))
      have hbz0 : b < w0.heap.size := Nat.lt_of_lt_of_le hbz hb.size
      clear q0
      clear hb hbz
      have hbz := hbz0
      clear hbz0
      have hneg0 : ¬ (((p0 + cnt (.sl n0 1 f0) : Nat) : Int) < 0) := by omega
      have HA := Lib.hid (show ((p0 + cnt (.sl n0 1 f0) : Nat) : Int) = ((K + pre (fun a b => cnt (f a b)) 1 (m + 1) 0 : Nat) : Int) by have := NR.out; have := Z0.out; have := HP0.out; have := HP1.out; omega)
      go_wp2
      go_roundw
      case rel => exact ⟨m + 1, by omega, by go_num, congrArg (Value.int .i64) (by have := HA.out; omega), HB0⟩
      case measure => simp [intOf]; omega
    · obtain rfl : m = n := by omega
      go_wp2
      go_ret
      exact ⟨rfl, HB.out⟩

set_option maxRecDepth 100000 in
set_option maxHeartbeats 2000000 in
theorem heldStringS_calls (A : Option Addr) (n c K : Nat) (z : Int) (f : Nat → Nat → Dat) (w : World) (hz : z = (K : Int)) (h1 : 1 ≤ K) (hcap : K + cnt (.sl n 1 f) ≤ 1000000000000) (hm : n ≤ maxLen) (ht : tyStringS (.sl n 1 f)) (hr : Reads w (.slice A n c) (mark mt (.sl n 1 f) K)) :
    Calls Try.prog 69 #[.slice A n c, .int .i64 z] w fun e w' => e = .returned (.int .i64 ((K + cnt (.sl n 1 f) : Nat) : Int)) ∧ Below w.heap.size w w' := by
  subst hz
  have HT := Lib.hid (tyStringS_at ht)
  have HR := Lib.hid (rows_of hr)
  have hm' : n ≤ 9223372036854775807 := by unfold maxLen at hm; omega
  have HC := Lib.hid hcap
  clear ht hr hcap hm
  have hmix := mixed
  have hu : undef = Value.tuple #[] := rfl
  go_enter Try.func69, Try.ntmps69
  go_wp2
  go_loopw [1, 5] (fun a i w' => ∃ m : Nat, m ≤ n ∧ i = .int .i64 (m : Int) ∧ a = .int .i64 ((K + pre (fun a b => cnt (f a b)) 1 m 0 : Nat) : Int) ∧ Hid (Below w.heap.size w w')) (fun _ i _ => n - (intOf i).toNat)
  case atStart => exact ⟨0, Nat.zero_le _, rfl, rfl, Lib.hid (Below.refl _ _)⟩
  case round =>
    obtain ⟨m, hmn, rfl, rfl, HB⟩ := hrel
    by_cases hlt : m < n
    · obtain ⟨b, o, rfl, hbl, hj⟩ := HR.out m hlt
      have hT := HT.out m hlt
      have hli : (m : Int) < (n : Int) := by omega
      obtain ⟨s0, e0⟩ := hT
      have E0 := Lib.hid e0
      clear e0
      have N0 := Lib.hid (show pre (fun a b => cnt (f a b)) 1 m 1 = pre (fun a b => cnt (f a b)) 1 m 0 + 1 by rw [pre_col]; simp only [E0.out]; try rfl)
      have NR := Lib.hid (pre_row (fun a b => cnt (f a b)) 1 m)
      have NL := Lib.hid (show K + pre (fun a b => cnt (f a b)) 1 m 1 ≤ 1000000000000 by have := HC.out; have := pre_le (fun a b => cnt (f a b)) hlt (Nat.le_refl 1); simp only [cnt] at *; omega)
      obtain ⟨p0, hp0⟩ : ∃ p, p = K + pre (fun a b => cnt (f a b)) 1 m 0 := ⟨_, rfl⟩
      obtain ⟨p1, hp1⟩ : ∃ p, p = K + pre (fun a b => cnt (f a b)) 1 m 1 := ⟨_, rfl⟩
      rw [← hp0]
      have z0 : p1 = p0 + 1 := by have := N0.out; omega
      have zl : p1 ≤ 1000000000000 := by have := NL.out; omega
      have zf : 1 ≤ p0 := by omega
      have zb0 : p0 ≤ 1000000000000 := by omega
      have za0 : 1 ≤ p0 := by omega
      have zb1 : p1 ≤ 1000000000000 := by omega
      have za1 : 1 ≤ p1 := by omega
      have HP0 := Lib.hid hp0
      have HP1 := Lib.hid hp1
      have Z0 := Lib.hid z0
      clear hp0 hp1 z0 zl zf
      obtain ⟨u0, q0, r0⟩ := hj 0 (by omega)
      replace r0 : Reads w u0 (mark mt (f m 0) (K + pre (fun a b => cnt (f a b)) 1 m 0)) := r0
      rw [E0.out, ← HP0.out] at r0
      obtain ⟨rfl, -⟩ := r0.str_inv
      clear r0
      replace q0 := (HB.out.cell (p := ⟨b, o + m * 1 + 0, none⟩) hbl).trans q0
      simp only [Nat.add_zero, Nat.mul_one] at q0
      clear hj
      have hbz : b < wr.heap.size := Nat.lt_of_lt_of_le hbl HB.out.size
      have HMT0 := Lib.hid (fun (W : World) (z : Int) (hz : z = (p0 : Int)) => markText_calls p0 z W hz za0 zb0)
      have HQ0 := Lib.hid q0
      generalize mt p0 = tx0 at q0 HMT0 HQ0
      replace q0 := cell_kept hbz q0
      go_wp2
      refine wp_region_quiet_kept (by assumption) (by kernel_rfl) ?_
      repeat (first | go_big_quiet_step ((go_at_call 67; exact Calls.kept_of (HMT0.out _ _ (by have := Z0.out; have := Z0.out; omega)))) | quiet_step ((go_at_call 67; exact Calls.kept_of (HMT0.out _ _ (by have := Z0.out; have := Z0.out; omega)))))
      refine wpQuiet_nil ?_
      intro w0 hw'
      have hb : Below wr.heap.size wr w0 := by obtain ⟨⟨wk, hb0⟩, hw''⟩ := hw'; rw [hw'']; exact hb0
      clear hw'
      have HB0 := Lib.hid (HB.out.trans (hb.mono HB.out.size))
      have hbz0 : b < w0.heap.size := Nat.lt_of_lt_of_le hbz hb.size
      clear q0
      clear hb hbz
      have hbz := hbz0
      clear hbz0
      have HA := Lib.hid (show (p0 : Int) + 1 = ((K + pre (fun a b => cnt (f a b)) 1 (m + 1) 0 : Nat) : Int) by have := NR.out; have := Z0.out; have := HP0.out; have := HP1.out; omega)
      go_wp2
      go_roundw
      case rel => exact ⟨m + 1, by omega, by go_num, congrArg (Value.int .i64) (by have := HA.out; omega), HB0⟩
      case measure => simp [intOf]; omega
    · obtain rfl : m = n := by omega
      go_wp2
      go_ret
      exact ⟨rfl, HB.out⟩

set_option maxRecDepth 100000 in
set_option maxHeartbeats 2000000 in
theorem heldPerceptron_calls (A0 : Option Addr) (n0 c0 : Nat) (f0 : Nat → Nat → Dat) (A1 : Option Addr) (n1 c1 : Nat) (f1 : Nat → Nat → Dat) (K : Nat) (z : Int) (w : World) (hz : z = (K : Int)) (h1 : 1 ≤ K) (hcap : K + cnt (.sl n0 1 f0) + cnt (.sl n1 1 f1) ≤ 1000000000000) (hm0 : n0 ≤ maxLen) (ht0 : tyStringS (.sl n0 1 f0)) (hr0 : Reads w (.slice A0 n0 c0) (mark mt (.sl n0 1 f0) (K))) (hm1 : n1 ≤ maxLen) (ht1 : tyInt64SS (.sl n1 1 f1)) (hr1 : Reads w (.slice A1 n1 c1) (mark mt (.sl n1 1 f1) (K + cnt (.sl n0 1 f0)))) :
    Calls Try.prog 30 #[.agg #[.slice A0 n0 c0, .slice A1 n1 c1], .int .i64 z] w fun e w' => e = .returned (.int .i64 ((K + cnt (.sl n0 1 f0) + cnt (.sl n1 1 f1) : Nat) : Int)) ∧ Below w.heap.size w w' := by
  subst hz
  have HT0 := Lib.hid ht0
  have HR0 := Lib.hid hr0
  clear ht0 hr0
  have HT1 := Lib.hid ht1
  have HR1 := Lib.hid hr1
  clear ht1 hr1
  have HC := Lib.hid hcap
  clear hcap
  go_enter Try.func30, Try.ntmps30
  go_wp2_with fail
  refine (heldStringS_calls A0 n0 c0 (K) _ f0 _ (by first | rfl | omega) (by omega) (by have := HC.out; omega) hm0 HT0.out (HR0.out.kept (below_alloc1 w (.cells #[.slice A0 n0 c0, .slice A1 n1 c1] 38)))).mono ?_
  rintro e w0 ⟨rfl, hb⟩
  have HB0 := Lib.hid ((below_alloc1 w (.cells #[.slice A0 n0 c0, .slice A1 n1 c1] 38)).trans (hb.mono (below_alloc1 w (.cells #[.slice A0 n0 c0, .slice A1 n1 c1] 38)).size))
  have d0_0 := (hb.cell (p := ⟨w.heap.size, 0, none⟩) (by simp)).trans (show _ = some (.slice A0 n0 c0) by simp)
  have d0_1 := (hb.cell (p := ⟨w.heap.size, 1, none⟩) (by simp)).trans (show _ = some (.slice A1 n1 c1) by simp)
  have lz0 : w.heap.size < w0.heap.size := by have := hb.size; (try simp at this); omega
  have hneg0 : ¬ (((K + cnt (.sl n0 1 f0) : Nat) : Int) < 0) := by omega
  clear hb
  go_wp2_with fail
  refine (heldInt64SS_calls A1 n1 c1 (K + cnt (.sl n0 1 f0)) _ f1 _ (by first | rfl | omega) (by omega) (by have := HC.out; omega) hm1 HT1.out (HR1.out.kept HB0.out)).mono ?_
  rintro e w1 ⟨rfl, hb⟩
  have HB1 := Lib.hid (HB0.out.trans (hb.mono HB0.out.size))
  have d1_0 := (hb.cell (p := ⟨w.heap.size, 0, none⟩) lz0).trans d0_0
  have d1_1 := (hb.cell (p := ⟨w.heap.size, 1, none⟩) lz0).trans d0_1
  have lz1 : w.heap.size < w1.heap.size := by have := hb.size; (try simp at this); omega
  have hneg1 : ¬ (((K + cnt (.sl n0 1 f0) + cnt (.sl n1 1 f1) : Nat) : Int) < 0) := by omega
  clear d0_0 d0_1
  clear hb
  go_wp2
  go_ret
  exact ⟨ret_int (by omega), HB1.out⟩

end Go.Proofs.Ytimkochgnjggdaa.core
