/-
  Proved: the marks that were left are found again (contracts of callees of the exact laws).
  Conditions: the marks are read out of memory.
-/
import Derived.Test.YtofgdgdmmlgmnaaMark
import Derived.Test.YtofgdgdmmlgmnaaEq
namespace Go.Proofs.Ytofgdgdmmlgmnaa.core
open Go.ChangeShapes Go.WideShapes Go.ChangeAt Go.RowKit Go.Joins
set_option linter.unusedVariables false
set_option linter.unusedSimpArgs false

theorem rows_of {w : World} {A : Option Addr} {n c k K : Nat} {f : Nat → Nat → Dat} (h : Reads w (.slice A n c) (mark mt (.sl n k f) K)) : RowsAt w A n k (fun i j => mark mt (f i j) (K + pre (fun a b => cnt (f a b)) k i j)) := by
  obtain ⟨A', c', e, _, hr⟩ := Reads.sl_inv h
  cases e
  exact hr

set_option maxRecDepth 100000 in
set_option maxHeartbeats 2000000 in
theorem heldHypS_calls (A : Option Addr) (n c K : Nat) (z : Int) (f : Nat → Nat → Dat) (w : World) (hz : z = (K : Int)) (h1 : 1 ≤ K) (hcap : K + cnt (.sl n 2 f) ≤ 1000000000000) (hm : n ≤ maxLen) (ht : tyHypS (.sl n 2 f)) (hr : Reads w (.slice A n c) (mark mt (.sl n 2 f) K)) :
    Calls Try.prog 23 #[.slice A n c, .int .i64 z] w fun e w' => e = .returned (.int .i64 ((K + cnt (.sl n 2 f) : Nat) : Int)) ∧ Below w.heap.size w w' := by
  subst hz
  have HT := Lib.hid (tyHypS_at ht)
  have HR := Lib.hid (rows_of hr)
  have hm' : n ≤ 9223372036854775807 := by unfold maxLen at hm; omega
  have HC := Lib.hid hcap
  clear ht hr hcap hm
  have hmix := mixed
  have hu : undef = Value.tuple #[] := rfl
  go_enter Try.func23, Try.ntmps23
  go_wp2
  go_loopw [1, 5] (fun a i w' => ∃ m : Nat, m ≤ n ∧ i = .int .i64 (m : Int) ∧ a = .int .i64 ((K + pre (fun a b => cnt (f a b)) 2 m 0 : Nat) : Int) ∧ Hid (Below w.heap.size w w')) (fun _ i _ => n - (intOf i).toNat)
  case atStart => exact ⟨0, Nat.zero_le _, rfl, rfl, Lib.hid (Below.refl _ _)⟩
  case round =>
    obtain ⟨m, hmn, rfl, rfl, HB⟩ := hrel
    by_cases hlt : m < n
    · obtain ⟨b, o, rfl, hbl, hj⟩ := HR.out m hlt
      have hT := HT.out m hlt
      have hli : (m : Int) < (n : Int) := by omega
      obtain ⟨⟨s0, e0⟩, ⟨x1, e1⟩⟩ := hT
      have E0 := Lib.hid e0
      clear e0
      have E1 := Lib.hid e1
      clear e1
      have N0 := Lib.hid (show pre (fun a b => cnt (f a b)) 2 m 1 = pre (fun a b => cnt (f a b)) 2 m 0 + 1 by rw [pre_col]; simp only [E0.out]; try rfl)
      have N1 := Lib.hid (show pre (fun a b => cnt (f a b)) 2 m 2 = pre (fun a b => cnt (f a b)) 2 m 1 + 1 by rw [pre_col]; simp only [E1.out]; try rfl)
      have NR := Lib.hid (pre_row (fun a b => cnt (f a b)) 2 m)
      have NL := Lib.hid (show K + pre (fun a b => cnt (f a b)) 2 m 2 ≤ 1000000000000 by have := HC.out; have := pre_le (fun a b => cnt (f a b)) hlt (Nat.le_refl 2); simp only [cnt] at *; omega)
      obtain ⟨p0, hp0⟩ : ∃ p, p = K + pre (fun a b => cnt (f a b)) 2 m 0 := ⟨_, rfl⟩
      obtain ⟨p1, hp1⟩ : ∃ p, p = K + pre (fun a b => cnt (f a b)) 2 m 1 := ⟨_, rfl⟩
      obtain ⟨p2, hp2⟩ : ∃ p, p = K + pre (fun a b => cnt (f a b)) 2 m 2 := ⟨_, rfl⟩
      rw [← hp0]
      have z0 : p1 = p0 + 1 := by have := N0.out; omega
      have z1 : p2 = p1 + 1 := by have := N1.out; omega
      have zl : p2 ≤ 1000000000000 := by have := NL.out; omega
      have zf : 1 ≤ p0 := by omega
      have zb0 : p0 ≤ 1000000000000 := by omega
      have za0 : 1 ≤ p0 := by omega
      have zb1 : p1 ≤ 1000000000000 := by omega
      have za1 : 1 ≤ p1 := by omega
      have zb2 : p2 ≤ 1000000000000 := by omega
      have za2 : 1 ≤ p2 := by omega
      have HP0 := Lib.hid hp0
      have HP1 := Lib.hid hp1
      have HP2 := Lib.hid hp2
      have Z0 := Lib.hid z0
      have Z1 := Lib.hid z1
      clear hp0 hp1 hp2 z0 z1 zl zf
      obtain ⟨u0, q0, r0⟩ := hj 0 (by omega)
      replace r0 : Reads w u0 (mark mt (f m 0) (K + pre (fun a b => cnt (f a b)) 2 m 0)) := r0
      rw [E0.out, ← HP0.out] at r0
      obtain ⟨rfl, -⟩ := r0.str_inv
      clear r0
      replace q0 := (HB.out.cell (p := ⟨b, o + m * 2 + 0, none⟩) hbl).trans q0
      simp only [Nat.add_zero, Nat.mul_one] at q0
      obtain ⟨u1, q1, r1⟩ := hj 1 (by omega)
      replace r1 : Reads w u1 (mark mt (f m 1) (K + pre (fun a b => cnt (f a b)) 2 m 1)) := r1
      rw [E1.out, ← HP1.out] at r1
      obtain ⟨rfl, -⟩ := r1.int_inv
      clear r1
      replace q1 := (HB.out.cell (p := ⟨b, o + m * 2 + 1, none⟩) hbl).trans q1
      clear hj
      have i1 : (p1 : Int) = (p0 : Int) + 1 := by have := Z0.out; omega
      have hbz : b < wr.heap.size := Nat.lt_of_lt_of_le hbl HB.out.size
      have HMT0 := Lib.hid (fun (W : World) (z : Int) (hz : z = (p0 : Int)) => markText_calls p0 z W hz za0 zb0)
      have HQ0 := Lib.hid q0
      generalize mt p0 = tx0 at q0 HMT0 HQ0
      replace q0 := cell_kept hbz q0
      go_wp2
      refine wp_region_quiet_kept (by assumption) (by kernel_rfl) ?_
      repeat (first | go_big_quiet_step ((go_at_call 56; exact Calls.kept_of (HMT0.out _ _ (by have := Z0.out; have := Z0.out; omega)))) | quiet_step ((go_at_call 56; exact Calls.kept_of (HMT0.out _ _ (by have := Z0.out; have := Z0.out; omega)))))
      refine wpQuiet_nil ?_
      intro w0 hw'
      have hb : Below wr.heap.size wr w0 := by obtain ⟨⟨wk, hb0⟩, hw''⟩ := hw'; rw [hw'']; exact hb0
      clear hw'
      have HB0 := Lib.hid (HB.out.trans (hb.mono HB.out.size))
      have hbz0 : b < w0.heap.size := Nat.lt_of_lt_of_le hbz hb.size
      clear q0
      replace q1 := (hb.cell (p := ⟨b, o + m * 2 + 1, none⟩) hbz).trans q1
      clear hb hbz
      have hbz := hbz0
      clear hbz0
      rw [show (p1 : Int) = (p0 : Int) + 1 by have := Z0.out; omega] at q1
      clear i1
      have HA := Lib.hid (show (p0 : Int) + 1 + 1 = ((K + pre (fun a b => cnt (f a b)) 2 (m + 1) 0 : Nat) : Int) by have := NR.out; have := Z0.out; have := Z1.out; have := HP0.out; have := HP1.out; have := HP2.out; omega)
      go_wp2
      go_roundw
      case rel => exact ⟨m + 1, by omega, by go_num, congrArg (Value.int .i64) (by have := HA.out; omega), HB0⟩
      case measure => simp [intOf]; omega
    · obtain rfl : m = n := by omega
      go_wp2
      go_ret
      exact ⟨rfl, HB.out⟩

end Go.Proofs.Ytofgdgdmmlgmnaa.core
