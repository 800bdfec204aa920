/-
  Proved: the marks that were left are found again (contracts of callees of the exact laws).
  Conditions: the marks are read out of memory.
-/
import Derived.Test.YthpmckfjlbiiiaaMark
import Derived.Test.YthpmckfjlbiiiaaEq
namespace Go.Proofs.Ythpmckfjlbiiiaa.core
open Go.ChangeShapes Go.WideShapes Go.ChangeAt Go.RowKit Go.Joins
set_option linter.unusedVariables false
set_option linter.unusedSimpArgs false

theorem rows_of {w : World} {A : Option Addr} {n c k K : Nat} {f : Nat → Nat → Dat} (h : Reads w (.slice A n c) (mark mt (.sl n k f) K)) : RowsAt w A n k (fun i j => mark mt (f i j) (K + pre (fun a b => cnt (f a b)) k i j)) := by
  obtain ⟨A', c', e, _, hr⟩ := Reads.sl_inv h
  cases e
  exact hr

set_option maxRecDepth 100000 in
set_option maxHeartbeats 2000000 in
theorem heldInt64S_calls (A : Option Addr) (n c K : Nat) (z : Int) (f : Nat → Nat → Dat) (w : World) (hz : z = (K : Int)) (h1 : 1 ≤ K) (hcap : K + cnt (.sl n 1 f) ≤ 1000000000000) (hm : n ≤ maxLen) (ht : tyInt64S (.sl n 1 f)) (hr : Reads w (.slice A n c) (mark mt (.sl n 1 f) K)) :
    Calls Try.prog 45 #[.slice A n c, .int .i64 z] w fun e w' => e = .returned (.int .i64 ((K + cnt (.sl n 1 f) : Nat) : Int)) ∧ Below w.heap.size w w' := by
  subst hz
  have HT := Lib.hid (tyInt64S_at ht)
  have HR := Lib.hid (rows_of hr)
  have hm' : n ≤ 9223372036854775807 := by unfold maxLen at hm; omega
  have HC := Lib.hid hcap
  clear ht hr hcap hm
  go_enter Try.func45, Try.ntmps45
  go_wp2
  go_loopw [1, 5] (fun a i w' => ∃ m : Nat, m ≤ n ∧ i = .int .i64 (m : Int) ∧ a = .int .i64 ((K + pre (fun a b => cnt (f a b)) 1 m 0 : Nat) : Int) ∧ Hid (Below w.heap.size w w')) (fun _ i _ => n - (intOf i).toNat)
  case atStart => exact ⟨0, Nat.zero_le _, rfl, rfl, Lib.hid (Below.refl _ _)⟩
  case round =>
    obtain ⟨m, hmn, rfl, rfl, HB⟩ := hrel
    by_cases hlt : m < n
    · obtain ⟨b, o, rfl, hbl, hj⟩ := HR.out m hlt
      have hT := HT.out m hlt
      have hli : (m : Int) < (n : Int) := by omega
      obtain ⟨x0, e0⟩ := hT
      have E0 := Lib.hid e0
      clear e0
      have N0 := Lib.hid (show pre (fun a b => cnt (f a b)) 1 m 1 = pre (fun a b => cnt (f a b)) 1 m 0 + 1 by rw [pre_col]; simp only [E0.out]; try rfl)
      have NR := Lib.hid (pre_row (fun a b => cnt (f a b)) 1 m)
      have NL := Lib.hid (show K + pre (fun a b => cnt (f a b)) 1 m 1 ≤ 1000000000000 by have := HC.out; have := pre_le (fun a b => cnt (f a b)) hlt (Nat.le_refl 1); simp only [cnt] at *; omega)
      obtain ⟨p0, hp0⟩ : ∃ p, p = K + pre (fun a b => cnt (f a b)) 1 m 0 := ⟨_, rfl⟩
      obtain ⟨p1, hp1⟩ : ∃ p, p = K + pre (fun a b => cnt (f a b)) 1 m 1 := ⟨_, rfl⟩
      rw [← hp0]
      have z0 : p1 = p0 + 1 := by have := N0.out; omega
      have zl : p1 ≤ 1000000000000 := by have := NL.out; omega
      have zf : 1 ≤ p0 := by omega
      have zb0 : p0 ≤ 1000000000000 := by omega
      have za0 : 1 ≤ p0 := by omega
      have zb1 : p1 ≤ 1000000000000 := by omega
      have za1 : 1 ≤ p1 := by omega
      have HP0 := Lib.hid hp0
      have HP1 := Lib.hid hp1
      have Z0 := Lib.hid z0
      clear hp0 hp1 z0 zl zf
      obtain ⟨u0, q0, r0⟩ := hj 0 (by omega)
      replace r0 : Reads w u0 (mark mt (f m 0) (K + pre (fun a b => cnt (f a b)) 1 m 0)) := r0
      rw [E0.out, ← HP0.out] at r0
      obtain ⟨rfl, -⟩ := r0.int_inv
      clear r0
      replace q0 := (HB.out.cell (p := ⟨b, o + m * 1 + 0, none⟩) hbl).trans q0
      simp only [Nat.add_zero, Nat.mul_one] at q0
      clear hj
      have hbz : b < wr.heap.size := Nat.lt_of_lt_of_le hbl HB.out.size
      have HA := Lib.hid (show (p0 : Int) + 1 = ((K + pre (fun a b => cnt (f a b)) 1 (m + 1) 0 : Nat) : Int) by have := NR.out; have := Z0.out; have := HP0.out; have := HP1.out; omega)
      go_wp2
      go_roundw
      case rel => exact ⟨m + 1, by omega, by go_num, congrArg (Value.int .i64) (by have := HA.out; omega), HB⟩
      case measure => simp [intOf]; omega
    · obtain rfl : m = n := by omega
      go_wp2
      go_ret
      exact ⟨rfl, HB.out⟩

set_option maxRecDepth 100000 in
set_option maxHeartbeats 2000000 in
theorem heldPairS_calls (A : Option Addr) (n c K : Nat) (z : Int) (f : Nat → Nat → Dat) (w : World) (hz : z = (K : Int)) (h1 : 1 ≤ K) (hcap : K + cnt (.sl n 2 f) ≤ 1000000000000) (hm : n ≤ maxLen) (ht : tyPairS (.sl n 2 f)) (hr : Reads w (.slice A n c) (mark mt (.sl n 2 f) K)) :
    Calls Try.prog 54 #[.slice A n c, .int .i64 z] w fun e w' => e = .returned (.int .i64 ((K + cnt (.sl n 2 f) : Nat) : Int)) ∧ Below w.heap.size w w' := by
  subst hz
  have HT := Lib.hid (tyPairS_at ht)
  have HR := Lib.hid (rows_of hr)
  have hm' : n ≤ 9223372036854775807 := by unfold maxLen at hm; omega
  have HC := Lib.hid hcap
  clear ht hr hcap hm
  go_enter Try.func54, Try.ntmps54
  go_wp2
  go_loopw [1, 5] (fun a i w' => ∃ m : Nat, m ≤ n ∧ i = .int .i64 (m : Int) ∧ a = .int .i64 ((K + pre (fun a b => cnt (f a b)) 2 m 0 : Nat) : Int) ∧ Hid (Below w.heap.size w w')) (fun _ i _ => n - (intOf i).toNat)
  case atStart => exact ⟨0, Nat.zero_le _, rfl, rfl, Lib.hid (Below.refl _ _)⟩
  case round =>
    obtain ⟨m, hmn, rfl, rfl, HB⟩ := hrel
    by_cases hlt : m < n
    · obtain ⟨b, o, rfl, hbl, hj⟩ := HR.out m hlt
      have hT := HT.out m hlt
      have hli : (m : Int) < (n : Int) := by omega
      obtain ⟨⟨x0, e0⟩, ⟨x1, e1⟩⟩ := hT
      have E0 := Lib.hid e0
      clear e0
      have E1 := Lib.hid e1
      clear e1
      have N0 := Lib.hid (show pre (fun a b => cnt (f a b)) 2 m 1 = pre (fun a b => cnt (f a b)) 2 m 0 + 1 by rw [pre_col]; simp only [E0.out]; try rfl)
      have N1 := Lib.hid (show pre (fun a b => cnt (f a b)) 2 m 2 = pre (fun a b => cnt (f a b)) 2 m 1 + 1 by rw [pre_col]; simp only [E1.out]; try rfl)
      have NR := Lib.hid (pre_row (fun a b => cnt (f a b)) 2 m)
      have NL := Lib.hid (show K + pre (fun a b => cnt (f a b)) 2 m 2 ≤ 1000000000000 by have := HC.out; have := pre_le (fun a b => cnt (f a b)) hlt (Nat.le_refl 2); simp only [cnt] at *; omega)
      obtain ⟨p0, hp0⟩ : ∃ p, p = K + pre (fun a b => cnt (f a b)) 2 m 0 := ⟨_, rfl⟩
      obtain ⟨p1, hp1⟩ : ∃ p, p = K + pre (fun a b => cnt (f a b)) 2 m 1 := ⟨_, rfl⟩
      obtain ⟨p2, hp2⟩ : ∃ p, p = K + pre (fun a b => cnt (f a b)) 2 m 2 := ⟨_, rfl⟩
      rw [← hp0]
      have z0 : p1 = p0 + 1 := by have := N0.out; omega
      have z1 : p2 = p1 + 1 := by have := N1.out; omega
      have zl : p2 ≤ 1000000000000 := by have := NL.out; omega
      have zf : 1 ≤ p0 := by omega
      have zb0 : p0 ≤ 1000000000000 := by omega
      have za0 : 1 ≤ p0 := by omega
      have zb1 : p1 ≤ 1000000000000 := by omega
      have za1 : 1 ≤ p1 := by omega
      have zb2 : p2 ≤ 1000000000000 := by omega
      have za2 : 1 ≤ p2 := by omega
      have HP0 := Lib.hid hp0
      have HP1 := Lib.hid hp1
      have HP2 := Lib.hid hp2
      have Z0 := Lib.hid z0
      have Z1 := Lib.hid z1
      clear hp0 hp1 hp2 z0 z1 zl zf
      obtain ⟨u0, q0, r0⟩ := hj 0 (by omega)
      replace r0 : Reads w u0 (mark mt (f m 0) (K + pre (fun a b => cnt (f a b)) 2 m 0)) := r0
      rw [E0.out, ← HP0.out] at r0
      obtain ⟨rfl, -⟩ := r0.int_inv
      clear r0
      replace q0 := (HB.out.cell (p := ⟨b, o + m * 2 + 0, none⟩) hbl).trans q0
      simp only [Nat.add_zero, Nat.mul_one] at q0
      obtain ⟨u1, q1, r1⟩ := hj 1 (by omega)
      replace r1 : Reads w u1 (mark mt (f m 1) (K + pre (fun a b => cnt (f a b)) 2 m 1)) := r1
      rw [E1.out, ← HP1.out] at r1
      obtain ⟨rfl, -⟩ := r1.int_inv
      clear r1
      replace q1 := (HB.out.cell (p := ⟨b, o + m * 2 + 1, none⟩) hbl).trans q1
      clear hj
      have i1 : (p1 : Int) = (p0 : Int) + 1 := by have := Z0.out; omega
      have hbz : b < wr.heap.size := Nat.lt_of_lt_of_le hbl HB.out.size
      rw [show (p1 : Int) = (p0 : Int) + 1 by have := Z0.out; omega] at q1
      clear i1
      have HA := Lib.hid (show (p0 : Int) + 1 + 1 = ((K + pre (fun a b => cnt (f a b)) 2 (m + 1) 0 : Nat) : Int) by have := NR.out; have := Z0.out; have := Z1.out; have := HP0.out; have := HP1.out; have := HP2.out; omega)
      go_wp2
      go_roundw
      case rel => exact ⟨m + 1, by omega, by go_num, congrArg (Value.int .i64) (by have := HA.out; omega), HB⟩
      case measure => simp [intOf]; omega
    · obtain rfl : m = n := by omega
      go_wp2
      go_ret
      exact ⟨rfl, HB.out⟩

set_option maxRecDepth 100000 in
set_option maxHeartbeats 2000000 in
theorem heldEnvelope_calls (A0 : Option Addr) (n0 c0 : Nat) (f0 : Nat → Nat → Dat) (A1 : Option Addr) (n1 c1 : Nat) (f1 : Nat → Nat → Dat) (A2 : Option Addr) (n2 c2 : Nat) (f2 : Nat → Nat → Dat) (A3 : Option Addr) (n3 c3 : Nat) (f3 : Nat → Nat → Dat) (K : Nat) (z : Int) (w : World) (hz : z = (K : Int)) (h1 : 1 ≤ K) (hcap : K + cnt (.sl n0 1 f0) + cnt (.sl n1 1 f1) + cnt (.sl n2 1 f2) + cnt (.sl n3 1 f3) ≤ 1000000000000) (hm0 : n0 ≤ maxLen) (ht0 : tyInt64S (.sl n0 1 f0)) (hr0 : Reads w (.slice A0 n0 c0) (mark mt (.sl n0 1 f0) (K))) (hm1 : n1 ≤ maxLen) (ht1 : tyInt64S (.sl n1 1 f1)) (hr1 : Reads w (.slice A1 n1 c1) (mark mt (.sl n1 1 f1) (K + cnt (.sl n0 1 f0)))) (hm2 : n2 ≤ maxLen) (ht2 : tyInt64S (.sl n2 1 f2)) (hr2 : Reads w (.slice A2 n2 c2) (mark mt (.sl n2 1 f2) (K + cnt (.sl n0 1 f0) + cnt (.sl n1 1 f1)))) (hm3 : n3 ≤ maxLen) (ht3 : tyInt64S (.sl n3 1 f3)) (hr3 : Reads w (.slice A3 n3 c3) (mark mt (.sl n3 1 f3) (K + cnt (.sl n0 1 f0) + cnt (.sl n1 1 f1) + cnt (.sl n2 1 f2)))) :
    Calls Try.prog 22 #[.agg #[.slice A0 n0 c0, .slice A1 n1 c1, .slice A2 n2 c2, .slice A3 n3 c3], .int .i64 z] w fun e w' => e = .returned (.int .i64 ((K + cnt (.sl n0 1 f0) + cnt (.sl n1 1 f1) + cnt (.sl n2 1 f2) + cnt (.sl n3 1 f3) : Nat) : Int)) ∧ Below w.heap.size w w' := by
  subst hz
  have HT0 := Lib.hid ht0
  have HR0 := Lib.hid hr0
  clear ht0 hr0
  have HT1 := Lib.hid ht1
  have HR1 := Lib.hid hr1
  clear ht1 hr1
  have HT2 := Lib.hid ht2
  have HR2 := Lib.hid hr2
  clear ht2 hr2
  have HT3 := Lib.hid ht3
  have HR3 := Lib.hid hr3
  clear ht3 hr3
  have HC := Lib.hid hcap
  clear hcap
  go_enter Try.func22, Try.ntmps22
  go_wp2_with fail
  refine (heldInt64S_calls A0 n0 c0 (K) _ f0 _ (by first | rfl | omega) (by omega) (by have := HC.out; omega) hm0 HT0.out (HR0.out.kept (below_alloc1 w (.cells #[.slice A0 n0 c0, .slice A1 n1 c1, .slice A2 n2 c2, .slice A3 n3 c3] 26)))).mono ?_
  rintro e w0 ⟨rfl, hb⟩
  have HB0 := Lib.hid ((below_alloc1 w (.cells #[.slice A0 n0 c0, .slice A1 n1 c1, .slice A2 n2 c2, .slice A3 n3 c3] 26)).trans (hb.mono (below_alloc1 w (.cells #[.slice A0 n0 c0, .slice A1 n1 c1, .slice A2 n2 c2, .slice A3 n3 c3] 26)).size))
  have d0_0 := (hb.cell (p := ⟨w.heap.size, 0, none⟩) (by simp)).trans (show _ = some (.slice A0 n0 c0) by simp)
  have d0_1 := (hb.cell (p := ⟨w.heap.size, 1, none⟩) (by simp)).trans (show _ = some (.slice A1 n1 c1) by simp)
  have d0_2 := (hb.cell (p := ⟨w.heap.size, 2, none⟩) (by simp)).trans (show _ = some (.slice A2 n2 c2) by simp)
  have d0_3 := (hb.cell (p := ⟨w.heap.size, 3, none⟩) (by simp)).trans (show _ = some (.slice A3 n3 c3) by simp)
  have lz0 : w.heap.size < w0.heap.size := by have := hb.size; (try simp at this); omega
  have hneg0 : ¬ (((K + cnt (.sl n0 1 f0) : Nat) : Int) < 0) := by omega
  clear hb
  go_wp2_with fail
  refine (heldInt64S_calls A1 n1 c1 (K + cnt (.sl n0 1 f0)) _ f1 _ (by first | rfl | omega) (by omega) (by have := HC.out; omega) hm1 HT1.out (HR1.out.kept HB0.out)).mono ?_
  rintro e w1 ⟨rfl, hb⟩
  have HB1 := Lib.hid (HB0.out.trans (hb.mono HB0.out.size))
  have d1_0 := (hb.cell (p := ⟨w.heap.size, 0, none⟩) lz0).trans d0_0
  have d1_1 := (hb.cell (p := ⟨w.heap.size, 1, none⟩) lz0).trans d0_1
  have d1_2 := (hb.cell (p := ⟨w.heap.size, 2, none⟩) lz0).trans d0_2
  have d1_3 := (hb.cell (p := ⟨w.heap.size, 3, none⟩) lz0).trans d0_3
  have lz1 : w.heap.size < w1.heap.size := by have := hb.size; (try simp at this); omega
  have hneg1 : ¬ (((K + cnt (.sl n0 1 f0) + cnt (.sl n1 1 f1) : Nat) : Int) < 0) := by omega
  clear d0_0 d0_1 d0_2 d0_3
  clear hb
  go_wp2_with fail
  refine (heldInt64S_calls A2 n2 c2 (K + cnt (.sl n0 1 f0) + cnt (.sl n1 1 f1)) _ f2 _ (by first | rfl | omega) (by omega) (by have := HC.out; omega) hm2 HT2.out (HR2.out.kept HB1.out)).mono ?_
  rintro e w2 ⟨rfl, hb⟩
  have HB2 := Lib.hid (HB1.out.trans (hb.mono HB1.out.size))
  have d2_0 := (hb.cell (p := ⟨w.heap.size, 0, none⟩) lz1).trans d1_0
  have d2_1 := (hb.cell (p := ⟨w.heap.size, 1, none⟩) lz1).trans d1_1
  have d2_2 := (hb.cell (p := ⟨w.heap.size, 2, none⟩) lz1).trans d1_2
  have d2_3 := (hb.cell (p := ⟨w.heap.size, 3, none⟩) lz1).trans d1_3
  have lz2 : w.heap.size < w2.heap.size := by have := hb.size; (try simp at this); omega
  have hneg2 : ¬ (((K + cnt (.sl n0 1 f0) + cnt (.sl n1 1 f1) + cnt (.sl n2 1 f2) : Nat) : Int) < 0) := by omega
  clear d1_0 d1_1 d1_2 d1_3
  clear hb
  go_wp2_with fail
  refine (heldInt64S_calls A3 n3 c3 (K + cnt (.sl n0 1 f0) + cnt (.sl n1 1 f1) + cnt (.sl n2 1 f2)) _ f3 _ (by first | rfl | omega) (by omega) (by have := HC.out; omega) hm3 HT3.out (HR3.out.kept HB2.out)).mono ?_
  rintro e w3 ⟨rfl, hb⟩
  have HB3 := Lib.hid (HB2.out.trans (hb.mono HB2.out.size))
  have d3_0 := (hb.cell (p := ⟨w.heap.size, 0, none⟩) lz2).trans d2_0
  have d3_1 := (hb.cell (p := ⟨w.heap.size, 1, none⟩) lz2).trans d2_1
  have d3_2 := (hb.cell (p := ⟨w.heap.size, 2, none⟩) lz2).trans d2_2
  have d3_3 := (hb.cell (p := ⟨w.heap.size, 3, none⟩) lz2).trans d2_3
  have lz3 : w.heap.size < w3.heap.size := by have := hb.size; (try simp at this); omega
  have hneg3 : ¬ (((K + cnt (.sl n0 1 f0) + cnt (.sl n1 1 f1) + cnt (.sl n2 1 f2) + cnt (.sl n3 1 f3) : Nat) : Int) < 0) := by omega
  clear d2_0 d2_1 d2_2 d2_3
  clear hb
  go_wp2
  go_ret
  exact ⟨ret_int (by omega), HB3.out⟩

end Go.Proofs.Ythpmckfjlbiiiaa.core
