/-
  Proved: what the functions that measure an argument return (contracts of callees of the exact laws).
  Conditions: the argument is read out of memory.
-/
import Derived.Test.YtnmlnlcbnjepkaaShape
namespace Go.Proofs.Ytnmlnlcbnjepkaa.core
open Go.ChangeShapes Go.WideShapes Go.ChangeAt Go.RowKit Go.Joins
set_option linter.unusedVariables false
set_option linter.unusedSimpArgs false

set_option maxRecDepth 100000 in
set_option maxHeartbeats 2000000 in
theorem szPointS_calls (A : Option Addr) (n c : Nat) (f : Nat → Nat → Dat) (l : Int) (w : World) (hl : 0 ≤ l) (hl2 : l ≤ 1048576) (hm : n ≤ maxLen) (hr : RowsAt w A n 3 f) (ht : tyPointS (.sl n 3 f)) :
    Calls Try.prog 148 #[.slice A n c, .int .i64 l] w fun e w' => e = .returned (.int .i64 (left l (cost (.sl n 3 f)))) ∧ Below w.heap.size w w' := by
  have HR := Lib.hid hr
  have HT := Lib.hid (tyPointS_at ht)
  clear hr ht
  have hm' : n ≤ 9223372036854775807 := by unfold maxLen at hm; omega
  clear hm
  have HE := Lib.hid (show cost (.sl n 3 f) = n from cost_flat fun i j hi hj => by
    obtain ⟨⟨x0, e0⟩, ⟨x1, e1⟩, ⟨x2, e2⟩⟩ := HT.out i hi
    rcases (by omega : j = 0 ∨ j = 1 ∨ j = 2) with rfl | rfl | rfl
    · simp only [e0, cost]
    · simp only [e1, cost]
    · simp only [e2, cost]
    )
  rw [HE.out]
  clear HE
  by_cases h0 : (n : Int) ≤ l
  · have h0' : ¬ (l - (n : Int) < 0) := by omega
    go_enter Try.func148, Try.ntmps148
    go_wp2
    go_ret
    exact ⟨ret_int (left_yes' (by omega) rfl), Below.refl _ _⟩
  · have h0' : l - (n : Int) < 0 := by omega
    go_enter Try.func148, Try.ntmps148
    go_wp2
    go_ret
    exact ⟨ret_int (left_no' (by omega)), Below.refl _ _⟩

set_option maxRecDepth 100000 in
set_option maxHeartbeats 2000000 in
theorem szStroke_calls (A0 : Option Addr) (n0 c0 : Nat) (f0 : Nat → Nat → Dat) (l : Int) (w : World) (hl : 0 ≤ l) (hl2 : l ≤ 1048576) (hm0 : n0 ≤ maxLen) (hr0 : RowsAt w A0 n0 3 f0) (ht0 : tyPointS (.sl n0 3 f0)) :
    Calls Try.prog 101 #[.agg #[.slice A0 n0 c0], .int .i64 l] w fun e w' => e = .returned (.int .i64 (left l (cost (.sl n0 3 f0)))) ∧ Below w.heap.size w w' := by
  have HR0 := Lib.hid hr0
  have HT0 := Lib.hid ht0
  clear hr0 ht0
  go_enter Try.func101, Try.ntmps101
  go_wp2_with fail
  refine (szPointS_calls A0 n0 c0 f0 _ _ (by omega) (by omega) hm0 (HR0.out.below (below_alloc1 w (.cells #[.slice A0 n0 c0] 160))) HT0.out).mono ?_
  rintro e w0 ⟨rfl, hb⟩
  have HB0 := Lib.hid ((below_alloc1 w (.cells #[.slice A0 n0 c0] 160)).trans (hb.mono (below_alloc1 w (.cells #[.slice A0 n0 c0] 160)).size))
  have lz0 : w.heap.size < w0.heap.size := by have := hb.size; (try simp at this); omega
  have d0_0 := (hb.cell (p := ⟨w.heap.size, 0, none⟩) (by simp)).trans (show _ = some (.slice A0 n0 c0) by simp)
  clear hb
  by_cases h0 : (((cost (.sl n0 3 f0)) : Nat) : Int) ≤ l
  rotate_left
  · rw [left_no h0]
    go_wp2
    go_ret
    exact ⟨ret_int (left_no' (by omega)), HB0.out⟩
  rw [left_yes h0]
  have h0' : ¬ (l - (((cost (.sl n0 3 f0)) : Nat) : Int) < 0) := by omega
  go_wp2
  go_ret
  exact ⟨ret_int (left_yes' (by omega) (by omega)), HB0.out⟩

set_option maxRecDepth 100000 in
set_option maxHeartbeats 2000000 in
theorem szStrokeS_calls (A : Option Addr) (n c : Nat) (f : Nat → Nat → Dat) (l : Int) (w : World) (hl : 0 ≤ l) (hl2 : l ≤ 1048576) (hm : n ≤ maxLen) (hr : RowsAt w A n 1 f) (ht : tyStrokeS (.sl n 1 f)) :
    Calls Try.prog 54 #[.slice A n c, .int .i64 l] w fun e w' => e = .returned (.int .i64 (left l (cost (.sl n 1 f)))) ∧ Below w.heap.size w w' := by
  have HR := Lib.hid hr
  have HT := Lib.hid (tyStrokeS_at ht)
  clear hr ht
  have hm' : n ≤ 9223372036854775807 := by unfold maxLen at hm; omega
  clear hm
  by_cases h0 : (n : Int) ≤ l
  · have h0' : ¬ (l - (n : Int) < 0) := by omega
    go_enter Try.func54, Try.ntmps54
    go_wp2
    go_loopw [5, 1] (fun i a w' => ∃ (m : Nat) (z : Int), m ≤ n ∧ 0 ≤ z ∧ z ≤ 1048576 ∧ i = .int .i64 (m : Int) ∧ a = .int .i64 z ∧ Hid (z = l - (n : Int) - ((sumTo (fun a => sumTo (fun j => cost (f a j)) 1) m : Nat) : Int)) ∧ Hid (Below w.heap.size w w')) (fun i _ _ => n - (intOf i).toNat)
    case atStart => exact ⟨0, l - (n : Int), Nat.zero_le _, by omega, by omega, rfl, rfl, Lib.hid (by simp [sumTo]), Lib.hid (Below.refl _ _)⟩
    case round =>
      obtain ⟨m, z, hm, hz0, hz1, rfl, rfl, HZ, HB⟩ := hrel
      by_cases hlt : m < n
      · obtain ⟨b, o, rfl, hbl, hj⟩ := HR.out m hlt
        have hT := HT.out m hlt
        have HS := Lib.hid (sumTo_lt (fun a => sumTo (fun j => cost (f a j)) 1) hlt)
        have ht0 := hT
        have HT0 := Lib.hid ht0
        obtain ⟨n0, f0, e0, -⟩ := ht0
        rw [e0] at HT0
        obtain ⟨u0, q0, r0⟩ := hj 0 (by omega)
        rw [e0] at r0
        obtain ⟨A0, c0, rfl, hm0, hr0⟩ := r0.sl_inv
        have HR0 := Lib.hid (hr0.below HB.out)
        clear hr0
        replace q0 := (HB.out.cell (p := ⟨b, o + m * 1 + 0, none⟩) hbl).trans q0
        clear r0
        simp only [Nat.add_zero, Nat.mul_one] at q0
        clear hj
        have HC := Lib.hid (show sumTo (fun j => cost (f m j)) 1 = cost (.sl n0 3 f0) by simp only [sumTo, e0, cost] <;> omega)
        clear e0
        have hli : (m : Int) < (n : Int) := by omega
        go_wp2_with fail
        refine (szStroke_calls A0 n0 c0 f0 _ _ (by omega) (by omega) hm0 HR0.out HT0.out).mono ?_
        rintro e w2 ⟨rfl, hb2⟩
        have HB2 := Lib.hid (HB.out.trans (hb2.mono HB.out.size))
        clear hb2 q0
        by_cases h1 : (((cost (.sl n0 3 f0)) : Nat) : Int) ≤ z
        rotate_left
        · rw [left_no h1]
          go_wp2
          go_ret
          exact ⟨ret_int (left_no' (by have := HZ.out; have := HS.out; have := HC.out; simp only [cost] at *; omega)), HB2.out⟩
        rw [left_yes h1]
        obtain ⟨z', hz'⟩ : ∃ z', z' = z - (((cost (.sl n0 3 f0)) : Nat) : Int) := ⟨_, rfl⟩
        rw [← hz']
        have HZ2 := Lib.hid (show z' = l - (n : Int) - ((sumTo (fun a => sumTo (fun j => cost (f a j)) 1) (m + 1) : Nat) : Int) by have := HZ.out; have := HC.out; simp only [sumTo] at *; omega)
        have hz2 : 0 ≤ z' := by omega
        have hz3 : z' ≤ 1048576 := by omega
        have hz4 : ¬ (z' < 0) := by omega
        clear hz'
        go_wp2
        go_roundw
        case rel => exact ⟨m + 1, z', by omega, hz2, hz3, by go_num, rfl, HZ2, HB2⟩
        case measure => simp [intOf]; omega
      · obtain rfl : m = n := by omega
        go_wp2
        go_ret
        exact ⟨ret_int (left_yes' (by have := HZ.out; simp only [cost]; omega) (by have := HZ.out; simp only [cost]; omega)), HB.out⟩
  · have h0' : l - (n : Int) < 0 := by omega
    go_enter Try.func54, Try.ntmps54
    go_wp2
    go_ret
    exact ⟨ret_int (left_no' (by simp only [cost]; omega)), Below.refl _ _⟩

set_option maxRecDepth 100000 in
set_option maxHeartbeats 2000000 in
theorem szInk_calls (A0 : Option Addr) (n0 c0 : Nat) (f0 : Nat → Nat → Dat) (l : Int) (w : World) (hl : 0 ≤ l) (hl2 : l ≤ 1048576) (hm0 : n0 ≤ maxLen) (hr0 : RowsAt w A0 n0 1 f0) (ht0 : tyStrokeS (.sl n0 1 f0)) :
    Calls Try.prog 18 #[.agg #[.slice A0 n0 c0], .int .i64 l] w fun e w' => e = .returned (.int .i64 (left l (cost (.sl n0 1 f0)))) ∧ Below w.heap.size w w' := by
  have HR0 := Lib.hid hr0
  have HT0 := Lib.hid ht0
  clear hr0 ht0
  go_enter Try.func18, Try.ntmps18
  go_wp2_with fail
  refine (szStrokeS_calls A0 n0 c0 f0 _ _ (by omega) (by omega) hm0 (HR0.out.below (below_alloc1 w (.cells #[.slice A0 n0 c0] 44))) HT0.out).mono ?_
  rintro e w0 ⟨rfl, hb⟩
  have HB0 := Lib.hid ((below_alloc1 w (.cells #[.slice A0 n0 c0] 44)).trans (hb.mono (below_alloc1 w (.cells #[.slice A0 n0 c0] 44)).size))
  have lz0 : w.heap.size < w0.heap.size := by have := hb.size; (try simp at this); omega
  have d0_0 := (hb.cell (p := ⟨w.heap.size, 0, none⟩) (by simp)).trans (show _ = some (.slice A0 n0 c0) by simp)
  clear hb
  by_cases h0 : (((cost (.sl n0 1 f0)) : Nat) : Int) ≤ l
  rotate_left
  · rw [left_no h0]
    go_wp2
    go_ret
    exact ⟨ret_int (left_no' (by omega)), HB0.out⟩
  rw [left_yes h0]
  have h0' : ¬ (l - (((cost (.sl n0 1 f0)) : Nat) : Int) < 0) := by omega
  go_wp2
  go_ret
  exact ⟨ret_int (left_yes' (by omega) (by omega)), HB0.out⟩

set_option maxRecDepth 100000 in
set_option maxHeartbeats 2000000 in
theorem szChannel_calls (s0 : ByteArray) (s1 : ByteArray) (x2 : Int) (x3 : Int) (l : Int) (w : World) (hl : 0 ≤ l) (hl2 : l ≤ 1048576) (hs0 : s0.size ≤ maxLen) (hs1 : s1.size ≤ maxLen) :
    Calls Try.prog 89 #[.agg #[.string s0, .string s1, .int .i64 x2, .int .i64 x3], .int .i64 l] w fun e w' => e = .returned (.int .i64 (left l (s0.size + s1.size))) ∧ Below w.heap.size w w' := by
  have hS0 : s0.size ≤ 9223372036854775807 := by unfold maxLen at hs0; omega
  have hS1 : s1.size ≤ 9223372036854775807 := by unfold maxLen at hs1; omega
  go_enter Try.func89, Try.ntmps89
  by_cases h0 : (s0.size : Int) ≤ l
  rotate_left
  · have h0' : l - (s0.size : Int) < 0 := by omega
    go_wp2
    go_ret
    exact ⟨ret_int (left_no' (by omega)), below_alloc1 _ _⟩
  have h0' : ¬ (l - (s0.size : Int) < 0) := by omega
  by_cases h1 : (s1.size : Int) ≤ l - (s0.size : Int)
  rotate_left
  · have h1' : l - (s0.size : Int) - (s1.size : Int) < 0 := by omega
    go_wp2
    go_ret
    exact ⟨ret_int (left_no' (by omega)), below_alloc1 _ _⟩
  have h1' : ¬ (l - (s0.size : Int) - (s1.size : Int) < 0) := by omega
  go_wp2
  go_ret
  exact ⟨ret_int (left_yes' (by omega) (by omega)), below_alloc1 _ _⟩

set_option maxRecDepth 100000 in
set_option maxHeartbeats 2000000 in
theorem szChannelS_calls (A : Option Addr) (n c : Nat) (f : Nat → Nat → Dat) (l : Int) (w : World) (hl : 0 ≤ l) (hl2 : l ≤ 1048576) (hm : n ≤ maxLen) (hr : RowsAt w A n 4 f) (ht : tyChannelS (.sl n 4 f)) :
    Calls Try.prog 39 #[.slice A n c, .int .i64 l] w fun e w' => e = .returned (.int .i64 (left l (cost (.sl n 4 f)))) ∧ Below w.heap.size w w' := by
  have HR := Lib.hid hr
  have HT := Lib.hid (tyChannelS_at ht)
  clear hr ht
  have hm' : n ≤ 9223372036854775807 := by unfold maxLen at hm; omega
  clear hm
  by_cases h0 : (n : Int) ≤ l
  · have h0' : ¬ (l - (n : Int) < 0) := by omega
    go_enter Try.func39, Try.ntmps39
    go_wp2
    go_loopw [5, 1] (fun i a w' => ∃ (m : Nat) (z : Int), m ≤ n ∧ 0 ≤ z ∧ z ≤ 1048576 ∧ i = .int .i64 (m : Int) ∧ a = .int .i64 z ∧ Hid (z = l - (n : Int) - ((sumTo (fun a => sumTo (fun j => cost (f a j)) 4) m : Nat) : Int)) ∧ Hid (Below w.heap.size w w')) (fun i _ _ => n - (intOf i).toNat)
    case atStart => exact ⟨0, l - (n : Int), Nat.zero_le _, by omega, by omega, rfl, rfl, Lib.hid (by simp [sumTo]), Lib.hid (Below.refl _ _)⟩
    case round =>
      obtain ⟨m, z, hm, hz0, hz1, rfl, rfl, HZ, HB⟩ := hrel
      by_cases hlt : m < n
      · obtain ⟨b, o, rfl, hbl, hj⟩ := HR.out m hlt
        have hT := HT.out m hlt
        have HS := Lib.hid (sumTo_lt (fun a => sumTo (fun j => cost (f a j)) 4) hlt)
        obtain ⟨⟨s0, e0⟩, ⟨s1, e1⟩, ⟨x2, e2⟩, ⟨x3, e3⟩⟩ := hT
        obtain ⟨u0, q0, r0⟩ := hj 0 (by omega)
        rw [e0] at r0
        obtain ⟨rfl, hs0⟩ := r0.str_inv
        have hS0 : s0.size ≤ 9223372036854775807 := by unfold maxLen at hs0; omega
        replace q0 := (HB.out.cell (p := ⟨b, o + m * 4 + 0, none⟩) hbl).trans q0
        clear r0
        simp only [Nat.add_zero, Nat.mul_one] at q0
        obtain ⟨u1, q1, r1⟩ := hj 1 (by omega)
        rw [e1] at r1
        obtain ⟨rfl, hs1⟩ := r1.str_inv
        have hS1 : s1.size ≤ 9223372036854775807 := by unfold maxLen at hs1; omega
        replace q1 := (HB.out.cell (p := ⟨b, o + m * 4 + 1, none⟩) hbl).trans q1
        clear r1
        obtain ⟨u2, q2, r2⟩ := hj 2 (by omega)
        rw [e2] at r2
        obtain ⟨rfl, hi2⟩ := r2.int_inv
        replace q2 := (HB.out.cell (p := ⟨b, o + m * 4 + 2, none⟩) hbl).trans q2
        clear r2
        obtain ⟨u3, q3, r3⟩ := hj 3 (by omega)
        rw [e3] at r3
        obtain ⟨rfl, hi3⟩ := r3.int_inv
        replace q3 := (HB.out.cell (p := ⟨b, o + m * 4 + 3, none⟩) hbl).trans q3
        clear r3
        clear hj
        have HC := Lib.hid (show sumTo (fun j => cost (f m j)) 4 = s0.size + s1.size by simp only [sumTo, e0, e1, e2, e3, cost] <;> omega)
        clear e0 e1 e2 e3
        have hli : (m : Int) < (n : Int) := by omega
        go_wp2_with fail
        refine (szChannel_calls s0 s1 x2 x3 _ _ (by omega) (by omega) hs0 hs1).mono ?_
        rintro e w2 ⟨rfl, hb2⟩
        have HB2 := Lib.hid (HB.out.trans (hb2.mono HB.out.size))
        clear hb2 q0 q1 q2 q3
        by_cases h1 : (((s0.size + s1.size) : Nat) : Int) ≤ z
        rotate_left
        · rw [left_no h1]
          go_wp2
          go_ret
          exact ⟨ret_int (left_no' (by have := HZ.out; have := HS.out; have := HC.out; simp only [cost] at *; omega)), HB2.out⟩
        rw [left_yes h1]
        obtain ⟨z', hz'⟩ : ∃ z', z' = z - (((s0.size + s1.size) : Nat) : Int) := ⟨_, rfl⟩
        rw [← hz']
        have HZ2 := Lib.hid (show z' = l - (n : Int) - ((sumTo (fun a => sumTo (fun j => cost (f a j)) 4) (m + 1) : Nat) : Int) by have := HZ.out; have := HC.out; simp only [sumTo] at *; omega)
        have hz2 : 0 ≤ z' := by omega
        have hz3 : z' ≤ 1048576 := by omega
        have hz4 : ¬ (z' < 0) := by omega
        clear hz'
        go_wp2
        go_roundw
        case rel => exact ⟨m + 1, z', by omega, hz2, hz3, by go_num, rfl, HZ2, HB2⟩
        case measure => simp [intOf]; omega
      · obtain rfl : m = n := by omega
        go_wp2
        go_ret
        exact ⟨ret_int (left_yes' (by have := HZ.out; simp only [cost]; omega) (by have := HZ.out; simp only [cost]; omega)), HB.out⟩
  · have h0' : l - (n : Int) < 0 := by omega
    go_enter Try.func39, Try.ntmps39
    go_wp2
    go_ret
    exact ⟨ret_int (left_no' (by simp only [cost]; omega)), Below.refl _ _⟩

set_option maxRecDepth 100000 in
set_option maxHeartbeats 2000000 in
theorem szInt64S_calls (A : Option Addr) (n c : Nat) (f : Nat → Nat → Dat) (l : Int) (w : World) (hl : 0 ≤ l) (hl2 : l ≤ 1048576) (hm : n ≤ maxLen) (hr : RowsAt w A n 1 f) (ht : tyInt64S (.sl n 1 f)) :
    Calls Try.prog 170 #[.slice A n c, .int .i64 l] w fun e w' => e = .returned (.int .i64 (left l (cost (.sl n 1 f)))) ∧ Below w.heap.size w w' := by
  have HR := Lib.hid hr
  have HT := Lib.hid (tyInt64S_at ht)
  clear hr ht
  have hm' : n ≤ 9223372036854775807 := by unfold maxLen at hm; omega
  clear hm
  have HE := Lib.hid (show cost (.sl n 1 f) = n from cost_flat fun i j hi hj => by
    obtain ⟨x0, e0⟩ := HT.out i hi
    obtain rfl : j = 0 := by omega
    · simp only [e0, cost]
    )
  rw [HE.out]
  clear HE
  by_cases h0 : (n : Int) ≤ l
  · have h0' : ¬ (l - (n : Int) < 0) := by omega
    go_enter Try.func170, Try.ntmps170
    go_wp2
    go_ret
    exact ⟨ret_int (left_yes' (by omega) rfl), Below.refl _ _⟩
  · have h0' : l - (n : Int) < 0 := by omega
    go_enter Try.func170, Try.ntmps170
    go_wp2
    go_ret
    exact ⟨ret_int (left_no' (by omega)), Below.refl _ _⟩

set_option maxRecDepth 100000 in
set_option maxHeartbeats 2000000 in
theorem szInt64SS_calls (A : Option Addr) (n c : Nat) (f : Nat → Nat → Dat) (l : Int) (w : World) (hl : 0 ≤ l) (hl2 : l ≤ 1048576) (hm : n ≤ maxLen) (hr : RowsAt w A n 1 f) (ht : tyInt64SS (.sl n 1 f)) :
    Calls Try.prog 144 #[.slice A n c, .int .i64 l] w fun e w' => e = .returned (.int .i64 (left l (cost (.sl n 1 f)))) ∧ Below w.heap.size w w' := by
  have HR := Lib.hid hr
  have HT := Lib.hid (tyInt64SS_at ht)
  clear hr ht
  have hm' : n ≤ 9223372036854775807 := by unfold maxLen at hm; omega
  clear hm
  by_cases h0 : (n : Int) ≤ l
  · have h0' : ¬ (l - (n : Int) < 0) := by omega
    go_enter Try.func144, Try.ntmps144
    go_wp2
    go_loopw [5, 1] (fun i a w' => ∃ (m : Nat) (z : Int), m ≤ n ∧ 0 ≤ z ∧ z ≤ 1048576 ∧ i = .int .i64 (m : Int) ∧ a = .int .i64 z ∧ Hid (z = l - (n : Int) - ((sumTo (fun a => sumTo (fun j => cost (f a j)) 1) m : Nat) : Int)) ∧ Hid (Below w.heap.size w w')) (fun i _ _ => n - (intOf i).toNat)
    case atStart => exact ⟨0, l - (n : Int), Nat.zero_le _, by omega, by omega, rfl, rfl, Lib.hid (by simp [sumTo]), Lib.hid (Below.refl _ _)⟩
    case round =>
      obtain ⟨m, z, hm, hz0, hz1, rfl, rfl, HZ, HB⟩ := hrel
      by_cases hlt : m < n
      · obtain ⟨b, o, rfl, hbl, hj⟩ := HR.out m hlt
        have hT := HT.out m hlt
        have HS := Lib.hid (sumTo_lt (fun a => sumTo (fun j => cost (f a j)) 1) hlt)
        have ht0 := hT
        have HT0 := Lib.hid ht0
        obtain ⟨n0, f0, e0, -⟩ := ht0
        rw [e0] at HT0
        obtain ⟨u0, q0, r0⟩ := hj 0 (by omega)
        rw [e0] at r0
        obtain ⟨A0, c0, rfl, hm0, hr0⟩ := r0.sl_inv
        have HR0 := Lib.hid (hr0.below HB.out)
        clear hr0
        replace q0 := (HB.out.cell (p := ⟨b, o + m * 1 + 0, none⟩) hbl).trans q0
        clear r0
        simp only [Nat.add_zero, Nat.mul_one] at q0
        clear hj
        have HC := Lib.hid (show sumTo (fun j => cost (f m j)) 1 = cost (.sl n0 1 f0) by simp only [sumTo, e0, cost] <;> omega)
        clear e0
        have hli : (m : Int) < (n : Int) := by omega
        go_wp2_with fail
        refine (szInt64S_calls A0 n0 c0 f0 _ _ (by omega) (by omega) hm0 HR0.out HT0.out).mono ?_
        rintro e w2 ⟨rfl, hb2⟩
        have HB2 := Lib.hid (HB.out.trans (hb2.mono HB.out.size))
        clear hb2 q0
        by_cases h1 : (((cost (.sl n0 1 f0)) : Nat) : Int) ≤ z
        rotate_left
        · rw [left_no h1]
          go_wp2
          go_ret
          exact ⟨ret_int (left_no' (by have := HZ.out; have := HS.out; have := HC.out; simp only [cost] at *; omega)), HB2.out⟩
        rw [left_yes h1]
        obtain ⟨z', hz'⟩ : ∃ z', z' = z - (((cost (.sl n0 1 f0)) : Nat) : Int) := ⟨_, rfl⟩
        rw [← hz']
        have HZ2 := Lib.hid (show z' = l - (n : Int) - ((sumTo (fun a => sumTo (fun j => cost (f a j)) 1) (m + 1) : Nat) : Int) by have := HZ.out; have := HC.out; simp only [sumTo] at *; omega)
        have hz2 : 0 ≤ z' := by omega
        have hz3 : z' ≤ 1048576 := by omega
        have hz4 : ¬ (z' < 0) := by omega
        clear hz'
        go_wp2
        go_roundw
        case rel => exact ⟨m + 1, z', by omega, hz2, hz3, by go_num, rfl, HZ2, HB2⟩
        case measure => simp [intOf]; omega
      · obtain rfl : m = n := by omega
        go_wp2
        go_ret
        exact ⟨ret_int (left_yes' (by have := HZ.out; simp only [cost]; omega) (by have := HZ.out; simp only [cost]; omega)), HB.out⟩
  · have h0' : l - (n : Int) < 0 := by omega
    go_enter Try.func144, Try.ntmps144
    go_wp2
    go_ret
    exact ⟨ret_int (left_no' (by simp only [cost]; omega)), Below.refl _ _⟩

set_option maxRecDepth 100000 in
set_option maxHeartbeats 2000000 in
theorem szRows_calls (A0 : Option Addr) (n0 c0 : Nat) (f0 : Nat → Nat → Dat) (l : Int) (w : World) (hl : 0 ≤ l) (hl2 : l ≤ 1048576) (hm0 : n0 ≤ maxLen) (hr0 : RowsAt w A0 n0 1 f0) (ht0 : tyInt64SS (.sl n0 1 f0)) :
    Calls Try.prog 90 #[.agg #[.slice A0 n0 c0], .int .i64 l] w fun e w' => e = .returned (.int .i64 (left l (cost (.sl n0 1 f0)))) ∧ Below w.heap.size w w' := by
  have HR0 := Lib.hid hr0
  have HT0 := Lib.hid ht0
  clear hr0 ht0
  go_enter Try.func90, Try.ntmps90
  go_wp2_with fail
  refine (szInt64SS_calls A0 n0 c0 f0 _ _ (by omega) (by omega) hm0 (HR0.out.below (below_alloc1 w (.cells #[.slice A0 n0 c0] 143))) HT0.out).mono ?_
  rintro e w0 ⟨rfl, hb⟩
  have HB0 := Lib.hid ((below_alloc1 w (.cells #[.slice A0 n0 c0] 143)).trans (hb.mono (below_alloc1 w (.cells #[.slice A0 n0 c0] 143)).size))
  have lz0 : w.heap.size < w0.heap.size := by have := hb.size; (try simp at this); omega
  have d0_0 := (hb.cell (p := ⟨w.heap.size, 0, none⟩) (by simp)).trans (show _ = some (.slice A0 n0 c0) by simp)
  clear hb
  by_cases h0 : (((cost (.sl n0 1 f0)) : Nat) : Int) ≤ l
  rotate_left
  · rw [left_no h0]
    go_wp2
    go_ret
    exact ⟨ret_int (left_no' (by omega)), HB0.out⟩
  rw [left_yes h0]
  have h0' : ¬ (l - (((cost (.sl n0 1 f0)) : Nat) : Int) < 0) := by omega
  go_wp2
  go_ret
  exact ⟨ret_int (left_yes' (by omega) (by omega)), HB0.out⟩

set_option maxRecDepth 100000 in
set_option maxHeartbeats 2000000 in
theorem szRowsS_calls (A : Option Addr) (n c : Nat) (f : Nat → Nat → Dat) (l : Int) (w : World) (hl : 0 ≤ l) (hl2 : l ≤ 1048576) (hm : n ≤ maxLen) (hr : RowsAt w A n 1 f) (ht : tyRowsS (.sl n 1 f)) :
    Calls Try.prog 40 #[.slice A n c, .int .i64 l] w fun e w' => e = .returned (.int .i64 (left l (cost (.sl n 1 f)))) ∧ Below w.heap.size w w' := by
  have HR := Lib.hid hr
  have HT := Lib.hid (tyRowsS_at ht)
  clear hr ht
  have hm' : n ≤ 9223372036854775807 := by unfold maxLen at hm; omega
  clear hm
  by_cases h0 : (n : Int) ≤ l
  · have h0' : ¬ (l - (n : Int) < 0) := by omega
    go_enter Try.func40, Try.ntmps40
    go_wp2
    go_loopw [5, 1] (fun i a w' => ∃ (m : Nat) (z : Int), m ≤ n ∧ 0 ≤ z ∧ z ≤ 1048576 ∧ i = .int .i64 (m : Int) ∧ a = .int .i64 z ∧ Hid (z = l - (n : Int) - ((sumTo (fun a => sumTo (fun j => cost (f a j)) 1) m : Nat) : Int)) ∧ Hid (Below w.heap.size w w')) (fun i _ _ => n - (intOf i).toNat)
    case atStart => exact ⟨0, l - (n : Int), Nat.zero_le _, by omega, by omega, rfl, rfl, Lib.hid (by simp [sumTo]), Lib.hid (Below.refl _ _)⟩
    case round =>
      obtain ⟨m, z, hm, hz0, hz1, rfl, rfl, HZ, HB⟩ := hrel
      by_cases hlt : m < n
      · obtain ⟨b, o, rfl, hbl, hj⟩ := HR.out m hlt
        have hT := HT.out m hlt
        have HS := Lib.hid (sumTo_lt (fun a => sumTo (fun j => cost (f a j)) 1) hlt)
        have ht0 := hT
        have HT0 := Lib.hid ht0
        obtain ⟨n0, f0, e0, -⟩ := ht0
        rw [e0] at HT0
        obtain ⟨u0, q0, r0⟩ := hj 0 (by omega)
        rw [e0] at r0
        obtain ⟨A0, c0, rfl, hm0, hr0⟩ := r0.sl_inv
        have HR0 := Lib.hid (hr0.below HB.out)
        clear hr0
        replace q0 := (HB.out.cell (p := ⟨b, o + m * 1 + 0, none⟩) hbl).trans q0
        clear r0
        simp only [Nat.add_zero, Nat.mul_one] at q0
        clear hj
        have HC := Lib.hid (show sumTo (fun j => cost (f m j)) 1 = cost (.sl n0 1 f0) by simp only [sumTo, e0, cost] <;> omega)
        clear e0
        have hli : (m : Int) < (n : Int) := by omega
        go_wp2_with fail
        refine (szRows_calls A0 n0 c0 f0 _ _ (by omega) (by omega) hm0 HR0.out HT0.out).mono ?_
        rintro e w2 ⟨rfl, hb2⟩
        have HB2 := Lib.hid (HB.out.trans (hb2.mono HB.out.size))
        clear hb2 q0
        by_cases h1 : (((cost (.sl n0 1 f0)) : Nat) : Int) ≤ z
        rotate_left
        · rw [left_no h1]
          go_wp2
          go_ret
          exact ⟨ret_int (left_no' (by have := HZ.out; have := HS.out; have := HC.out; simp only [cost] at *; omega)), HB2.out⟩
        rw [left_yes h1]
        obtain ⟨z', hz'⟩ : ∃ z', z' = z - (((cost (.sl n0 1 f0)) : Nat) : Int) := ⟨_, rfl⟩
        rw [← hz']
        have HZ2 := Lib.hid (show z' = l - (n : Int) - ((sumTo (fun a => sumTo (fun j => cost (f a j)) 1) (m + 1) : Nat) : Int) by have := HZ.out; have := HC.out; simp only [sumTo] at *; omega)
        have hz2 : 0 ≤ z' := by omega
        have hz3 : z' ≤ 1048576 := by omega
        have hz4 : ¬ (z' < 0) := by omega
        clear hz'
        go_wp2
        go_roundw
        case rel => exact ⟨m + 1, z', by omega, hz2, hz3, by go_num, rfl, HZ2, HB2⟩
        case measure => simp [intOf]; omega
      · obtain rfl : m = n := by omega
        go_wp2
        go_ret
        exact ⟨ret_int (left_yes' (by have := HZ.out; simp only [cost]; omega) (by have := HZ.out; simp only [cost]; omega)), HB.out⟩
  · have h0' : l - (n : Int) < 0 := by omega
    go_enter Try.func40, Try.ntmps40
    go_wp2
    go_ret
    exact ⟨ret_int (left_no' (by simp only [cost]; omega)), Below.refl _ _⟩

set_option maxRecDepth 100000 in
set_option maxHeartbeats 2000000 in
theorem szNote_calls (x0 : Int) (x1 : Int) (s2 : ByteArray) (l : Int) (w : World) (hl : 0 ≤ l) (hl2 : l ≤ 1048576) (hs2 : s2.size ≤ maxLen) :
    Calls Try.prog 25 #[.agg #[.int .i64 x0, .int .i64 x1, .string s2], .int .i64 l] w fun e w' => e = .returned (.int .i64 (left l (s2.size))) ∧ Below w.heap.size w w' := by
  have hS2 : s2.size ≤ 9223372036854775807 := by unfold maxLen at hs2; omega
  go_enter Try.func25, Try.ntmps25
  by_cases h0 : (s2.size : Int) ≤ l
  rotate_left
  · have h0' : l - (s2.size : Int) < 0 := by omega
    go_wp2
    go_ret
    exact ⟨ret_int (left_no' (by omega)), below_alloc1 _ _⟩
  have h0' : ¬ (l - (s2.size : Int) < 0) := by omega
  go_wp2
  go_ret
  exact ⟨ret_int (left_yes' (by omega) (by omega)), below_alloc1 _ _⟩

set_option maxRecDepth 100000 in
set_option maxHeartbeats 2000000 in
theorem szNoteS_calls (A : Option Addr) (n c : Nat) (f : Nat → Nat → Dat) (l : Int) (w : World) (hl : 0 ≤ l) (hl2 : l ≤ 1048576) (hm : n ≤ maxLen) (hr : RowsAt w A n 3 f) (ht : tyNoteS (.sl n 3 f)) :
    Calls Try.prog 41 #[.slice A n c, .int .i64 l] w fun e w' => e = .returned (.int .i64 (left l (cost (.sl n 3 f)))) ∧ Below w.heap.size w w' := by
  have HR := Lib.hid hr
  have HT := Lib.hid (tyNoteS_at ht)
  clear hr ht
  have hm' : n ≤ 9223372036854775807 := by unfold maxLen at hm; omega
  clear hm
  by_cases h0 : (n : Int) ≤ l
  · have h0' : ¬ (l - (n : Int) < 0) := by omega
    go_enter Try.func41, Try.ntmps41
    go_wp2
    go_loopw [5, 1] (fun i a w' => ∃ (m : Nat) (z : Int), m ≤ n ∧ 0 ≤ z ∧ z ≤ 1048576 ∧ i = .int .i64 (m : Int) ∧ a = .int .i64 z ∧ Hid (z = l - (n : Int) - ((sumTo (fun a => sumTo (fun j => cost (f a j)) 3) m : Nat) : Int)) ∧ Hid (Below w.heap.size w w')) (fun i _ _ => n - (intOf i).toNat)
    case atStart => exact ⟨0, l - (n : Int), Nat.zero_le _, by omega, by omega, rfl, rfl, Lib.hid (by simp [sumTo]), Lib.hid (Below.refl _ _)⟩
    case round =>
      obtain ⟨m, z, hm, hz0, hz1, rfl, rfl, HZ, HB⟩ := hrel
      by_cases hlt : m < n
      · obtain ⟨b, o, rfl, hbl, hj⟩ := HR.out m hlt
        have hT := HT.out m hlt
        have HS := Lib.hid (sumTo_lt (fun a => sumTo (fun j => cost (f a j)) 3) hlt)
        obtain ⟨⟨x0, e0⟩, ⟨x1, e1⟩, ⟨s2, e2⟩⟩ := hT
        obtain ⟨u0, q0, r0⟩ := hj 0 (by omega)
        rw [e0] at r0
        obtain ⟨rfl, hi0⟩ := r0.int_inv
        replace q0 := (HB.out.cell (p := ⟨b, o + m * 3 + 0, none⟩) hbl).trans q0
        clear r0
        simp only [Nat.add_zero, Nat.mul_one] at q0
        obtain ⟨u1, q1, r1⟩ := hj 1 (by omega)
        rw [e1] at r1
        obtain ⟨rfl, hi1⟩ := r1.int_inv
        replace q1 := (HB.out.cell (p := ⟨b, o + m * 3 + 1, none⟩) hbl).trans q1
        clear r1
        obtain ⟨u2, q2, r2⟩ := hj 2 (by omega)
        rw [e2] at r2
        obtain ⟨rfl, hs2⟩ := r2.str_inv
        have hS2 : s2.size ≤ 9223372036854775807 := by unfold maxLen at hs2; omega
        replace q2 := (HB.out.cell (p := ⟨b, o + m * 3 + 2, none⟩) hbl).trans q2
        clear r2
        clear hj
        have HC := Lib.hid (show sumTo (fun j => cost (f m j)) 3 = s2.size by simp only [sumTo, e0, e1, e2, cost] <;> omega)
        clear e0 e1 e2
        have hli : (m : Int) < (n : Int) := by omega
        go_wp2_with fail
        refine (szNote_calls x0 x1 s2 _ _ (by omega) (by omega) hs2).mono ?_
        rintro e w2 ⟨rfl, hb2⟩
        have HB2 := Lib.hid (HB.out.trans (hb2.mono HB.out.size))
        clear hb2 q0 q1 q2
        by_cases h1 : (((s2.size) : Nat) : Int) ≤ z
        rotate_left
        · rw [left_no h1]
          go_wp2
          go_ret
          exact ⟨ret_int (left_no' (by have := HZ.out; have := HS.out; have := HC.out; simp only [cost] at *; omega)), HB2.out⟩
        rw [left_yes h1]
        obtain ⟨z', hz'⟩ : ∃ z', z' = z - (((s2.size) : Nat) : Int) := ⟨_, rfl⟩
        rw [← hz']
        have HZ2 := Lib.hid (show z' = l - (n : Int) - ((sumTo (fun a => sumTo (fun j => cost (f a j)) 3) (m + 1) : Nat) : Int) by have := HZ.out; have := HC.out; simp only [sumTo] at *; omega)
        have hz2 : 0 ≤ z' := by omega
        have hz3 : z' ≤ 1048576 := by omega
        have hz4 : ¬ (z' < 0) := by omega
        clear hz'
        go_wp2
        go_roundw
        case rel => exact ⟨m + 1, z', by omega, hz2, hz3, by go_num, rfl, HZ2, HB2⟩
        case measure => simp [intOf]; omega
      · obtain rfl : m = n := by omega
        go_wp2
        go_ret
        exact ⟨ret_int (left_yes' (by have := HZ.out; simp only [cost]; omega) (by have := HZ.out; simp only [cost]; omega)), HB.out⟩
  · have h0' : l - (n : Int) < 0 := by omega
    go_enter Try.func41, Try.ntmps41
    go_wp2
    go_ret
    exact ⟨ret_int (left_no' (by simp only [cost]; omega)), Below.refl _ _⟩

set_option maxRecDepth 100000 in
set_option maxHeartbeats 2000000 in
theorem szFile_calls (A0 : Option Addr) (n0 c0 : Nat) (f0 : Nat → Nat → Dat) (A1 : Option Addr) (n1 c1 : Nat) (f1 : Nat → Nat → Dat) (A2 : Option Addr) (n2 c2 : Nat) (f2 : Nat → Nat → Dat) (l : Int) (w : World) (hl : 0 ≤ l) (hl2 : l ≤ 1048576) (hm0 : n0 ≤ maxLen) (hr0 : RowsAt w A0 n0 4 f0) (ht0 : tyChannelS (.sl n0 4 f0)) (hm1 : n1 ≤ maxLen) (hr1 : RowsAt w A1 n1 1 f1) (ht1 : tyRowsS (.sl n1 1 f1)) (hm2 : n2 ≤ maxLen) (hr2 : RowsAt w A2 n2 3 f2) (ht2 : tyNoteS (.sl n2 3 f2)) :
    Calls Try.prog 9 #[.agg #[.slice A0 n0 c0, .slice A1 n1 c1, .slice A2 n2 c2], .int .i64 l] w fun e w' => e = .returned (.int .i64 (left l (cost (.sl n0 4 f0) + cost (.sl n1 1 f1) + cost (.sl n2 3 f2)))) ∧ Below w.heap.size w w' := by
  have HR0 := Lib.hid hr0
  have HT0 := Lib.hid ht0
  clear hr0 ht0
  have HR1 := Lib.hid hr1
  have HT1 := Lib.hid ht1
  clear hr1 ht1
  have HR2 := Lib.hid hr2
  have HT2 := Lib.hid ht2
  clear hr2 ht2
  go_enter Try.func9, Try.ntmps9
  go_wp2_with fail
  refine (szChannelS_calls A0 n0 c0 f0 _ _ (by omega) (by omega) hm0 (HR0.out.below (below_alloc1 w (.cells #[.slice A0 n0 c0, .slice A1 n1 c1, .slice A2 n2 c2] 26))) HT0.out).mono ?_
  rintro e w0 ⟨rfl, hb⟩
  have HB0 := Lib.hid ((below_alloc1 w (.cells #[.slice A0 n0 c0, .slice A1 n1 c1, .slice A2 n2 c2] 26)).trans (hb.mono (below_alloc1 w (.cells #[.slice A0 n0 c0, .slice A1 n1 c1, .slice A2 n2 c2] 26)).size))
  have lz0 : w.heap.size < w0.heap.size := by have := hb.size; (try simp at this); omega
  have d0_0 := (hb.cell (p := ⟨w.heap.size, 0, none⟩) (by simp)).trans (show _ = some (.slice A0 n0 c0) by simp)
  have d0_1 := (hb.cell (p := ⟨w.heap.size, 1, none⟩) (by simp)).trans (show _ = some (.slice A1 n1 c1) by simp)
  have d0_2 := (hb.cell (p := ⟨w.heap.size, 2, none⟩) (by simp)).trans (show _ = some (.slice A2 n2 c2) by simp)
  clear hb
  by_cases h0 : (((cost (.sl n0 4 f0)) : Nat) : Int) ≤ l
  rotate_left
  · rw [left_no h0]
    go_wp2
    go_ret
    exact ⟨ret_int (left_no' (by omega)), HB0.out⟩
  rw [left_yes h0]
  have h0' : ¬ (l - (((cost (.sl n0 4 f0)) : Nat) : Int) < 0) := by omega
  go_wp2_with fail
  refine (szRowsS_calls A1 n1 c1 f1 _ _ (by omega) (by omega) hm1 (HR1.out.below HB0.out) HT1.out).mono ?_
  rintro e w1 ⟨rfl, hb⟩
  have HB1 := Lib.hid (HB0.out.trans (hb.mono HB0.out.size))
  have lz1 : w.heap.size < w1.heap.size := by have := hb.size; (try simp at this); omega
  have d1_0 := (hb.cell (p := ⟨w.heap.size, 0, none⟩) (by exact lz0)).trans d0_0
  have d1_1 := (hb.cell (p := ⟨w.heap.size, 1, none⟩) (by exact lz0)).trans d0_1
  have d1_2 := (hb.cell (p := ⟨w.heap.size, 2, none⟩) (by exact lz0)).trans d0_2
  clear d0_0 d0_1 d0_2
  clear hb
  by_cases h1 : (((cost (.sl n1 1 f1)) : Nat) : Int) ≤ l - (((cost (.sl n0 4 f0)) : Nat) : Int)
  rotate_left
  · rw [left_no h1]
    go_wp2
    go_ret
    exact ⟨ret_int (left_no' (by omega)), HB1.out⟩
  rw [left_yes h1]
  have h1' : ¬ (l - (((cost (.sl n0 4 f0)) : Nat) : Int) - (((cost (.sl n1 1 f1)) : Nat) : Int) < 0) := by omega
  go_wp2_with fail
  refine (szNoteS_calls A2 n2 c2 f2 _ _ (by omega) (by omega) hm2 (HR2.out.below HB1.out) HT2.out).mono ?_
  rintro e w2 ⟨rfl, hb⟩
  have HB2 := Lib.hid (HB1.out.trans (hb.mono HB1.out.size))
  have lz2 : w.heap.size < w2.heap.size := by have := hb.size; (try simp at this); omega
  have d2_0 := (hb.cell (p := ⟨w.heap.size, 0, none⟩) (by exact lz1)).trans d1_0
  have d2_1 := (hb.cell (p := ⟨w.heap.size, 1, none⟩) (by exact lz1)).trans d1_1
  have d2_2 := (hb.cell (p := ⟨w.heap.size, 2, none⟩) (by exact lz1)).trans d1_2
  clear d1_0 d1_1 d1_2
  clear hb
  by_cases h2 : (((cost (.sl n2 3 f2)) : Nat) : Int) ≤ l - (((cost (.sl n0 4 f0)) : Nat) : Int) - (((cost (.sl n1 1 f1)) : Nat) : Int)
  rotate_left
  · rw [left_no h2]
    go_wp2
    go_ret
    exact ⟨ret_int (left_no' (by omega)), HB2.out⟩
  rw [left_yes h2]
  have h2' : ¬ (l - (((cost (.sl n0 4 f0)) : Nat) : Int) - (((cost (.sl n1 1 f1)) : Nat) : Int) - (((cost (.sl n2 3 f2)) : Nat) : Int) < 0) := by omega
  go_wp2
  go_ret
  exact ⟨ret_int (left_yes' (by omega) (by omega)), HB2.out⟩

end Go.Proofs.Ytnmlnlcbnjepkaa.core
