/-
  Proved: what the functions that measure an argument return (contracts of callees of the exact laws).
  Conditions: the argument is read out of memory.
-/
import Derived.Test.YtofgdgdmmlgmnaaShape
namespace Go.Proofs.Ytofgdgdmmlgmnaa.core
open Go.ChangeShapes Go.WideShapes Go.ChangeAt Go.RowKit Go.Joins
set_option linter.unusedVariables false
set_option linter.unusedSimpArgs false

set_option maxRecDepth 100000 in
set_option maxHeartbeats 2000000 in
theorem szPointS_calls (A : Option Addr) (n c : Nat) (f : Nat → Nat → Dat) (l : Int) (w : World) (hl : 0 ≤ l) (hl2 : l ≤ 1048576) (hm : n ≤ maxLen) (hr : RowsAt w A n 3 f) (ht : tyPointS (.sl n 3 f)) :
    Calls Try.prog 58 #[.slice A n c, .int .i64 l] w fun e w' => e = .returned (.int .i64 (left l (cost (.sl n 3 f)))) ∧ Below w.heap.size w w' := by
  have HR := Lib.hid hr
  have HT := Lib.hid (tyPointS_at ht)
  clear hr ht
  have hm' : n ≤ 9223372036854775807 := by unfold maxLen at hm; omega
  clear hm
  have HE := Lib.hid (show cost (.sl n 3 f) = n from cost_flat fun i j hi hj => by
    obtain ⟨⟨x0, e0⟩, ⟨x1, e1⟩, ⟨x2, e2⟩⟩ := HT.out i hi
    rcases (by omega : j = 0 ∨ j = 1 ∨ j = 2) with rfl | rfl | rfl
    · simp only [e0, cost]
    · simp only [e1, cost]
    · simp only [e2, cost]
    )
  rw [HE.out]
  clear HE
  by_cases h0 : (n : Int) ≤ l
  · have h0' : ¬ (l - (n : Int) < 0) := by omega
    go_enter Try.func58, Try.ntmps58
    go_wp2
    go_ret
    exact ⟨ret_int (left_yes' (by omega) rfl), Below.refl _ _⟩
  · have h0' : l - (n : Int) < 0 := by omega
    go_enter Try.func58, Try.ntmps58
    go_wp2
    go_ret
    exact ⟨ret_int (left_no' (by omega)), Below.refl _ _⟩

set_option maxRecDepth 100000 in
set_option maxHeartbeats 2000000 in
theorem szStroke_calls (A0 : Option Addr) (n0 c0 : Nat) (f0 : Nat → Nat → Dat) (l : Int) (w : World) (hl : 0 ≤ l) (hl2 : l ≤ 1048576) (hm0 : n0 ≤ maxLen) (hr0 : RowsAt w A0 n0 3 f0) (ht0 : tyPointS (.sl n0 3 f0)) :
    Calls Try.prog 33 #[.agg #[.slice A0 n0 c0], .int .i64 l] w fun e w' => e = .returned (.int .i64 (left l (cost (.sl n0 3 f0)))) ∧ Below w.heap.size w w' := by
  have HR0 := Lib.hid hr0
  have HT0 := Lib.hid ht0
  clear hr0 ht0
  go_enter Try.func33, Try.ntmps33
  go_wp2_with fail
  refine (szPointS_calls A0 n0 c0 f0 _ _ (by omega) (by omega) hm0 (HR0.out.below (below_alloc1 w (.cells #[.slice A0 n0 c0] 52))) HT0.out).mono ?_
  rintro e w0 ⟨rfl, hb⟩
  have HB0 := Lib.hid ((below_alloc1 w (.cells #[.slice A0 n0 c0] 52)).trans (hb.mono (below_alloc1 w (.cells #[.slice A0 n0 c0] 52)).size))
  have lz0 : w.heap.size < w0.heap.size := by have := hb.size; (try simp at this); omega
  have d0_0 := (hb.cell (p := ⟨w.heap.size, 0, none⟩) (by simp)).trans (show _ = some (.slice A0 n0 c0) by simp)
  clear hb
  by_cases h0 : (((cost (.sl n0 3 f0)) : Nat) : Int) ≤ l
  rotate_left
  · rw [left_no h0]
    go_wp2
    go_ret
    exact ⟨ret_int (left_no' (by omega)), HB0.out⟩
  rw [left_yes h0]
  have h0' : ¬ (l - (((cost (.sl n0 3 f0)) : Nat) : Int) < 0) := by omega
  go_wp2
  go_ret
  exact ⟨ret_int (left_yes' (by omega) (by omega)), HB0.out⟩

set_option maxRecDepth 100000 in
set_option maxHeartbeats 2000000 in
theorem szStrokeS_calls (A : Option Addr) (n c : Nat) (f : Nat → Nat → Dat) (l : Int) (w : World) (hl : 0 ≤ l) (hl2 : l ≤ 1048576) (hm : n ≤ maxLen) (hr : RowsAt w A n 1 f) (ht : tyStrokeS (.sl n 1 f)) :
    Calls Try.prog 65 #[.slice A n c, .int .i64 l] w fun e w' => e = .returned (.int .i64 (left l (cost (.sl n 1 f)))) ∧ Below w.heap.size w w' := by
  have HR := Lib.hid hr
  have HT := Lib.hid (tyStrokeS_at ht)
  clear hr ht
  have hm' : n ≤ 9223372036854775807 := by unfold maxLen at hm; omega
  clear hm
  by_cases h0 : (n : Int) ≤ l
  · have h0' : ¬ (l - (n : Int) < 0) := by omega
    go_enter Try.func65, Try.ntmps65
    go_wp2
    go_loopw [5, 1] (fun i a w' => ∃ (m : Nat) (z : Int), m ≤ n ∧ 0 ≤ z ∧ z ≤ 1048576 ∧ i = .int .i64 (m : Int) ∧ a = .int .i64 z ∧ Hid (z = l - (n : Int) - ((sumTo (fun a => sumTo (fun j => cost (f a j)) 1) m : Nat) : Int)) ∧ Hid (Below w.heap.size w w')) (fun i _ _ => n - (intOf i).toNat)
    case atStart => exact ⟨0, l - (n : Int), Nat.zero_le _, by omega, by omega, rfl, rfl, Lib.hid (by simp [sumTo]), Lib.hid (Below.refl _ _)⟩
    case round =>
      obtain ⟨m, z, hm, hz0, hz1, rfl, rfl, HZ, HB⟩ := hrel
      by_cases hlt : m < n
      · obtain ⟨b, o, rfl, hbl, hj⟩ := HR.out m hlt
        have hT := HT.out m hlt
        have HS := Lib.hid (sumTo_lt (fun a => sumTo (fun j => cost (f a j)) 1) hlt)
        have ht0 := hT
        have HT0 := Lib.hid ht0
        obtain ⟨n0, f0, e0, -⟩ := ht0
        rw [e0] at HT0
        obtain ⟨u0, q0, r0⟩ := hj 0 (by omega)
        rw [e0] at r0
        obtain ⟨A0, c0, rfl, hm0, hr0⟩ := r0.sl_inv
        have HR0 := Lib.hid (hr0.below HB.out)
        clear hr0
        replace q0 := (HB.out.cell (p := ⟨b, o + m * 1 + 0, none⟩) hbl).trans q0
        clear r0
        simp only [Nat.add_zero, Nat.mul_one] at q0
        clear hj
        have HC := Lib.hid (show sumTo (fun j => cost (f m j)) 1 = cost (.sl n0 3 f0) by simp only [sumTo, e0, cost] <;> omega)
        clear e0
        have hli : (m : Int) < (n : Int) := by omega
        go_wp2_with fail
        refine (szStroke_calls A0 n0 c0 f0 _ _ (by omega) (by omega) hm0 HR0.out HT0.out).mono ?_
        rintro e w2 ⟨rfl, hb2⟩
        have HB2 := Lib.hid (HB.out.trans (hb2.mono HB.out.size))
        clear hb2 q0
        by_cases h1 : (((cost (.sl n0 3 f0)) : Nat) : Int) ≤ z
        rotate_left
        · rw [left_no h1]
          go_wp2
          go_ret
          exact ⟨ret_int (left_no' (by have := HZ.out; have := HS.out; have := HC.out; simp only [cost] at *; omega)), HB2.out⟩
        rw [left_yes h1]
        obtain ⟨z', hz'⟩ : ∃ z', z' = z - (((cost (.sl n0 3 f0)) : Nat) : Int) := ⟨_, rfl⟩
        rw [← hz']
        have HZ2 := Lib.hid (show z' = l - (n : Int) - ((sumTo (fun a => sumTo (fun j => cost (f a j)) 1) (m + 1) : Nat) : Int) by have := HZ.out; have := HC.out; simp only [sumTo] at *; omega)
        have hz2 : 0 ≤ z' := by omega
        have hz3 : z' ≤ 1048576 := by omega
        have hz4 : ¬ (z' < 0) := by omega
        clear hz'
        go_wp2
        go_roundw
        case rel => exact ⟨m + 1, z', by omega, hz2, hz3, by go_num, rfl, HZ2, HB2⟩
        case measure => simp [intOf]; omega
      · obtain rfl : m = n := by omega
        go_wp2
        go_ret
        exact ⟨ret_int (left_yes' (by have := HZ.out; simp only [cost]; omega) (by have := HZ.out; simp only [cost]; omega)), HB.out⟩
  · have h0' : l - (n : Int) < 0 := by omega
    go_enter Try.func65, Try.ntmps65
    go_wp2
    go_ret
    exact ⟨ret_int (left_no' (by simp only [cost]; omega)), Below.refl _ _⟩

set_option maxRecDepth 100000 in
set_option maxHeartbeats 2000000 in
theorem szInk_calls (A0 : Option Addr) (n0 c0 : Nat) (f0 : Nat → Nat → Dat) (l : Int) (w : World) (hl : 0 ≤ l) (hl2 : l ≤ 1048576) (hm0 : n0 ≤ maxLen) (hr0 : RowsAt w A0 n0 1 f0) (ht0 : tyStrokeS (.sl n0 1 f0)) :
    Calls Try.prog 38 #[.agg #[.slice A0 n0 c0], .int .i64 l] w fun e w' => e = .returned (.int .i64 (left l (cost (.sl n0 1 f0)))) ∧ Below w.heap.size w w' := by
  have HR0 := Lib.hid hr0
  have HT0 := Lib.hid ht0
  clear hr0 ht0
  go_enter Try.func38, Try.ntmps38
  go_wp2_with fail
  refine (szStrokeS_calls A0 n0 c0 f0 _ _ (by omega) (by omega) hm0 (HR0.out.below (below_alloc1 w (.cells #[.slice A0 n0 c0] 63))) HT0.out).mono ?_
  rintro e w0 ⟨rfl, hb⟩
  have HB0 := Lib.hid ((below_alloc1 w (.cells #[.slice A0 n0 c0] 63)).trans (hb.mono (below_alloc1 w (.cells #[.slice A0 n0 c0] 63)).size))
  have lz0 : w.heap.size < w0.heap.size := by have := hb.size; (try simp at this); omega
  have d0_0 := (hb.cell (p := ⟨w.heap.size, 0, none⟩) (by simp)).trans (show _ = some (.slice A0 n0 c0) by simp)
  clear hb
  by_cases h0 : (((cost (.sl n0 1 f0)) : Nat) : Int) ≤ l
  rotate_left
  · rw [left_no h0]
    go_wp2
    go_ret
    exact ⟨ret_int (left_no' (by omega)), HB0.out⟩
  rw [left_yes h0]
  have h0' : ¬ (l - (((cost (.sl n0 1 f0)) : Nat) : Int) < 0) := by omega
  go_wp2
  go_ret
  exact ⟨ret_int (left_yes' (by omega) (by omega)), HB0.out⟩

set_option maxRecDepth 100000 in
set_option maxHeartbeats 2000000 in
theorem szHyp_calls (s0 : ByteArray) (x1 : Int) (l : Int) (w : World) (hl : 0 ≤ l) (hl2 : l ≤ 1048576) (hs0 : s0.size ≤ maxLen) :
    Calls Try.prog 45 #[.agg #[.string s0, .int .i64 x1], .int .i64 l] w fun e w' => e = .returned (.int .i64 (left l (s0.size))) ∧ Below w.heap.size w w' := by
  have hS0 : s0.size ≤ 9223372036854775807 := by unfold maxLen at hs0; omega
  go_enter Try.func45, Try.ntmps45
  by_cases h0 : (s0.size : Int) ≤ l
  rotate_left
  · have h0' : l - (s0.size : Int) < 0 := by omega
    go_wp2
    go_ret
    exact ⟨ret_int (left_no' (by omega)), below_alloc1 _ _⟩
  have h0' : ¬ (l - (s0.size : Int) < 0) := by omega
  go_wp2
  go_ret
  exact ⟨ret_int (left_yes' (by omega) (by omega)), below_alloc1 _ _⟩

set_option maxRecDepth 100000 in
set_option maxHeartbeats 2000000 in
theorem szHypS_calls (A : Option Addr) (n c : Nat) (f : Nat → Nat → Dat) (l : Int) (w : World) (hl : 0 ≤ l) (hl2 : l ≤ 1048576) (hm : n ≤ maxLen) (hr : RowsAt w A n 2 f) (ht : tyHypS (.sl n 2 f)) :
    Calls Try.prog 15 #[.slice A n c, .int .i64 l] w fun e w' => e = .returned (.int .i64 (left l (cost (.sl n 2 f)))) ∧ Below w.heap.size w w' := by
  have HR := Lib.hid hr
  have HT := Lib.hid (tyHypS_at ht)
  clear hr ht
  have hm' : n ≤ 9223372036854775807 := by unfold maxLen at hm; omega
  clear hm
  by_cases h0 : (n : Int) ≤ l
  · have h0' : ¬ (l - (n : Int) < 0) := by omega
    go_enter Try.func15, Try.ntmps15
    go_wp2
    go_loopw [5, 1] (fun i a w' => ∃ (m : Nat) (z : Int), m ≤ n ∧ 0 ≤ z ∧ z ≤ 1048576 ∧ i = .int .i64 (m : Int) ∧ a = .int .i64 z ∧ Hid (z = l - (n : Int) - ((sumTo (fun a => sumTo (fun j => cost (f a j)) 2) m : Nat) : Int)) ∧ Hid (Below w.heap.size w w')) (fun i _ _ => n - (intOf i).toNat)
    case atStart => exact ⟨0, l - (n : Int), Nat.zero_le _, by omega, by omega, rfl, rfl, Lib.hid (by simp [sumTo]), Lib.hid (Below.refl _ _)⟩
    case round =>
      obtain ⟨m, z, hm, hz0, hz1, rfl, rfl, HZ, HB⟩ := hrel
      by_cases hlt : m < n
      · obtain ⟨b, o, rfl, hbl, hj⟩ := HR.out m hlt
        have hT := HT.out m hlt
        have HS := Lib.hid (sumTo_lt (fun a => sumTo (fun j => cost (f a j)) 2) hlt)
        obtain ⟨⟨s0, e0⟩, ⟨x1, e1⟩⟩ := hT
        obtain ⟨u0, q0, r0⟩ := hj 0 (by omega)
        rw [e0] at r0
        obtain ⟨rfl, hs0⟩ := r0.str_inv
        have hS0 : s0.size ≤ 9223372036854775807 := by unfold maxLen at hs0; omega
        replace q0 := (HB.out.cell (p := ⟨b, o + m * 2 + 0, none⟩) hbl).trans q0
        clear r0
        simp only [Nat.add_zero, Nat.mul_one] at q0
        obtain ⟨u1, q1, r1⟩ := hj 1 (by omega)
        rw [e1] at r1
        obtain ⟨rfl, hi1⟩ := r1.int_inv
        replace q1 := (HB.out.cell (p := ⟨b, o + m * 2 + 1, none⟩) hbl).trans q1
        clear r1
        clear hj
        have HC := Lib.hid (show sumTo (fun j => cost (f m j)) 2 = s0.size by simp only [sumTo, e0, e1, cost] <;> omega)
        clear e0 e1
        have hli : (m : Int) < (n : Int) := by omega
        go_wp2_with fail
        refine (szHyp_calls s0 x1 _ _ (by omega) (by omega) hs0).mono ?_
        rintro e w2 ⟨rfl, hb2⟩
        have HB2 := Lib.hid (HB.out.trans (hb2.mono HB.out.size))
        clear hb2 q0 q1
        by_cases h1 : (((s0.size) : Nat) : Int) ≤ z
        rotate_left
        · rw [left_no h1]
          go_wp2
          go_ret
          exact ⟨ret_int (left_no' (by have := HZ.out; have := HS.out; have := HC.out; simp only [cost] at *; omega)), HB2.out⟩
        rw [left_yes h1]
        obtain ⟨z', hz'⟩ : ∃ z', z' = z - (((s0.size) : Nat) : Int) := ⟨_, rfl⟩
        rw [← hz']
        have HZ2 := Lib.hid (show z' = l - (n : Int) - ((sumTo (fun a => sumTo (fun j => cost (f a j)) 2) (m + 1) : Nat) : Int) by have := HZ.out; have := HC.out; simp only [sumTo] at *; omega)
        have hz2 : 0 ≤ z' := by omega
        have hz3 : z' ≤ 1048576 := by omega
        have hz4 : ¬ (z' < 0) := by omega
        clear hz'
        go_wp2
        go_roundw
        case rel => exact ⟨m + 1, z', by omega, hz2, hz3, by go_num, rfl, HZ2, HB2⟩
        case measure => simp [intOf]; omega
      · obtain rfl : m = n := by omega
        go_wp2
        go_ret
        exact ⟨ret_int (left_yes' (by have := HZ.out; simp only [cost]; omega) (by have := HZ.out; simp only [cost]; omega)), HB.out⟩
  · have h0' : l - (n : Int) < 0 := by omega
    go_enter Try.func15, Try.ntmps15
    go_wp2
    go_ret
    exact ⟨ret_int (left_no' (by simp only [cost]; omega)), Below.refl _ _⟩

end Go.Proofs.Ytofgdgdmmlgmnaa.core
