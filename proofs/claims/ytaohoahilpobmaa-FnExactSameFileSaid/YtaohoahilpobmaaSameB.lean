/-
  Proved: both functions that compare files answer alike (contracts of the exact laws of chapter 3).
  Conditions: the files are read out of memory.
-/
import Derived.Test.YtaohoahilpobmaaSameA
namespace Go.Proofs.Ytaohoahilpobmaa.same
open Go.ChangeShapes Go.WideShapes Go.ChangeAt Go.RowKit Go.Joins
open Go.Proofs.Ytaohoahilpobmaa.core Go.Proofs.Ytaohoahilpobmaa.names Go.Proofs.Ytaohoahilpobmaa.fileS
set_option linter.unusedVariables false
set_option linter.unusedSimpArgs false


set_option maxRecDepth 100000 in
set_option maxHeartbeats 4000000 in
theorem rowsS_calls (A A' : Option Addr) (n c n' c' : Nat) (f f' : Nat → Nat → Dat) (w : World) (hn : n ≤ maxLen) (hn' : n' ≤ maxLen) (hr : RowsAt w A n 1 f) (ht : tyInt64SS (.sl n 1 f)) (hr' : RowsAt w A' n' 1 f') (ht' : tyInt64SS (.sl n' 1 f')) (v : Bool) (hv : tf (RowsEq n f n' f') = v) :
    Calls Try.prog 112 #[.slice A n c, .slice A' n' c'] w fun e w' => e = .returned (.bool v) ∧ Below w.heap.size w w' := by
  have m1 : n ≤ 9223372036854775807 := by unfold maxLen at hn; omega
  have m2 : n' ≤ 9223372036854775807 := by unfold maxLen at hn'; omega
  have HR := Lib.hid (fun (W : World) (hB : Below w.heap.size w W) => viewInt64SS (hr.below hB) ht)
  have HS := Lib.hid (fun (W : World) (hB : Below w.heap.size w W) => viewInt64SS (hr'.below hB) ht')
  clear hr hr' ht ht' hn hn'
  subst hv
  have hmix := mixedR
  by_cases hnn : n = n'
  · subst hnn
    go_enter Try.func112, Try.ntmps112
    go_wp2
    go_loopw [5] (fun i w' => ∃ k : Nat, k ≤ n ∧ i = .int .i64 k ∧ Hid (∀ j, j < k → RowEq (dLen (f j 0)) (dFun (f j 0)) (dLen (f' j 0)) (dFun (f' j 0))) ∧ Hid (Below w.heap.size w w')) (fun i _ => n - (intOf i).toNat)
    case atStart => exact ⟨0, Nat.zero_le _, rfl, Lib.hid all_zero, Lib.hid (Below.refl _ _)⟩
    case round =>
      obtain ⟨k, hk, rfl, HA, HB⟩ := hrel
      by_cases hlt : k < n
      · obtain ⟨b1, o1, rfl, hl1, ⟨B1, d1, q0, z1, ra, ta⟩⟩ := HR.out wr HB.out k hlt
        obtain ⟨b2, o2, rfl, hl2, ⟨B2, d2, p0, z2, rb, tb⟩⟩ := HS.out wr HB.out k hlt
        have hli : (k : Int) < (n : Int) := by omega
        have RA := Lib.hid ra
        have TA := Lib.hid ta
        have RB := Lib.hid rb
        have TB := Lib.hid tb
        clear ra ta rb tb
        by_cases hxy : RowEq (dLen (f k 0)) (dFun (f k 0)) (dLen (f' k 0)) (dFun (f' k 0))
        · skip
          have HA2 := Lib.hid (all_step HA.out hxy)
          have H1 := Lib.hid (tf_t hxy)
          clear hxy
          generalize dLen (f k 0) = m1 at *
          generalize dFun (f k 0) = g1 at *
          generalize dLen (f' k 0) = m2 at *
          generalize dFun (f' k 0) = g2 at *
          replace q0 := cell_kept hl1 q0
          replace p0 := cell_kept hl2 p0
          go_wp2
          refine wp_region_quiet_kept (by assumption) (by kernel_rfl) ?_
          repeat (first | go_big_quiet_step ((go_at_call 145; exact Calls.kept_of (intsS_calls B1 B2 m1 d1 m2 d2 g1 g2 _ z1 z2 (RA.out.below (Kept.below _)) TA.out (RB.out.below (Kept.below _)) TB.out true H1.out))) | quiet_step ((go_at_call 145; exact Calls.kept_of (intsS_calls B1 B2 m1 d1 m2 d2 g1 g2 _ z1 z2 (RA.out.below (Kept.below _)) TA.out (RB.out.below (Kept.below _)) TB.out true H1.out))))
          refine wpQuiet_nil ?_
          intro w2 hw'
          have hB : Below wr.heap.size wr w2 := by obtain ⟨⟨wk, hb0⟩, hw''⟩ := hw'; rw [hw'']; exact hb0
          have HB2 := Lib.hid (HB.out.trans (hB.mono HB.out.size))
          clear hw' hB q0 p0
          go_wp2
          go_roundw
          case rel => exact ⟨k + 1, by omega, by go_num, HA2, HB2⟩
          case measure => simp [intOf]; omega
        · skip
          have HF := Lib.hid (tf_f (P := RowsEq n f n f') fun h => hxy (h.2 k hlt))
          have H1 := Lib.hid (tf_f hxy)
          clear hxy
          generalize dLen (f k 0) = m1 at *
          generalize dFun (f k 0) = g1 at *
          generalize dLen (f' k 0) = m2 at *
          generalize dFun (f' k 0) = g2 at *
          replace q0 := cell_kept hl1 q0
          replace p0 := cell_kept hl2 p0
          go_wp2
          refine wp_region_quiet_kept (by assumption) (by kernel_rfl) ?_
          repeat (first | go_big_quiet_step ((go_at_call 145; exact Calls.kept_of (intsS_calls B1 B2 m1 d1 m2 d2 g1 g2 _ z1 z2 (RA.out.below (Kept.below _)) TA.out (RB.out.below (Kept.below _)) TB.out false H1.out))) | quiet_step ((go_at_call 145; exact Calls.kept_of (intsS_calls B1 B2 m1 d1 m2 d2 g1 g2 _ z1 z2 (RA.out.below (Kept.below _)) TA.out (RB.out.below (Kept.below _)) TB.out false H1.out))))
          refine wpQuiet_nil ?_
          intro w2 hw'
          have hB : Below wr.heap.size wr w2 := by obtain ⟨⟨wk, hb0⟩, hw''⟩ := hw'; rw [hw'']; exact hb0
          have HB2 := Lib.hid (HB.out.trans (hB.mono HB.out.size))
          clear hw' hB q0 p0
          go_wp2
          go_ret
          exact ⟨ret_bool HF.out.symm, HB2.out⟩
      · obtain rfl : n = k := by omega
        have HF := Lib.hid (tf_t (P := RowsEq n f n f') ⟨rfl, HA.out⟩)
        go_wp2
        go_ret
        exact ⟨ret_bool HF.out.symm, HB.out⟩
  · have HF := Lib.hid (tf_f (P := RowsEq n f n' f') fun h => hnn h.1)
    have e1 : ((n : Int) != (n' : Int)) = true := by simp; omega
    have e2 : ¬ (n : Int) = (n' : Int) := by omega
    go_enter Try.func112, Try.ntmps112
    go_wp2
    go_ret
    exact ⟨ret_bool HF.out.symm, Below.refl _ _⟩

set_option maxRecDepth 100000 in
set_option maxHeartbeats 4000000 in
theorem rowsI_calls (A A' : Option Addr) (n c n' c' : Nat) (f f' : Nat → Nat → Dat) (w : World) (hn : n ≤ maxLen) (hn' : n' ≤ maxLen) (hr : RowsAt w A n 1 f) (ht : tyInt64SS (.sl n 1 f)) (hr' : RowsAt w A' n' 1 f') (ht' : tyInt64SS (.sl n' 1 f')) (v : Bool) (hv : tf (RowsEq n f n' f') = v) :
    Calls Try.prog 113 #[.slice A n c, .slice A' n' c', .func (.func 114) #[] #[]] w fun e w' => e = .returned (.bool v) ∧ Below w.heap.size w w' := by
  have m1 : n ≤ 9223372036854775807 := by unfold maxLen at hn; omega
  have m2 : n' ≤ 9223372036854775807 := by unfold maxLen at hn'; omega
  have HR := Lib.hid (fun (W : World) (hB : Below w.heap.size w W) => viewInt64SS (hr.below hB) ht)
  have HS := Lib.hid (fun (W : World) (hB : Below w.heap.size w W) => viewInt64SS (hr'.below hB) ht')
  clear hr hr' ht ht' hn hn'
  subst hv
  have hmix := mixedR
  by_cases hnn : n = n'
  · subst hnn
    go_enter Try.func113, Try.ntmps113
    go_wp2
    go_loopw [17] (fun i w' => ∃ k : Nat, k ≤ n ∧ i = .int .i64 k ∧ Hid (∀ j, j < k → RowEq (dLen (f j 0)) (dFun (f j 0)) (dLen (f' j 0)) (dFun (f' j 0))) ∧ Hid (Below w.heap.size w w')) (fun i _ => n - (intOf i).toNat)
    case atStart => exact ⟨0, Nat.zero_le _, rfl, Lib.hid all_zero, Lib.hid (Below.refl _ _)⟩
    case round =>
      obtain ⟨k, hk, rfl, HA, HB⟩ := hrel
      by_cases hlt : k < n
      · obtain ⟨b1, o1, rfl, hl1, ⟨B1, d1, q0, z1, ra, ta⟩⟩ := HR.out wr HB.out k hlt
        obtain ⟨b2, o2, rfl, hl2, ⟨B2, d2, p0, z2, rb, tb⟩⟩ := HS.out wr HB.out k hlt
        have hli : (k : Int) < (n : Int) := by omega
        have RA := Lib.hid ra
        have TA := Lib.hid ta
        have RB := Lib.hid rb
        have TB := Lib.hid tb
        clear ra ta rb tb
        by_cases hxy : RowEq (dLen (f k 0)) (dFun (f k 0)) (dLen (f' k 0)) (dFun (f' k 0))
        · skip
          have HA2 := Lib.hid (all_step HA.out hxy)
          have H1 := Lib.hid (tf_t hxy)
          clear hxy
          generalize dLen (f k 0) = m1 at *
          generalize dFun (f k 0) = g1 at *
          generalize dLen (f' k 0) = m2 at *
          generalize dFun (f' k 0) = g2 at *
          go_wp2_with fail
          refine (intsI_calls B1 B2 m1 d1 m2 d2 g1 g2 _ z1 z2 RA.out TA.out RB.out TB.out true H1.out).mono ?_
          rintro e w2 ⟨rfl, hb⟩
          have HB2 := Lib.hid (HB.out.trans (hb.mono HB.out.size))
          clear hb q0 p0
          go_wp2
          go_roundw
          case rel => exact ⟨k + 1, by omega, by go_num, HA2, HB2⟩
          case measure => simp [intOf]; omega
        · skip
          have HF := Lib.hid (tf_f (P := RowsEq n f n f') fun h => hxy (h.2 k hlt))
          have H1 := Lib.hid (tf_f hxy)
          clear hxy
          generalize dLen (f k 0) = m1 at *
          generalize dFun (f k 0) = g1 at *
          generalize dLen (f' k 0) = m2 at *
          generalize dFun (f' k 0) = g2 at *
          go_wp2_with fail
          refine (intsI_calls B1 B2 m1 d1 m2 d2 g1 g2 _ z1 z2 RA.out TA.out RB.out TB.out false H1.out).mono ?_
          rintro e w2 ⟨rfl, hb⟩
          have HB2 := Lib.hid (HB.out.trans (hb.mono HB.out.size))
          clear hb q0 p0
          go_wp2
          go_ret
          exact ⟨ret_bool HF.out.symm, HB2.out⟩
      · obtain rfl : n = k := by omega
        have HF := Lib.hid (tf_t (P := RowsEq n f n f') ⟨rfl, HA.out⟩)
        go_wp2
        go_ret
        exact ⟨ret_bool HF.out.symm, HB.out⟩
  · have HF := Lib.hid (tf_f (P := RowsEq n f n' f') fun h => hnn h.1)
    have e1 : ((n : Int) != (n' : Int)) = true := by simp; omega
    have e2 : ¬ (n : Int) = (n' : Int) := by omega
    go_enter Try.func113, Try.ntmps113
    go_wp2
    go_ret
    exact ⟨ret_bool HF.out.symm, Below.refl _ _⟩

set_option maxRecDepth 100000 in
set_option maxHeartbeats 4000000 in
theorem sameRowsI_calls (A A' : Option Addr) (n c n' c' : Nat) (f f' : Nat → Nat → Dat) (w : World) (hn : n ≤ maxLen) (hn' : n' ≤ maxLen) (hr : RowsAt w A n 1 f) (ht : tyInt64SS (.sl n 1 f)) (hr' : RowsAt w A' n' 1 f') (ht' : tyInt64SS (.sl n' 1 f')) (v : Bool) (hv : tf (RowsEq n f n' f') = v) :
    Calls Try.prog 66 #[.agg #[.slice A n c], .agg #[.slice A' n' c']] w fun e w' => e = .returned (.bool v) ∧ Below w.heap.size w w' := by
  have BL := Lib.hid (below_alloc2 w (.cells #[.slice A n c] 90) (.cells #[.slice A' n' c'] 90))
  have HH := Lib.hid (rowsI_calls A A' n c n' c' f f' _ hn hn' (hr.below BL.out) ht (hr'.below BL.out) ht' v hv)
  clear hr ht hr' ht' hv
  go_enter Try.func66, Try.ntmps66
  go_wp2_with fail
  refine HH.out.mono ?_
  rintro e w1 ⟨rfl, hb⟩
  have HB := Lib.hid (BL.out.trans (hb.mono BL.out.size))
  clear hb
  go_wp2
  go_ret
  exact ⟨rfl, HB.out⟩

set_option maxRecDepth 100000 in
set_option maxHeartbeats 4000000 in
theorem strsI_calls (A A' : Option Addr) (n c n' c' : Nat) (f f' : Nat → Nat → Dat) (w : World) (hn : n ≤ maxLen) (hn' : n' ≤ maxLen) (hr : RowsAt w A n 1 f) (ht : tyRowsS (.sl n 1 f)) (hr' : RowsAt w A' n' 1 f') (ht' : tyRowsS (.sl n' 1 f')) (v : Bool) (hv : tf (StrsEq n f n' f') = v) :
    Calls Try.prog 65 #[.slice A n c, .slice A' n' c', .func (.func 66) #[] #[]] w fun e w' => e = .returned (.bool v) ∧ Below w.heap.size w w' := by
  have m1 : n ≤ 9223372036854775807 := by unfold maxLen at hn; omega
  have m2 : n' ≤ 9223372036854775807 := by unfold maxLen at hn'; omega
  have HR := Lib.hid (fun (W : World) (hB : Below w.heap.size w W) => viewRowsS (hr.below hB) ht)
  have HS := Lib.hid (fun (W : World) (hB : Below w.heap.size w W) => viewRowsS (hr'.below hB) ht')
  clear hr hr' ht ht' hn hn'
  subst hv
  have hmix := mixedR
  by_cases hnn : n = n'
  · subst hnn
    go_enter Try.func65, Try.ntmps65
    go_wp2
    go_loopw [17] (fun i w' => ∃ k : Nat, k ≤ n ∧ i = .int .i64 k ∧ Hid (∀ j, j < k → RowsEq (dLen (f j 0)) (dFun (f j 0)) (dLen (f' j 0)) (dFun (f' j 0))) ∧ Hid (Below w.heap.size w w')) (fun i _ => n - (intOf i).toNat)
    case atStart => exact ⟨0, Nat.zero_le _, rfl, Lib.hid all_zero, Lib.hid (Below.refl _ _)⟩
    case round =>
      obtain ⟨k, hk, rfl, HA, HB⟩ := hrel
      by_cases hlt : k < n
      · obtain ⟨b1, o1, rfl, hl1, ⟨B1, d1, q0, z1, ra, ta⟩⟩ := HR.out wr HB.out k hlt
        obtain ⟨b2, o2, rfl, hl2, ⟨B2, d2, p0, z2, rb, tb⟩⟩ := HS.out wr HB.out k hlt
        have hli : (k : Int) < (n : Int) := by omega
        have RA := Lib.hid ra
        have TA := Lib.hid ta
        have RB := Lib.hid rb
        have TB := Lib.hid tb
        clear ra ta rb tb
        by_cases hxy : RowsEq (dLen (f k 0)) (dFun (f k 0)) (dLen (f' k 0)) (dFun (f' k 0))
        · skip
          have HA2 := Lib.hid (all_step HA.out hxy)
          have H1 := Lib.hid (tf_t hxy)
          clear hxy
          generalize dLen (f k 0) = m1 at *
          generalize dFun (f k 0) = g1 at *
          generalize dLen (f' k 0) = m2 at *
          generalize dFun (f' k 0) = g2 at *
          have HBB := Lib.hid (show Below w.heap.size w ((wr.alloc (.cells #[.slice B1 m1 d1] 90)).alloc (.cells #[.slice B2 m2 d2] 90)) from ((HB.out.alloc HB.out.size _).alloc (by have := HB.out.size; simp; omega) _))
          have HK := Lib.hid (below_alloc2 wr (.cells #[.slice B1 m1 d1] 90) (.cells #[.slice B2 m2 d2] 90))
          have p0' : (wr.alloc (.cells #[.slice B1 m1 d1] 90)).cell? ⟨b2, o2 + k, none⟩ = some (.slice B2 m2 d2) := (World.cell?_alloc_lt _ _ _ hl2).trans p0
          go_wp2_with fail
          refine (sameRowsI_calls B1 B2 m1 d1 m2 d2 g1 g2 _ z1 z2 (RA.out.below HK.out) TA.out (RB.out.below HK.out) TB.out true H1.out).mono ?_
          rintro e w2 ⟨rfl, hb⟩
          have HB2 := Lib.hid (HBB.out.trans (hb.mono HBB.out.size))
          clear hb q0 p0 p0'
          go_wp2
          go_roundw
          case rel => exact ⟨k + 1, by omega, by go_num, HA2, HB2⟩
          case measure => simp [intOf]; omega
        · skip
          have HF := Lib.hid (tf_f (P := StrsEq n f n f') fun h => hxy (h.2 k hlt))
          have H1 := Lib.hid (tf_f hxy)
          clear hxy
          generalize dLen (f k 0) = m1 at *
          generalize dFun (f k 0) = g1 at *
          generalize dLen (f' k 0) = m2 at *
          generalize dFun (f' k 0) = g2 at *
          have HBB := Lib.hid (show Below w.heap.size w ((wr.alloc (.cells #[.slice B1 m1 d1] 90)).alloc (.cells #[.slice B2 m2 d2] 90)) from ((HB.out.alloc HB.out.size _).alloc (by have := HB.out.size; simp; omega) _))
          have HK := Lib.hid (below_alloc2 wr (.cells #[.slice B1 m1 d1] 90) (.cells #[.slice B2 m2 d2] 90))
          have p0' : (wr.alloc (.cells #[.slice B1 m1 d1] 90)).cell? ⟨b2, o2 + k, none⟩ = some (.slice B2 m2 d2) := (World.cell?_alloc_lt _ _ _ hl2).trans p0
          go_wp2_with fail
          refine (sameRowsI_calls B1 B2 m1 d1 m2 d2 g1 g2 _ z1 z2 (RA.out.below HK.out) TA.out (RB.out.below HK.out) TB.out false H1.out).mono ?_
          rintro e w2 ⟨rfl, hb⟩
          have HB2 := Lib.hid (HBB.out.trans (hb.mono HBB.out.size))
          clear hb q0 p0 p0'
          go_wp2
          go_ret
          exact ⟨ret_bool HF.out.symm, HB2.out⟩
      · obtain rfl : n = k := by omega
        have HF := Lib.hid (tf_t (P := StrsEq n f n f') ⟨rfl, HA.out⟩)
        go_wp2
        go_ret
        exact ⟨ret_bool HF.out.symm, HB.out⟩
  · have HF := Lib.hid (tf_f (P := StrsEq n f n' f') fun h => hnn h.1)
    have e1 : ((n : Int) != (n' : Int)) = true := by simp; omega
    have e2 : ¬ (n : Int) = (n' : Int) := by omega
    go_enter Try.func65, Try.ntmps65
    go_wp2
    go_ret
    exact ⟨ret_bool HF.out.symm, Below.refl _ _⟩

set_option maxRecDepth 100000 in
set_option maxHeartbeats 4000000 in
theorem chansI_calls (A A' : Option Addr) (n c n' c' : Nat) (f f' : Nat → Nat → Dat) (w : World) (hn : n ≤ maxLen) (hn' : n' ≤ maxLen) (hr : RowsAt w A n 4 f) (ht : tyChannelS (.sl n 4 f)) (hr' : RowsAt w A' n' 4 f') (ht' : tyChannelS (.sl n' 4 f')) (v : Bool) (hv : tf (ChansEq n f n' f') = v) :
    Calls Try.prog 64 #[.slice A n c, .slice A' n' c'] w fun e w' => e = .returned (.bool v) ∧ Below w.heap.size w w' := by
  have m1 : n ≤ 9223372036854775807 := by unfold maxLen at hn; omega
  have m2 : n' ≤ 9223372036854775807 := by unfold maxLen at hn'; omega
  have HR := Lib.hid (fun (W : World) (hB : Below w.heap.size w W) => viewChannelS (hr.below hB) ht)
  have HS := Lib.hid (fun (W : World) (hB : Below w.heap.size w W) => viewChannelS (hr'.below hB) ht')
  clear hr hr' ht ht' hn hn'
  subst hv
  have hmix := mixedR
  by_cases hnn : n = n'
  · subst hnn
    go_enter Try.func64, Try.ntmps64
    go_wp2
    go_loopw [13] (fun i w' => ∃ k : Nat, k ≤ n ∧ i = .int .i64 k ∧ Hid (∀ j, j < k → ChEq (dStr (f j 0)) (dStr (f j 1)) (dInt (f j 2)) (dInt (f j 3)) (dStr (f' j 0)) (dStr (f' j 1)) (dInt (f' j 2)) (dInt (f' j 3))) ∧ Hid (Below w.heap.size w w')) (fun i _ => n - (intOf i).toNat)
    case atStart => exact ⟨0, Nat.zero_le _, rfl, Lib.hid all_zero, Lib.hid (Below.refl _ _)⟩
    case round =>
      obtain ⟨k, hk, rfl, HA, HB⟩ := hrel
      by_cases hlt : k < n
      · obtain ⟨b1, o1, rfl, hl1, ⟨q0, -⟩, ⟨q1, -⟩, ⟨q2, -⟩, ⟨q3, -⟩⟩ := HR.out wr HB.out k hlt
        obtain ⟨b2, o2, rfl, hl2, ⟨p0, -⟩, ⟨p1, -⟩, ⟨p2, -⟩, ⟨p3, -⟩⟩ := HS.out wr HB.out k hlt
        have hli : (k : Int) < (n : Int) := by omega
        replace q0 := cell_kept hl1 q0
        replace p0 := cell_kept hl2 p0
        replace q1 := cell_kept hl1 q1
        replace p1 := cell_kept hl2 p1
        replace q2 := cell_kept hl1 q2
        replace p2 := cell_kept hl2 p2
        replace q3 := cell_kept hl1 q3
        replace p3 := cell_kept hl2 p3
        generalize hx0 : dStr (f k 0) = x0 at *
        generalize hy0 : dStr (f' k 0) = y0 at *
        generalize hx1 : dStr (f k 1) = x1 at *
        generalize hy1 : dStr (f' k 1) = y1 at *
        generalize hx2 : dInt (f k 2) = x2 at *
        generalize hy2 : dInt (f' k 2) = y2 at *
        generalize hx3 : dInt (f k 3) = x3 at *
        generalize hy3 : dInt (f' k 3) = y3 at *
        have HXY := Lib.hid (show ChEq (dStr (f k 0)) (dStr (f k 1)) (dInt (f k 2)) (dInt (f k 3)) (dStr (f' k 0)) (dStr (f' k 1)) (dInt (f' k 2)) (dInt (f' k 3)) ↔ ChEq x0 x1 x2 x3 y0 y1 y2 y3 by rw [hx0, hy0, hx1, hy1, hx2, hy2, hx3, hy3])
        clear hx0 hy0 hx1 hy1 hx2 hy2 hx3 hy3
        by_cases hxy : ChEq x0 x1 x2 x3 y0 y1 y2 y3
        · skip
          have HA2 := Lib.hid (all_step HA.out (HXY.out.2 hxy))
          have hE := eqC x0 x1 x2 x3 y0 y1 y2 y3
          rw [tf_t hxy] at hE
          have hgd := guardC
          clear hxy HXY
          go_wp2
          refine wp_region_quiet_kept (by assumption) (by kernel_rfl) ?_
          repeat (first | go_big_quiet_step (fail) | quiet_step (fail))
          refine wpQuiet_nil ?_
          intro w2 hw'
          have hB : Below wr.heap.size wr w2 := by obtain ⟨⟨wk, hb0⟩, hw''⟩ := hw'; rw [hw'']; exact hb0
          have HB2 := Lib.hid (HB.out.trans (hB.mono HB.out.size))
          clear hw' hB hE hgd q0 p0 q1 p1 q2 p2 q3 p3
          go_wp2
          go_roundw
          case rel => exact ⟨k + 1, by omega, by go_num, HA2, HB2⟩
          case measure => simp [intOf]; omega
        · skip
          have HF := Lib.hid (tf_f (P := ChansEq n f n f') fun h => hxy (HXY.out.1 (h.2 k hlt)))
          have hE := eqC x0 x1 x2 x3 y0 y1 y2 y3
          rw [tf_f hxy] at hE
          have hgd := guardC
          clear hxy HXY
          go_wp2
          refine wp_region_quiet_kept (by assumption) (by kernel_rfl) ?_
          repeat (first | go_big_quiet_step (fail) | quiet_step (fail))
          refine wpQuiet_nil ?_
          intro w2 hw'
          have hB : Below wr.heap.size wr w2 := by obtain ⟨⟨wk, hb0⟩, hw''⟩ := hw'; rw [hw'']; exact hb0
          have HB2 := Lib.hid (HB.out.trans (hB.mono HB.out.size))
          clear hw' hB hE hgd q0 p0 q1 p1 q2 p2 q3 p3
          go_wp2
          go_ret
          exact ⟨ret_bool HF.out.symm, HB2.out⟩
      · obtain rfl : n = k := by omega
        have HF := Lib.hid (tf_t (P := ChansEq n f n f') ⟨rfl, HA.out⟩)
        go_wp2
        go_ret
        exact ⟨ret_bool HF.out.symm, HB.out⟩
  · have HF := Lib.hid (tf_f (P := ChansEq n f n' f') fun h => hnn h.1)
    have e1 : ((n : Int) != (n' : Int)) = true := by simp; omega
    have e2 : ¬ (n : Int) = (n' : Int) := by omega
    go_enter Try.func64, Try.ntmps64
    go_wp2
    go_ret
    exact ⟨ret_bool HF.out.symm, Below.refl _ _⟩

set_option maxRecDepth 100000 in
set_option maxHeartbeats 4000000 in
theorem notesI_calls (A A' : Option Addr) (n c n' c' : Nat) (f f' : Nat → Nat → Dat) (w : World) (hn : n ≤ maxLen) (hn' : n' ≤ maxLen) (hr : RowsAt w A n 3 f) (ht : tyNoteS (.sl n 3 f)) (hr' : RowsAt w A' n' 3 f') (ht' : tyNoteS (.sl n' 3 f')) (v : Bool) (hv : tf (NotesEq n f n' f') = v) :
    Calls Try.prog 67 #[.slice A n c, .slice A' n' c'] w fun e w' => e = .returned (.bool v) ∧ Below w.heap.size w w' := by
  have m1 : n ≤ 9223372036854775807 := by unfold maxLen at hn; omega
  have m2 : n' ≤ 9223372036854775807 := by unfold maxLen at hn'; omega
  have HR := Lib.hid (fun (W : World) (hB : Below w.heap.size w W) => viewNoteS (hr.below hB) ht)
  have HS := Lib.hid (fun (W : World) (hB : Below w.heap.size w W) => viewNoteS (hr'.below hB) ht')
  clear hr hr' ht ht' hn hn'
  subst hv
  have hmix := mixedR
  by_cases hnn : n = n'
  · subst hnn
    go_enter Try.func67, Try.ntmps67
    go_wp2
    go_loopw [13] (fun i w' => ∃ k : Nat, k ≤ n ∧ i = .int .i64 k ∧ Hid (∀ j, j < k → NtEq (dInt (f j 0)) (dInt (f j 1)) (dStr (f j 2)) (dInt (f' j 0)) (dInt (f' j 1)) (dStr (f' j 2))) ∧ Hid (Below w.heap.size w w')) (fun i _ => n - (intOf i).toNat)
    case atStart => exact ⟨0, Nat.zero_le _, rfl, Lib.hid all_zero, Lib.hid (Below.refl _ _)⟩
    case round =>
      obtain ⟨k, hk, rfl, HA, HB⟩ := hrel
      by_cases hlt : k < n
      · obtain ⟨b1, o1, rfl, hl1, ⟨q0, -⟩, ⟨q1, -⟩, ⟨q2, -⟩⟩ := HR.out wr HB.out k hlt
        obtain ⟨b2, o2, rfl, hl2, ⟨p0, -⟩, ⟨p1, -⟩, ⟨p2, -⟩⟩ := HS.out wr HB.out k hlt
        have hli : (k : Int) < (n : Int) := by omega
        replace q0 := cell_kept hl1 q0
        replace p0 := cell_kept hl2 p0
        replace q1 := cell_kept hl1 q1
        replace p1 := cell_kept hl2 p1
        replace q2 := cell_kept hl1 q2
        replace p2 := cell_kept hl2 p2
        generalize hx0 : dInt (f k 0) = x0 at *
        generalize hy0 : dInt (f' k 0) = y0 at *
        generalize hx1 : dInt (f k 1) = x1 at *
        generalize hy1 : dInt (f' k 1) = y1 at *
        generalize hx2 : dStr (f k 2) = x2 at *
        generalize hy2 : dStr (f' k 2) = y2 at *
        have HXY := Lib.hid (show NtEq (dInt (f k 0)) (dInt (f k 1)) (dStr (f k 2)) (dInt (f' k 0)) (dInt (f' k 1)) (dStr (f' k 2)) ↔ NtEq x0 x1 x2 y0 y1 y2 by rw [hx0, hy0, hx1, hy1, hx2, hy2])
        clear hx0 hy0 hx1 hy1 hx2 hy2
        by_cases hxy : NtEq x0 x1 x2 y0 y1 y2
        · skip
          have HA2 := Lib.hid (all_step HA.out (HXY.out.2 hxy))
          have hE := eqN x0 x1 x2 y0 y1 y2
          rw [tf_t hxy] at hE
          have hgd := guardN
          clear hxy HXY
          go_wp2
          refine wp_region_quiet_kept (by assumption) (by kernel_rfl) ?_
          repeat (first | go_big_quiet_step (fail) | quiet_step (fail))
          refine wpQuiet_nil ?_
          intro w2 hw'
          have hB : Below wr.heap.size wr w2 := by obtain ⟨⟨wk, hb0⟩, hw''⟩ := hw'; rw [hw'']; exact hb0
          have HB2 := Lib.hid (HB.out.trans (hB.mono HB.out.size))
          clear hw' hB hE hgd q0 p0 q1 p1 q2 p2
          go_wp2
          go_roundw
          case rel => exact ⟨k + 1, by omega, by go_num, HA2, HB2⟩
          case measure => simp [intOf]; omega
        · skip
          have HF := Lib.hid (tf_f (P := NotesEq n f n f') fun h => hxy (HXY.out.1 (h.2 k hlt)))
          have hE := eqN x0 x1 x2 y0 y1 y2
          rw [tf_f hxy] at hE
          have hgd := guardN
          clear hxy HXY
          go_wp2
          refine wp_region_quiet_kept (by assumption) (by kernel_rfl) ?_
          repeat (first | go_big_quiet_step (fail) | quiet_step (fail))
          refine wpQuiet_nil ?_
          intro w2 hw'
          have hB : Below wr.heap.size wr w2 := by obtain ⟨⟨wk, hb0⟩, hw''⟩ := hw'; rw [hw'']; exact hb0
          have HB2 := Lib.hid (HB.out.trans (hB.mono HB.out.size))
          clear hw' hB hE hgd q0 p0 q1 p1 q2 p2
          go_wp2
          go_ret
          exact ⟨ret_bool HF.out.symm, HB2.out⟩
      · obtain rfl : n = k := by omega
        have HF := Lib.hid (tf_t (P := NotesEq n f n f') ⟨rfl, HA.out⟩)
        go_wp2
        go_ret
        exact ⟨ret_bool HF.out.symm, HB.out⟩
  · have HF := Lib.hid (tf_f (P := NotesEq n f n' f') fun h => hnn h.1)
    have e1 : ((n : Int) != (n' : Int)) = true := by simp; omega
    have e2 : ¬ (n : Int) = (n' : Int) := by omega
    go_enter Try.func67, Try.ntmps67
    go_wp2
    go_ret
    exact ⟨ret_bool HF.out.symm, Below.refl _ _⟩
end Go.Proofs.Ytaohoahilpobmaa.same
