/-
  Proved: both functions that compare files answer alike (contracts of the exact laws of chapter 3).
  Conditions: the files are read out of memory.
-/
import Derived.Test.YtaohoahilpobmaaSameB
namespace Go.Proofs.Ytaohoahilpobmaa.same
open Go.ChangeShapes Go.WideShapes Go.ChangeAt Go.RowKit Go.Joins
open Go.Proofs.Ytaohoahilpobmaa.core Go.Proofs.Ytaohoahilpobmaa.names Go.Proofs.Ytaohoahilpobmaa.fileS
set_option linter.unusedVariables false
set_option linter.unusedSimpArgs false


def SameP (n0 : Nat) (f0 : Nat → Nat → Dat) (n1 : Nat) (f1 : Nat → Nat → Dat) (n2 : Nat) (f2 : Nat → Nat → Dat) (m0 : Nat) (g0 : Nat → Nat → Dat) (m1 : Nat) (g1 : Nat → Nat → Dat) (m2 : Nat) (g2 : Nat → Nat → Dat) : Prop :=
  ChansEq n0 f0 m0 g0 ∧ StrsEq n1 f1 m1 g1 ∧ NotesEq n2 f2 m2 g2

set_option maxRecDepth 100000 in
set_option maxHeartbeats 8000000 in
theorem sameL_calls (b o b' o' : Nat) (A0 A1 A2 B0 B1_ B2_ : Option Addr) (n0 c0 n1 c1 n2 c2 d0 d1_ d2_ : Nat) (f0 f1 f2 g0 g1 g2 : Nat → Nat → Dat) (w : World) (hb : b < w.heap.size) (hb' : b' < w.heap.size) (h0 : n0 ≤ maxLen) (h1 : n1 ≤ maxLen) (h2 : n2 ≤ maxLen)
    (q0 : w.cell? ⟨b, o, none⟩ = some (.slice A0 n0 c0)) (q1 : w.cell? ⟨b, o + 1, none⟩ = some (.slice A1 n1 c1)) (q2 : w.cell? ⟨b, o + 2, none⟩ = some (.slice A2 n2 c2))
    (p0 : w.cell? ⟨b', o', none⟩ = some (.slice B0 n0 d0)) (p1 : w.cell? ⟨b', o' + 1, none⟩ = some (.slice B1_ n1 d1_)) (p2 : w.cell? ⟨b', o' + 2, none⟩ = some (.slice B2_ n2 d2_))
    (r0 : RowsAt w A0 n0 4 f0) (t0 : tyChannelS (.sl n0 4 f0)) (r1 : RowsAt w A1 n1 1 f1) (t1 : tyRowsS (.sl n1 1 f1)) (r2 : RowsAt w A2 n2 3 f2) (t2 : tyNoteS (.sl n2 3 f2))
    (s0 : RowsAt w B0 n0 4 g0) (u0 : tyChannelS (.sl n0 4 g0)) (s1 : RowsAt w B1_ n1 1 g1) (u1 : tyRowsS (.sl n1 1 g1)) (s2 : RowsAt w B2_ n2 3 g2) (u2 : tyNoteS (.sl n2 3 g2)) :
    Calls Try.prog 63 #[.pointer (some ⟨b, o, none⟩), .pointer (some ⟨b', o', none⟩)] w fun e w' => e = .returned (.bool (tf (SameP n0 f0 n1 f1 n2 f2 n0 g0 n1 g1 n2 g2))) ∧ Below w.heap.size w w' := by
  have i0 : n0 ≤ 9223372036854775807 := by unfold maxLen at h0; omega
  have i1 : n1 ≤ 9223372036854775807 := by unfold maxLen at h1; omega
  have i2 : n2 ≤ 9223372036854775807 := by unfold maxLen at h2; omega
  have Q0 := Lib.hid q0
  have Q1 := Lib.hid q1
  have Q2 := Lib.hid q2
  have P0 := Lib.hid p0
  have P1 := Lib.hid p1
  have P2 := Lib.hid p2
  have R0 := Lib.hid r0
  have R1 := Lib.hid r1
  have R2 := Lib.hid r2
  have T0 := Lib.hid t0
  have T1 := Lib.hid t1
  have T2 := Lib.hid t2
  have S0 := Lib.hid s0
  have S1 := Lib.hid s1
  have S2 := Lib.hid s2
  have U0 := Lib.hid u0
  have U1 := Lib.hid u1
  have U2 := Lib.hid u2
  replace q0 := cell_kept hb q0
  replace q1 := cell_kept hb q1
  replace q2 := cell_kept hb q2
  replace p0 := cell_kept hb' p0
  replace p1 := cell_kept hb' p1
  replace p2 := cell_kept hb' p2
  clear r0 r1 r2 t0 t1 t2 s0 s1 s2 u0 u1 u2 h0 h1 h2
  have hmix := mixedR
  have hne : ∀ n : Nat, ((n : Int) != (n : Int)) = false := fun n => by simp
  have e0 := hne n0
  have e1 := hne n1
  have e2 := hne n2
  clear hne
  go_enter Try.func63, Try.ntmps63
  go_wp2
  refine wp_region_quiet_kept (by assumption) (by kernel_rfl) ?_
  repeat (first | go_big_quiet_step (fail) | quiet_step (fail))
  refine wpQuiet_nil ?_
  intro w1 hw'
  have hB : Below w.heap.size w w1 := by obtain ⟨⟨wk, hb0⟩, hw''⟩ := hw'; rw [hw'']; exact hb0
  have HB := Lib.hid hB
  clear hw' hB q0 q1 q2 p0 p1 p2 e0 e1 e2
  go_wp2
  go_loopw [5] (fun i w' => ∃ k : Nat, k ≤ n0 ∧ i = .int .i64 (k : Int) ∧ Hid (∀ j, j < k → ChEq (dStr (f0 j 0)) (dStr (f0 j 1)) (dInt (f0 j 2)) (dInt (f0 j 3)) (dStr (g0 j 0)) (dStr (g0 j 1)) (dInt (g0 j 2)) (dInt (g0 j 3))) ∧ Hid (Below w.heap.size w w')) (fun i _ => n0 - (intOf i).toNat)
  case atStart => exact ⟨0, Nat.zero_le _, rfl, Lib.hid all_zero, HB⟩
  case round =>
    clear HB
    obtain ⟨k, hk, rfl, HA, HB⟩ := hrel
    have qc := (HB.out.cell (p := ⟨b, o, none⟩) hb).trans Q0.out
    by_cases hlt : k < n0
    · obtain ⟨b1, o1, rfl, hl1, ⟨u0, -⟩, ⟨u1, -⟩, ⟨u2, -⟩, ⟨u3, -⟩⟩ := viewChannelS (R0.out.below HB.out) T0.out k hlt
      obtain ⟨b2, o2, rfl, hl2, ⟨v0, -⟩, ⟨v1, -⟩, ⟨v2, -⟩, ⟨v3, -⟩⟩ := viewChannelS (S0.out.below HB.out) U0.out k hlt
      have hli : (k : Int) < (n0 : Int) := by omega
      have hbw : b < wr.heap.size := Nat.lt_of_lt_of_le hb HB.out.size
      have hbw' : b' < wr.heap.size := Nat.lt_of_lt_of_le hb' HB.out.size
      have qa := cell_kept hbw qc
      have qb := cell_kept hbw' ((HB.out.cell (p := ⟨b', o', none⟩) hb').trans P0.out)
      replace u0 := cell_kept hl1 u0
      replace v0 := cell_kept hl2 v0
      replace u1 := cell_kept hl1 u1
      replace v1 := cell_kept hl2 v1
      replace u2 := cell_kept hl1 u2
      replace v2 := cell_kept hl2 v2
      replace u3 := cell_kept hl1 u3
      replace v3 := cell_kept hl2 v3
      generalize hx0 : dStr (f0 k 0) = x0 at *
      generalize hy0 : dStr (g0 k 0) = y0 at *
      generalize hx1 : dStr (f0 k 1) = x1 at *
      generalize hy1 : dStr (g0 k 1) = y1 at *
      generalize hx2 : dInt (f0 k 2) = x2 at *
      generalize hy2 : dInt (g0 k 2) = y2 at *
      generalize hx3 : dInt (f0 k 3) = x3 at *
      generalize hy3 : dInt (g0 k 3) = y3 at *
      have HXY := Lib.hid (show ChEq (dStr (f0 k 0)) (dStr (f0 k 1)) (dInt (f0 k 2)) (dInt (f0 k 3)) (dStr (g0 k 0)) (dStr (g0 k 1)) (dInt (g0 k 2)) (dInt (g0 k 3)) ↔ ChEq x0 x1 x2 x3 y0 y1 y2 y3 by rw [hx0, hy0, hx1, hy1, hx2, hy2, hx3, hy3])
      clear hx0 hy0 hx1 hy1 hx2 hy2 hx3 hy3
      by_cases hxy : ChEq x0 x1 x2 x3 y0 y1 y2 y3
      · skip
        have HA2 := Lib.hid (all_step HA.out (HXY.out.2 hxy))
        have hE := eqC x0 x1 x2 x3 y0 y1 y2 y3
        rw [tf_t hxy] at hE
        have hgd := guardC
        clear hxy HXY
        go_wp2
        refine wp_region_quiet_kept (by assumption) (by kernel_rfl) ?_
        repeat (first | go_big_quiet_step (fail) | quiet_step (fail))
        refine wpQuiet_nil ?_
        intro w2 hw'
        have hB : Below wr.heap.size wr w2 := by obtain ⟨⟨wk, hb0⟩, hw''⟩ := hw'; rw [hw'']; exact hb0
        have HB2 := Lib.hid (HB.out.trans (hB.mono HB.out.size))
        clear hw' hB hE hgd qa qb qc u0 v0 u1 v1 u2 v2 u3 v3
        go_wp2
        go_roundw
        case rel => exact ⟨k + 1, by omega, by go_num, HA2, HB2⟩
        case measure => simp [intOf]; omega
      · skip
        have HF := Lib.hid (tf_f (P := SameP n0 f0 n1 f1 n2 f2 n0 g0 n1 g1 n2 g2) fun h => hxy (HXY.out.1 ((h.1).2 k hlt)))
        have hE := eqC x0 x1 x2 x3 y0 y1 y2 y3
        rw [tf_f hxy] at hE
        have hgd := guardC
        clear hxy HXY
        go_wp2
        refine wp_region_quiet_kept (by assumption) (by kernel_rfl) ?_
        repeat (first | go_big_quiet_step (fail) | quiet_step (fail))
        refine wpQuiet_nil ?_
        intro w2 hw'
        have hB : Below wr.heap.size wr w2 := by obtain ⟨⟨wk, hb0⟩, hw''⟩ := hw'; rw [hw'']; exact hb0
        have HB2 := Lib.hid (HB.out.trans (hB.mono HB.out.size))
        clear hw' hB hE hgd qa qb qc u0 v0 u1 v1 u2 v2 u3 v3
        go_wp2
        go_ret
        exact ⟨ret_bool HF.out.symm, HB2.out⟩
    · obtain rfl : n0 = k := by omega
      have HE0 := HA
      clear HA hlt hk
      go_wp2
      obtain ⟨wo, rfl⟩ : ∃ wo : World, wo = wr := ⟨_, rfl⟩
      clear qc
      go_loopw [6] (fun i w' => ∃ k : Nat, k ≤ n1 ∧ i = .int .i64 (k : Int) ∧ Hid (∀ j, j < k → RowsEq (dLen (f1 j 0)) (dFun (f1 j 0)) (dLen (g1 j 0)) (dFun (g1 j 0))) ∧ Hid (Below w.heap.size w w')) (fun i _ => n1 - (intOf i).toNat)
      case atStart => exact ⟨0, Nat.zero_le _, rfl, Lib.hid all_zero, HB⟩
      case round =>
        clear HB
        obtain ⟨k, hk, rfl, HA, HB⟩ := hrel
        have qc := (HB.out.cell (p := ⟨b, o + 1, none⟩) hb).trans Q1.out
        by_cases hlt : k < n1
        · obtain ⟨b1, o1, rfl, hl1, ⟨B1, d1, u0, z1, ra, ta⟩⟩ := viewRowsS (R1.out.below HB.out) T1.out k hlt
          obtain ⟨b2, o2, rfl, hl2, ⟨B2, d2, v0, z2, rb, tb⟩⟩ := viewRowsS (S1.out.below HB.out) U1.out k hlt
          have hli : (k : Int) < (n1 : Int) := by omega
          have hbw : b < wr.heap.size := Nat.lt_of_lt_of_le hb HB.out.size
          have hbw' : b' < wr.heap.size := Nat.lt_of_lt_of_le hb' HB.out.size
          have qa := cell_kept hbw qc
          have qb := cell_kept hbw' ((HB.out.cell (p := ⟨b', o' + 1, none⟩) hb').trans P1.out)
          replace u0 := cell_kept hl1 u0
          replace v0 := cell_kept hl2 v0
          have RA := Lib.hid ra
          have TA := Lib.hid ta
          have RB := Lib.hid rb
          have TB := Lib.hid tb
          clear ra ta rb tb
          by_cases hxy : RowsEq (dLen (f1 k 0)) (dFun (f1 k 0)) (dLen (g1 k 0)) (dFun (g1 k 0))
          · skip
            have HA2 := Lib.hid (all_step HA.out hxy)
            have H1 := Lib.hid (tf_t hxy)
            clear hxy
            generalize dLen (f1 k 0) = m1 at *
            generalize dFun (f1 k 0) = l1 at *
            generalize dLen (g1 k 0) = m2 at *
            generalize dFun (g1 k 0) = l2 at *
            go_wp2
            refine wp_region_quiet_kept (by assumption) (by kernel_rfl) ?_
            repeat (first | go_big_quiet_step ((go_at_call 112; exact Calls.kept_of (rowsS_calls B1 B2 m1 d1 m2 d2 l1 l2 _ z1 z2 (RA.out.below (Kept.below _)) TA.out (RB.out.below (Kept.below _)) TB.out true H1.out))) | quiet_step ((go_at_call 112; exact Calls.kept_of (rowsS_calls B1 B2 m1 d1 m2 d2 l1 l2 _ z1 z2 (RA.out.below (Kept.below _)) TA.out (RB.out.below (Kept.below _)) TB.out true H1.out))))
            refine wpQuiet_nil ?_
            intro w2 hw'
            have hB : Below wr.heap.size wr w2 := by obtain ⟨⟨wk, hb0⟩, hw''⟩ := hw'; rw [hw'']; exact hb0
            have HB2 := Lib.hid (HB.out.trans (hB.mono HB.out.size))
            clear hw' hB qa qb qc u0 v0
            go_wp2
            go_roundw
            case rel => exact ⟨k + 1, by omega, by go_num, HA2, HB2⟩
            case measure => simp [intOf]; omega
          · skip
            have HF := Lib.hid (tf_f (P := SameP n0 f0 n1 f1 n2 f2 n0 g0 n1 g1 n2 g2) fun h => hxy (h.2.1.2 k hlt))
            have H1 := Lib.hid (tf_f hxy)
            clear hxy
            generalize dLen (f1 k 0) = m1 at *
            generalize dFun (f1 k 0) = l1 at *
            generalize dLen (g1 k 0) = m2 at *
            generalize dFun (g1 k 0) = l2 at *
            go_wp2
            refine wp_region_quiet_kept (by assumption) (by kernel_rfl) ?_
            repeat (first | go_big_quiet_step ((go_at_call 112; exact Calls.kept_of (rowsS_calls B1 B2 m1 d1 m2 d2 l1 l2 _ z1 z2 (RA.out.below (Kept.below _)) TA.out (RB.out.below (Kept.below _)) TB.out false H1.out))) | quiet_step ((go_at_call 112; exact Calls.kept_of (rowsS_calls B1 B2 m1 d1 m2 d2 l1 l2 _ z1 z2 (RA.out.below (Kept.below _)) TA.out (RB.out.below (Kept.below _)) TB.out false H1.out))))
            refine wpQuiet_nil ?_
            intro w2 hw'
            have hB : Below wr.heap.size wr w2 := by obtain ⟨⟨wk, hb0⟩, hw''⟩ := hw'; rw [hw'']; exact hb0
            have HB2 := Lib.hid (HB.out.trans (hB.mono HB.out.size))
            clear hw' hB qa qb qc u0 v0
            go_wp2
            go_ret
            exact ⟨ret_bool HF.out.symm, HB2.out⟩
        · obtain rfl : n1 = k := by omega
          have HE1 := HA
          clear HA hlt hk
          go_wp2
          obtain ⟨wo2, rfl⟩ : ∃ wo2 : World, wo2 = wr := ⟨_, rfl⟩
          clear qc
          go_loopw [7] (fun i w' => ∃ k : Nat, k ≤ n2 ∧ i = .int .i64 (k : Int) ∧ Hid (∀ j, j < k → NtEq (dInt (f2 j 0)) (dInt (f2 j 1)) (dStr (f2 j 2)) (dInt (g2 j 0)) (dInt (g2 j 1)) (dStr (g2 j 2))) ∧ Hid (Below w.heap.size w w')) (fun i _ => n2 - (intOf i).toNat)
          case atStart => exact ⟨0, Nat.zero_le _, rfl, Lib.hid all_zero, HB⟩
          case round =>
            clear HB
            obtain ⟨k, hk, rfl, HA, HB⟩ := hrel
            have qc := (HB.out.cell (p := ⟨b, o + 2, none⟩) hb).trans Q2.out
            by_cases hlt : k < n2
            · obtain ⟨b1, o1, rfl, hl1, ⟨u0, -⟩, ⟨u1, -⟩, ⟨u2, -⟩⟩ := viewNoteS (R2.out.below HB.out) T2.out k hlt
              obtain ⟨b2, o2, rfl, hl2, ⟨v0, -⟩, ⟨v1, -⟩, ⟨v2, -⟩⟩ := viewNoteS (S2.out.below HB.out) U2.out k hlt
              have hli : (k : Int) < (n2 : Int) := by omega
              have hbw : b < wr.heap.size := Nat.lt_of_lt_of_le hb HB.out.size
              have hbw' : b' < wr.heap.size := Nat.lt_of_lt_of_le hb' HB.out.size
              have qa := cell_kept hbw qc
              have qb := cell_kept hbw' ((HB.out.cell (p := ⟨b', o' + 2, none⟩) hb').trans P2.out)
              replace u0 := cell_kept hl1 u0
              replace v0 := cell_kept hl2 v0
              replace u1 := cell_kept hl1 u1
              replace v1 := cell_kept hl2 v1
              replace u2 := cell_kept hl1 u2
              replace v2 := cell_kept hl2 v2
              generalize hx0 : dInt (f2 k 0) = x0 at *
              generalize hy0 : dInt (g2 k 0) = y0 at *
              generalize hx1 : dInt (f2 k 1) = x1 at *
              generalize hy1 : dInt (g2 k 1) = y1 at *
              generalize hx2 : dStr (f2 k 2) = x2 at *
              generalize hy2 : dStr (g2 k 2) = y2 at *
              have HXY := Lib.hid (show NtEq (dInt (f2 k 0)) (dInt (f2 k 1)) (dStr (f2 k 2)) (dInt (g2 k 0)) (dInt (g2 k 1)) (dStr (g2 k 2)) ↔ NtEq x0 x1 x2 y0 y1 y2 by rw [hx0, hy0, hx1, hy1, hx2, hy2])
              clear hx0 hy0 hx1 hy1 hx2 hy2
              by_cases hxy : NtEq x0 x1 x2 y0 y1 y2
              · skip
                have HA2 := Lib.hid (all_step HA.out (HXY.out.2 hxy))
                have hE := eqN x0 x1 x2 y0 y1 y2
                rw [tf_t hxy] at hE
                have hgd := guardN
                clear hxy HXY
                go_wp2
                refine wp_region_quiet_kept (by assumption) (by kernel_rfl) ?_
                repeat (first | go_big_quiet_step (fail) | quiet_step (fail))
                refine wpQuiet_nil ?_
                intro w2 hw'
                have hB : Below wr.heap.size wr w2 := by obtain ⟨⟨wk, hb0⟩, hw''⟩ := hw'; rw [hw'']; exact hb0
                have HB2 := Lib.hid (HB.out.trans (hB.mono HB.out.size))
                clear hw' hB hE hgd qa qb qc u0 v0 u1 v1 u2 v2
                go_wp2
                go_roundw
                case rel => exact ⟨k + 1, by omega, by go_num, HA2, HB2⟩
                case measure => simp [intOf]; omega
              · skip
                have HF := Lib.hid (tf_f (P := SameP n0 f0 n1 f1 n2 f2 n0 g0 n1 g1 n2 g2) fun h => hxy (HXY.out.1 ((h.2.2).2 k hlt)))
                have hE := eqN x0 x1 x2 y0 y1 y2
                rw [tf_f hxy] at hE
                have hgd := guardN
                clear hxy HXY
                go_wp2
                refine wp_region_quiet_kept (by assumption) (by kernel_rfl) ?_
                repeat (first | go_big_quiet_step (fail) | quiet_step (fail))
                refine wpQuiet_nil ?_
                intro w2 hw'
                have hB : Below wr.heap.size wr w2 := by obtain ⟨⟨wk, hb0⟩, hw''⟩ := hw'; rw [hw'']; exact hb0
                have HB2 := Lib.hid (HB.out.trans (hB.mono HB.out.size))
                clear hw' hB hE hgd qa qb qc u0 v0 u1 v1 u2 v2
                go_wp2
                go_ret
                exact ⟨ret_bool HF.out.symm, HB2.out⟩
            · obtain rfl : n2 = k := by omega
              have HE2 := HA
              clear HA hlt hk
              have HF := Lib.hid (tf_t (P := SameP n0 f0 n1 f1 n2 f2 n0 g0 n1 g1 n2 g2) ⟨⟨rfl, HE0.out⟩, ⟨rfl, HE1.out⟩, ⟨rfl, HE2.out⟩⟩)
              go_wp2
              go_ret
              exact ⟨ret_bool HF.out.symm, HB.out⟩

set_option maxRecDepth 100000 in
set_option maxHeartbeats 4000000 in
theorem sameL_diff (b o b' o' : Nat) (A0 A1 A2 B0 B1_ B2_ : Option Addr) (n0 c0 n1 c1 n2 c2 m0 d0 m1 d1_ m2 d2_ : Nat) (w : World) (hb : b < w.heap.size) (hb' : b' < w.heap.size) (h0 : n0 ≤ maxLen) (h1 : n1 ≤ maxLen) (h2 : n2 ≤ maxLen) (g0 : m0 ≤ maxLen) (g1 : m1 ≤ maxLen) (g2 : m2 ≤ maxLen)
    (q0 : w.cell? ⟨b, o, none⟩ = some (.slice A0 n0 c0)) (q1 : w.cell? ⟨b, o + 1, none⟩ = some (.slice A1 n1 c1)) (q2 : w.cell? ⟨b, o + 2, none⟩ = some (.slice A2 n2 c2))
    (p0 : w.cell? ⟨b', o', none⟩ = some (.slice B0 m0 d0)) (p1 : w.cell? ⟨b', o' + 1, none⟩ = some (.slice B1_ m1 d1_)) (p2 : w.cell? ⟨b', o' + 2, none⟩ = some (.slice B2_ m2 d2_)) (hne : ¬ (n0 = m0 ∧ n1 = m1 ∧ n2 = m2)) :
    Calls Try.prog 63 #[.pointer (some ⟨b, o, none⟩), .pointer (some ⟨b', o', none⟩)] w fun e w' => e = .returned (.bool false) ∧ Below w.heap.size w w' := by
  replace q0 := cell_kept hb q0
  replace q1 := cell_kept hb q1
  replace q2 := cell_kept hb q2
  replace p0 := cell_kept hb' p0
  replace p1 := cell_kept hb' p1
  replace p2 := cell_kept hb' p2
  clear h0 h1 h2 g0 g1 g2
  have hmix := mixedR
  have hc : (¬ n0 = m0) ∨ (n0 = m0 ∧ ¬ n1 = m1) ∨ (n0 = m0 ∧ n1 = m1 ∧ ¬ n2 = m2) := by omega
  clear hne
  rcases hc with h | ⟨rfl, h⟩ | ⟨rfl, rfl, h⟩
  · have e0 : ((n0 : Int) != (m0 : Int)) = true := by simp; omega
    go_enter Try.func63, Try.ntmps63
    go_wp2
    refine wp_region_quiet_kept (by assumption) (by kernel_rfl) ?_
    repeat (first | go_big_quiet_step (fail) | quiet_step (fail))
    refine wpQuiet_nil ?_
    intro w1 hw'
    have hB : Below w.heap.size w w1 := by obtain ⟨⟨wk, hb0⟩, hw''⟩ := hw'; rw [hw'']; exact hb0
    have HB := Lib.hid hB
    clear hw' hB q0 q1 q2 p0 p1 p2 e0 
    go_wp2
    go_ret
    exact ⟨rfl, HB.out⟩
  · have e0 : ((n1 : Int) != (m1 : Int)) = true := by simp; omega
    have i0 : ((n0 : Int) != (n0 : Int)) = false := by simp
    go_enter Try.func63, Try.ntmps63
    go_wp2
    refine wp_region_quiet_kept (by assumption) (by kernel_rfl) ?_
    repeat (first | go_big_quiet_step (fail) | quiet_step (fail))
    refine wpQuiet_nil ?_
    intro w1 hw'
    have hB : Below w.heap.size w w1 := by obtain ⟨⟨wk, hb0⟩, hw''⟩ := hw'; rw [hw'']; exact hb0
    have HB := Lib.hid hB
    clear hw' hB q0 q1 q2 p0 p1 p2 e0 i0
    go_wp2
    go_ret
    exact ⟨rfl, HB.out⟩
  · have e0 : ((n2 : Int) != (m2 : Int)) = true := by simp; omega
    have i0 : ((n0 : Int) != (n0 : Int)) = false := by simp
    have i1 : ((n1 : Int) != (n1 : Int)) = false := by simp
    go_enter Try.func63, Try.ntmps63
    go_wp2
    refine wp_region_quiet_kept (by assumption) (by kernel_rfl) ?_
    repeat (first | go_big_quiet_step (fail) | quiet_step (fail))
    refine wpQuiet_nil ?_
    intro w1 hw'
    have hB : Below w.heap.size w w1 := by obtain ⟨⟨wk, hb0⟩, hw''⟩ := hw'; rw [hw'']; exact hb0
    have HB := Lib.hid hB
    clear hw' hB q0 q1 q2 p0 p1 p2 e0 i0 i1
    go_wp2
    go_ret
    exact ⟨rfl, HB.out⟩
end Go.Proofs.Ytaohoahilpobmaa.same
