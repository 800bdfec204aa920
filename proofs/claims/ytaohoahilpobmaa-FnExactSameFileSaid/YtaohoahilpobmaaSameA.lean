/-
  Proved: both functions that compare files answer alike (contracts of the exact laws of chapter 3).
  Conditions: the files are read out of memory.
-/
import Derived.Test.YtaohoahilpobmaaFileOk
import Derived.Laws.StructEq
namespace Go.Proofs.Ytaohoahilpobmaa.same
open Go.ChangeShapes Go.WideShapes Go.ChangeAt Go.RowKit Go.Joins
open Go.Proofs.Ytaohoahilpobmaa.core Go.Proofs.Ytaohoahilpobmaa.names Go.Proofs.Ytaohoahilpobmaa.fileS
set_option linter.unusedVariables false
set_option linter.unusedSimpArgs false

def RowEq (m : Nat) (fv : Nat → Nat → Dat) (m' : Nat) (fw : Nat → Nat → Dat) : Prop := m = m' ∧ ∀ q, q < m → dInt (fv q 0) = dInt (fw q 0)
def RowsEq (m : Nat) (fr : Nat → Nat → Dat) (m' : Nat) (fr' : Nat → Nat → Dat) : Prop := m = m' ∧ ∀ j, j < m → RowEq (dLen (fr j 0)) (dFun (fr j 0)) (dLen (fr' j 0)) (dFun (fr' j 0))
def StrsEq (m : Nat) (fs : Nat → Nat → Dat) (m' : Nat) (fs' : Nat → Nat → Dat) : Prop := m = m' ∧ ∀ i, i < m → RowsEq (dLen (fs i 0)) (dFun (fs i 0)) (dLen (fs' i 0)) (dFun (fs' i 0))
def ChEq (s u : ByteArray) (x y : Int) (s' u' : ByteArray) (x' y' : Int) : Prop := s = s' ∧ u = u' ∧ x = x' ∧ y = y'
def ChansEq (n : Nat) (fc : Nat → Nat → Dat) (n' : Nat) (fd : Nat → Nat → Dat) : Prop := n = n' ∧ ∀ i, i < n → ChEq (dStr (fc i 0)) (dStr (fc i 1)) (dInt (fc i 2)) (dInt (fc i 3)) (dStr (fd i 0)) (dStr (fd i 1)) (dInt (fd i 2)) (dInt (fd i 3))
def NtEq (x y : Int) (s : ByteArray) (x' y' : Int) (s' : ByteArray) : Prop := x = x' ∧ y = y' ∧ s = s'
def NotesEq (n : Nat) (fn : Nat → Nat → Dat) (n' : Nat) (fm : Nat → Nat → Dat) : Prop := n = n' ∧ ∀ i, i < n → NtEq (dInt (fn i 0)) (dInt (fn i 1)) (dStr (fn i 2)) (dInt (fm i 0)) (dInt (fm i 1)) (dStr (fm i 2))

theorem guardC : Try.prog.eqGuardType Try.prog.depth 99 = false := by kernel_rfl
theorem guardN : Try.prog.eqGuardType Try.prog.depth 64 = false := by kernel_rfl
theorem str_eqb (a b : ByteArray) : (a.toList == b.toList) = tf (a = b) := by
  by_cases h : a = b
  · rw [tf_t h, h]; simp
  · rw [tf_f h]; exact str_ne h
theorem str_ne' {a b : ByteArray} (h : ¬ a = b) : ¬ a.toList = b.toList := by simpa using str_ne h
theorem eqC (s u : ByteArray) (x y : Int) (s' u' : ByteArray) (x' y' : Int) (w : World) : (Op.equalIn 10000 99 (.agg #[.string s, .string u, .int .i64 x, .int .i64 y]) (.agg #[.string s', .string u', .int .i64 x', .int .i64 y'])).run Try.prog w = .ok (tf (ChEq s u x y s' u' x' y')) w := by
  have u2 := Try.underlying2
  have a2 := Try.isAgg2
  have z2 := Try.sizeOf2
  have u3 := Try.underlying9
  have a3 := Try.isAgg9
  have z3 := Try.sizeOf9
  have hS : Try.prog.underlying 99 = some (.struct (Try.prog.fieldsOf 99)) := by kernel_rfl
  have hp : Try.prog.stoodInHeld 99 = false := by kernel_rfl
  rw [show (10000 : Nat) = 9999 + 1 from rfl, run_equalIn_agg w 9999 99 _ _ hS hp]
  simp only [Program.fieldsOf, Try.underlying99]
  go_simp
  unfold ChEq
  by_cases h1 : s = s' <;> by_cases h2 : u = u' <;> by_cases h3 : x = x' <;> by_cases h4 : y = y' <;> simp [str_eqb, tf, h1, h2, h3, h4] <;> (first | exact str_ne' h1 | exact str_ne' h2 | exact fun _ => str_ne' h2)
theorem eqN (x y : Int) (s : ByteArray) (x' y' : Int) (s' : ByteArray) (w : World) : (Op.equalIn 10000 64 (.agg #[.int .i64 x, .int .i64 y, .string s]) (.agg #[.int .i64 x', .int .i64 y', .string s'])).run Try.prog w = .ok (tf (NtEq x y s x' y' s')) w := by
  have u2 := Try.underlying2
  have a2 := Try.isAgg2
  have z2 := Try.sizeOf2
  have u3 := Try.underlying9
  have a3 := Try.isAgg9
  have z3 := Try.sizeOf9
  have hS : Try.prog.underlying 64 = some (.struct (Try.prog.fieldsOf 64)) := by kernel_rfl
  have hp : Try.prog.stoodInHeld 64 = false := by kernel_rfl
  rw [show (10000 : Nat) = 9999 + 1 from rfl, run_equalIn_agg w 9999 64 _ _ hS hp]
  simp only [Program.fieldsOf, Try.underlying64]
  go_simp
  unfold NtEq
  by_cases h1 : s = s' <;> by_cases h3 : x = x' <;> by_cases h4 : y = y' <;> simp [str_eqb, tf, h1, h3, h4] <;> exact str_ne' h1

set_option maxRecDepth 100000 in
set_option maxHeartbeats 4000000 in
theorem intsS_calls (A A' : Option Addr) (n c n' c' : Nat) (fv fw : Nat → Nat → Dat) (w : World) (hn : n ≤ maxLen) (hn' : n' ≤ maxLen) (hr : RowsAt w A n 1 fv) (ht : tyInt64S (.sl n 1 fv)) (hr' : RowsAt w A' n' 1 fw) (ht' : tyInt64S (.sl n' 1 fw)) (v : Bool) (hv : tf (RowEq n fv n' fw) = v) :
    Calls Try.prog 145 #[.slice A n c, .slice A' n' c'] w fun e w' => e = .returned (.bool v) ∧ Below w.heap.size w w' := by
  have m1 : n ≤ 9223372036854775807 := by unfold maxLen at hn; omega
  have m2 : n' ≤ 9223372036854775807 := by unfold maxLen at hn'; omega
  have HR := Lib.hid (fun (W : World) (hB : Below w.heap.size w W) => viewInt64S (hr.below hB) ht)
  have HS := Lib.hid (fun (W : World) (hB : Below w.heap.size w W) => viewInt64S (hr'.below hB) ht')
  clear hr hr' ht ht' hn hn'
  subst hv
  have hmix := mixedR
  by_cases hnn : n = n'
  · subst hnn
    go_enter Try.func145, Try.ntmps145
    go_wp2
    go_loopw [5] (fun i w' => ∃ k : Nat, k ≤ n ∧ i = .int .i64 k ∧ Hid (∀ q, q < k → dInt (fv q 0) = dInt (fw q 0)) ∧ Hid (Below w.heap.size w w')) (fun i _ => n - (intOf i).toNat)
    case atStart => exact ⟨0, Nat.zero_le _, rfl, Lib.hid all_zero, Lib.hid (Below.refl _ _)⟩
    case round =>
      obtain ⟨k, hk, rfl, HA, HB⟩ := hrel
      by_cases hlt : k < n
      · obtain ⟨b1, o1, rfl, hl1, ⟨q0, -⟩⟩ := HR.out wr HB.out k hlt
        obtain ⟨b2, o2, rfl, hl2, ⟨p0, -⟩⟩ := HS.out wr HB.out k hlt
        have hli : (k : Int) < (n : Int) := by omega
        replace q0 := cell_kept hl1 q0
        replace p0 := cell_kept hl2 p0
        generalize hx : dInt (fv k 0) = x at *
        generalize hy : dInt (fw k 0) = y at *
        have HX := Lib.hid hx
        have HY := Lib.hid hy
        have HXY := Lib.hid (fun (h : x = y) => (show dInt (fv k 0) = dInt (fw k 0) by rw [hx, hy]; exact h))
        clear hx hy
        by_cases hxy : x = y
        · skip
          subst hxy
          have HA2 := Lib.hid (all_step HA.out (HXY.out rfl))
          have hne2 : (x != x) = false := by simp
          have hne3 : (x == x) = true := by simp
          go_wp2
          refine wp_region_quiet_kept (by assumption) (by kernel_rfl) ?_
          repeat (first | go_big_quiet_step (fail) | quiet_step (fail))
          refine wpQuiet_nil ?_
          intro w2 hw'
          have hB : Below wr.heap.size wr w2 := by obtain ⟨⟨wk, hb0⟩, hw''⟩ := hw'; rw [hw'']; exact hb0
          have HB2 := Lib.hid (HB.out.trans (hB.mono HB.out.size))
          clear hw' hB q0 p0 hne2 hne3
          go_wp2
          go_roundw
          case rel => exact ⟨k + 1, by omega, by go_num, HA2, HB2⟩
          case measure => simp [intOf]; omega
        · clear HXY
          have HF := Lib.hid (tf_f (P := RowEq n fv n fw) fun h => hxy (by have := h.2 k hlt; rw [HX.out, HY.out] at this; exact this))
          have hne2 : (x != y) = true := by simp; exact hxy
          have hne3 : (x == y) = false := by simp; exact hxy
          clear hxy
          go_wp2
          refine wp_region_quiet_kept (by assumption) (by kernel_rfl) ?_
          repeat (first | go_big_quiet_step (fail) | quiet_step (fail))
          refine wpQuiet_nil ?_
          intro w2 hw'
          have hB : Below wr.heap.size wr w2 := by obtain ⟨⟨wk, hb0⟩, hw''⟩ := hw'; rw [hw'']; exact hb0
          have HB2 := Lib.hid (HB.out.trans (hB.mono HB.out.size))
          clear hw' hB q0 p0 hne2 hne3
          go_wp2
          go_ret
          exact ⟨ret_bool HF.out.symm, HB2.out⟩
      · obtain rfl : n = k := by omega
        have HF := Lib.hid (tf_t (P := RowEq n fv n fw) ⟨rfl, HA.out⟩)
        go_wp2
        go_ret
        exact ⟨ret_bool HF.out.symm, HB.out⟩
  · have HF := Lib.hid (tf_f (P := RowEq n fv n' fw) fun h => hnn h.1)
    have e1 : ((n : Int) != (n' : Int)) = true := by simp; omega
    have e2 : ¬ (n : Int) = (n' : Int) := by omega
    go_enter Try.func145, Try.ntmps145
    go_wp2
    go_ret
    exact ⟨ret_bool HF.out.symm, Below.refl _ _⟩

set_option maxRecDepth 100000 in
set_option maxHeartbeats 4000000 in
theorem intsI_calls (A A' : Option Addr) (n c n' c' : Nat) (fv fw : Nat → Nat → Dat) (w : World) (hn : n ≤ maxLen) (hn' : n' ≤ maxLen) (hr : RowsAt w A n 1 fv) (ht : tyInt64S (.sl n 1 fv)) (hr' : RowsAt w A' n' 1 fw) (ht' : tyInt64S (.sl n' 1 fw)) (v : Bool) (hv : tf (RowEq n fv n' fw) = v) :
    Calls Try.prog 114 #[.slice A n c, .slice A' n' c'] w fun e w' => e = .returned (.bool v) ∧ Below w.heap.size w w' := by
  have m1 : n ≤ 9223372036854775807 := by unfold maxLen at hn; omega
  have m2 : n' ≤ 9223372036854775807 := by unfold maxLen at hn'; omega
  have HR := Lib.hid (fun (W : World) (hB : Below w.heap.size w W) => viewInt64S (hr.below hB) ht)
  have HS := Lib.hid (fun (W : World) (hB : Below w.heap.size w W) => viewInt64S (hr'.below hB) ht')
  clear hr hr' ht ht' hn hn'
  subst hv
  have hmix := mixedR
  by_cases hnn : n = n'
  · subst hnn
    go_enter Try.func114, Try.ntmps114
    go_wp2
    go_loopw [13] (fun i w' => ∃ k : Nat, k ≤ n ∧ i = .int .i64 k ∧ Hid (∀ q, q < k → dInt (fv q 0) = dInt (fw q 0)) ∧ Hid (Below w.heap.size w w')) (fun i _ => n - (intOf i).toNat)
    case atStart => exact ⟨0, Nat.zero_le _, rfl, Lib.hid all_zero, Lib.hid (Below.refl _ _)⟩
    case round =>
      obtain ⟨k, hk, rfl, HA, HB⟩ := hrel
      by_cases hlt : k < n
      · obtain ⟨b1, o1, rfl, hl1, ⟨q0, -⟩⟩ := HR.out wr HB.out k hlt
        obtain ⟨b2, o2, rfl, hl2, ⟨p0, -⟩⟩ := HS.out wr HB.out k hlt
        have hli : (k : Int) < (n : Int) := by omega
        replace q0 := cell_kept hl1 q0
        replace p0 := cell_kept hl2 p0
        generalize hx : dInt (fv k 0) = x at *
        generalize hy : dInt (fw k 0) = y at *
        have HX := Lib.hid hx
        have HY := Lib.hid hy
        have HXY := Lib.hid (fun (h : x = y) => (show dInt (fv k 0) = dInt (fw k 0) by rw [hx, hy]; exact h))
        clear hx hy
        by_cases hxy : x = y
        · skip
          subst hxy
          have HA2 := Lib.hid (all_step HA.out (HXY.out rfl))
          have hne2 : (x != x) = false := by simp
          have hne3 : (x == x) = true := by simp
          go_wp2
          refine wp_region_quiet_kept (by assumption) (by kernel_rfl) ?_
          repeat (first | go_big_quiet_step (fail) | quiet_step (fail))
          refine wpQuiet_nil ?_
          intro w2 hw'
          have hB : Below wr.heap.size wr w2 := by obtain ⟨⟨wk, hb0⟩, hw''⟩ := hw'; rw [hw'']; exact hb0
          have HB2 := Lib.hid (HB.out.trans (hB.mono HB.out.size))
          clear hw' hB q0 p0 hne2 hne3
          go_wp2
          go_roundw
          case rel => exact ⟨k + 1, by omega, by go_num, HA2, HB2⟩
          case measure => simp [intOf]; omega
        · clear HXY
          have HF := Lib.hid (tf_f (P := RowEq n fv n fw) fun h => hxy (by have := h.2 k hlt; rw [HX.out, HY.out] at this; exact this))
          have hne2 : (x != y) = true := by simp; exact hxy
          have hne3 : (x == y) = false := by simp; exact hxy
          clear hxy
          go_wp2
          refine wp_region_quiet_kept (by assumption) (by kernel_rfl) ?_
          repeat (first | go_big_quiet_step (fail) | quiet_step (fail))
          refine wpQuiet_nil ?_
          intro w2 hw'
          have hB : Below wr.heap.size wr w2 := by obtain ⟨⟨wk, hb0⟩, hw''⟩ := hw'; rw [hw'']; exact hb0
          have HB2 := Lib.hid (HB.out.trans (hB.mono HB.out.size))
          clear hw' hB q0 p0 hne2 hne3
          go_wp2
          go_ret
          exact ⟨ret_bool HF.out.symm, HB2.out⟩
      · obtain rfl : n = k := by omega
        have HF := Lib.hid (tf_t (P := RowEq n fv n fw) ⟨rfl, HA.out⟩)
        go_wp2
        go_ret
        exact ⟨ret_bool HF.out.symm, HB.out⟩
  · have HF := Lib.hid (tf_f (P := RowEq n fv n' fw) fun h => hnn h.1)
    have e1 : ((n : Int) != (n' : Int)) = true := by simp; omega
    have e2 : ¬ (n : Int) = (n' : Int) := by omega
    go_enter Try.func114, Try.ntmps114
    go_wp2
    go_ret
    exact ⟨ret_bool HF.out.symm, Below.refl _ _⟩
end Go.Proofs.Ytaohoahilpobmaa.same
