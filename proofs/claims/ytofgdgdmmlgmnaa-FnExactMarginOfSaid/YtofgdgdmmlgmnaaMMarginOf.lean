/-
  Proved: both functions that tell how much the second hypothesis costs more return the same.
  Conditions: none.
-/
import Derived.Test.YtofgdgdmmlgmnaaHyK
namespace Go.Proofs.Ytofgdgdmmlgmnaa.wMarginOf
open Go.ChangeShapes Go.WideShapes Go.ChangeAt Go.RowKit Go.Joins
open Go.Proofs.Ytofgdgdmmlgmnaa.core Go.Proofs.Ytofgdgdmmlgmnaa.rown Go.Proofs.Ytofgdgdmmlgmnaa.stk Go.Proofs.Ytofgdgdmmlgmnaa.boxed Go.Proofs.Ytofgdgdmmlgmnaa.ft Go.Proofs.Ytofgdgdmmlgmnaa.lab Go.Proofs.Ytofgdgdmmlgmnaa.hyp
set_option linter.unusedVariables false
set_option linter.unusedSimpArgs false
noncomputable def mgC (n : Nat) (f : Nat → Hy) : Int := if hyB n f = true then (if n < 2 then 6 else 0) else 1
noncomputable def mgR (n : Nat) (f : Nat → Hy) : Int := if mgC n f = 0 then (f 1).2 - (f 0).2 else 0
set_option maxRecDepth 100000 in
set_option maxHeartbeats 2000000 in
theorem spec_calls {c : Nat} (A : Option Addr) (n : Nat) (f : Nat → Hy) (w : World) (hl : HyL n f) (hp : HyAt w A n f) :
    Calls Try.prog 29 #[.slice A n c] w fun e w' => e = .returned (.tuple #[.int .i64 (mgR n f), .int .i64 (mgC n f)]) ∧ Below w.heap.size w w' := by
  have HV := Lib.hid (hyOkS (c := c) A n f w hl hp)
  have hn := hl.hn
  have hund : undef = Value.tuple #[] := rfl
  cases hv : hyB n f with
  | false =>
    have HC := Lib.hid (show mgC n f = 1 by unfold mgC; rw [hv]; rfl)
    have HR := Lib.hid (show mgR n f = 0 by unfold mgR; rw [HC.out]; rfl)
    rw [hv] at HV
    clear hv hp hl
    go_enter Try.func29, Try.ntmps29
    go_wp2_with fail
    refine HV.out.mono ?_
    rintro e w1 ⟨rfl, hb⟩
    have HB := Lib.hid hb
    clear hb HV
    go_wp2
    go_ret2
    exact ⟨by rw [HC.out, HR.out]; rfl, HB.out⟩
  | true =>
    have hok := hy_iff.1 hv
    rw [hv] at HV
    by_cases h2 : n < 2
    · have h2i : (n : Int) < 2 := by omega
      have HC := Lib.hid (show mgC n f = 6 by unfold mgC; rw [hv, if_pos rfl, if_pos h2])
      have HR := Lib.hid (show mgR n f = 0 by unfold mgR; rw [HC.out]; rfl)
      clear hv hp hl hok
      go_enter Try.func29, Try.ntmps29
      go_wp2_with fail
      refine HV.out.mono ?_
      rintro e w1 ⟨rfl, hb⟩
      have HB := Lib.hid hb
      clear hb HV
      go_wp2
      go_ret2
      exact ⟨by rw [HC.out, HR.out]; rfl, HB.out⟩
    · have h2i : ¬ (n : Int) < 2 := by omega
      have d2 : decide ((n : Int) < 2) = false := decide_eq_false h2i
      have h1n : 1 < n := by omega
      have h0n : 0 < n := by omega
      have h1i : (1 : Int) < (n : Int) := by omega
      have h0i : (0 : Int) < (n : Int) := by omega
      have HC := Lib.hid (show mgC n f = 0 by unfold mgC; rw [hv, if_pos rfl, if_neg h2])
      have HR := Lib.hid (show mgR n f = (f 1).2 - (f 0).2 by unfold mgR; rw [if_pos HC.out])
      have q1 := (hok.2 1 (by omega)).1.2
      have q0 := (hok.2 0 (by omega)).1.2
      have HP := Lib.hid (fun W (hW : Below w.heap.size w W) => hp.kept hW)
      obtain ⟨x, hx⟩ : ∃ x, (f 1).2 = x := ⟨_, rfl⟩
      obtain ⟨y, hy⟩ : ∃ y, (f 0).2 = y := ⟨_, rfl⟩
      rw [hx, hy] at HR
      rw [hx] at q1
      rw [hy] at q0
      have hw1 : IntKind.i64.wrap (x - y) = x - y := by simp [IntKind.wrap, IntKind.bits, IntKind.signed]; omega
      have hw2 : wrap64 (x - y) = x - y := by unfold wrap64; omega
      clear hv hp hl hok q1 q0
      go_enter Try.func29, Try.ntmps29
      go_wp2_with fail
      refine HV.out.mono ?_
      rintro e w1 ⟨rfl, hb⟩
      have HB := Lib.hid hb
      obtain ⟨b, o, rfl, hbz, -, p1⟩ := HP.out w1 hb 1 h1n
      obtain ⟨b', o', e', hbz', -, p0⟩ := HP.out w1 hb 0 h0n
      obtain ⟨rfl, rfl⟩ : b' = b ∧ o' = o := by
        injection e' with e'
        injection e' with e3 e4
        exact ⟨e3.symm, e4.symm⟩
      rw [hx] at p1
      rw [hy] at p0
      simp only [Nat.zero_mul, Nat.one_mul, Nat.add_zero] at p0 p1
      replace p1 := core.cell_kept (a := ⟨b', _, none⟩) hbz p1
      replace p0 := core.cell_kept (a := ⟨b', _, none⟩) hbz p0
      have hmix := mixedH
      clear hb HV HP e' hx hy
      go_wp2
      refine wp_region_quiet_kept (by assumption) (by kernel_rfl) ?_
      repeat (first | go_big_quiet_step (fail) | quiet_step (fail))
      refine wpQuiet_nil ?_
      intro w2 hw'
      have hB : Below w1.heap.size w1 w2 := by obtain ⟨⟨wk, hb0⟩, hw''⟩ := hw'; rw [hw'']; exact hb0
      have HB2 := Lib.hid (HB.out.trans (hB.mono HB.out.size))
      clear hw' hB p0 p1
      go_wp2
      go_ret2
      exact ⟨by rw [HC.out, HR.out]; rfl, HB2.out⟩
set_option maxRecDepth 100000 in
set_option maxHeartbeats 2000000 in
theorem impl_calls {c : Nat} (A : Option Addr) (n : Nat) (f : Nat → Hy) (w : World) (hl : HyL n f) (hp : HyAt w A n f) :
    Calls Try.prog 30 #[.slice A n c] w fun e w' => e = .returned (.tuple #[.int .i64 (mgR n f), .int .i64 (mgC n f)]) ∧ Below w.heap.size w w' := by
  have HV := Lib.hid (validHI (c := c) A n f w hl hp)
  have hn := hl.hn
  have hund : undef = Value.tuple #[] := rfl
  cases hv : hyB n f with
  | false =>
    have HC := Lib.hid (show mgC n f = 1 by unfold mgC; rw [hv]; rfl)
    have HR := Lib.hid (show mgR n f = 0 by unfold mgR; rw [HC.out]; rfl)
    rw [hv] at HV
    clear hv hp hl
    go_enter Try.func30, Try.ntmps30
    go_wp2_with fail
    refine HV.out.mono ?_
    rintro e w1 ⟨rfl, hb⟩
    have HB := Lib.hid hb
    clear hb HV
    go_wp2
    go_ret2
    exact ⟨by rw [HC.out, HR.out]; rfl, HB.out⟩
  | true =>
    have hok := hy_iff.1 hv
    rw [hv] at HV
    by_cases h2 : n < 2
    · have h2i : (n : Int) < 2 := by omega
      have HC := Lib.hid (show mgC n f = 6 by unfold mgC; rw [hv, if_pos rfl, if_pos h2])
      have HR := Lib.hid (show mgR n f = 0 by unfold mgR; rw [HC.out]; rfl)
      clear hv hp hl hok
      go_enter Try.func30, Try.ntmps30
      go_wp2_with fail
      refine HV.out.mono ?_
      rintro e w1 ⟨rfl, hb⟩
      have HB := Lib.hid hb
      clear hb HV
      go_wp2
      go_ret2
      exact ⟨by rw [HC.out, HR.out]; rfl, HB.out⟩
    · have h2i : ¬ (n : Int) < 2 := by omega
      have d2 : decide ((n : Int) < 2) = false := decide_eq_false h2i
      have h1n : 1 < n := by omega
      have h0n : 0 < n := by omega
      have h1i : (1 : Int) < (n : Int) := by omega
      have h0i : (0 : Int) < (n : Int) := by omega
      have HC := Lib.hid (show mgC n f = 0 by unfold mgC; rw [hv, if_pos rfl, if_neg h2])
      have HR := Lib.hid (show mgR n f = (f 1).2 - (f 0).2 by unfold mgR; rw [if_pos HC.out])
      have q1 := (hok.2 1 (by omega)).1.2
      have q0 := (hok.2 0 (by omega)).1.2
      have HP := Lib.hid (fun W (hW : Below w.heap.size w W) => hp.kept hW)
      obtain ⟨x, hx⟩ : ∃ x, (f 1).2 = x := ⟨_, rfl⟩
      obtain ⟨y, hy⟩ : ∃ y, (f 0).2 = y := ⟨_, rfl⟩
      rw [hx, hy] at HR
      rw [hx] at q1
      rw [hy] at q0
      have hw1 : IntKind.i64.wrap (x - y) = x - y := by simp [IntKind.wrap, IntKind.bits, IntKind.signed]; omega
      have hw2 : wrap64 (x - y) = x - y := by unfold wrap64; omega
      clear hv hp hl hok q1 q0
      go_enter Try.func30, Try.ntmps30
      go_wp2_with fail
      refine HV.out.mono ?_
      rintro e w1 ⟨rfl, hb⟩
      have HB := Lib.hid hb
      obtain ⟨b, o, rfl, hbz, -, p1⟩ := HP.out w1 hb 1 h1n
      obtain ⟨b', o', e', hbz', -, p0⟩ := HP.out w1 hb 0 h0n
      obtain ⟨rfl, rfl⟩ : b' = b ∧ o' = o := by
        injection e' with e'
        injection e' with e3 e4
        exact ⟨e3.symm, e4.symm⟩
      rw [hx] at p1
      rw [hy] at p0
      simp only [Nat.zero_mul, Nat.one_mul, Nat.add_zero] at p0 p1
      replace p1 := core.cell_kept (a := ⟨b', _, none⟩) hbz p1
      replace p0 := core.cell_kept (a := ⟨b', _, none⟩) hbz p0
      have hmix := mixedH
      clear hb HV HP e' hx hy
      go_wp2
      refine wp_region_quiet_kept (by assumption) (by kernel_rfl) ?_
      repeat (first | go_big_quiet_step (fail) | quiet_step (fail))
      refine wpQuiet_nil ?_
      intro w2 hw'
      have hB : Below w1.heap.size w1 w2 := by obtain ⟨⟨wk, hb0⟩, hw''⟩ := hw'; rw [hw'']; exact hb0
      have HB2 := Lib.hid (HB.out.trans (hB.mono HB.out.size))
      clear hw' hB p0 p1
      go_wp2
      go_ret2
      exact ⟨by rw [HC.out, HR.out]; rfl, HB2.out⟩
theorem meat (vs0 : Nat → Value) (g0 : Nat → Dat) (ht0 : tyrHypS g0) :
    costRec 1 g0 ≤ 1048576 → ∃ (r0 : Int) (r1 : Int), (∀ (W : World) (us0 : Nat → Value), ReadsRec W 1 us0 g0 → (∃ (A : Option Addr) (n c : Nat), us0 0 = .slice A n c ∧ n ≤ c) → Calls Try.prog 29 #[us0 0] W fun e W' => e = .returned (.tuple #[.int .i64 r0, .int .i64 r1]) ∧ Below W.heap.size W W') ∧ (∀ (W : World) (us0 : Nat → Value), ReadsRec W 1 us0 g0 → (∃ (A : Option Addr) (n c : Nat), us0 0 = .slice A n c ∧ n ≤ c) → Calls Try.prog 30 #[us0 0] W fun e W' => e = .returned (.tuple #[.int .i64 r0, .int .i64 r1]) ∧ Below W.heap.size W W') := by
  intro hq
  refine ⟨mgR (hyN g0) (hyF g0), mgC (hyN g0) (hyF g0), fun W us h _ => ?_, fun W us h _ => ?_⟩
  · obtain ⟨A, c, e, -, hl, hp⟩ := reads_hy h ht0 hq
    rw [e]
    exact spec_calls A _ _ W hl hp
  · obtain ⟨A, c, e, -, hl, hp⟩ := reads_hy h ht0 hq
    rw [e]
    exact impl_calls A _ _ W hl hp
end Go.Proofs.Ytofgdgdmmlgmnaa.wMarginOf
