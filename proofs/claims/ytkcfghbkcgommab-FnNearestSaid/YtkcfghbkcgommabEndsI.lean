/-
  Proved: what the document's functions that tell the cost of the first and of the last pair return; what the program's functions that tell the cost of the first and of the last pair return.
  Conditions: those of each theorem.
-/
import Derived.Test.YtkcfghbkcgommabEnvS
import Derived.Test.YtkcfghbkcgommabCostI
namespace Go.Proofs.Ytkcfghbkcgommab.env
open Go.ChangeShapes Go.WideShapes Go.ChangeAt Go.RowKit Go.Joins
open Go.Proofs.Ytkcfghbkcgommab.core Go.Proofs.Ytkcfghbkcgommab.rown Go.Proofs.Ytkcfghbkcgommab.stk Go.Proofs.Ytkcfghbkcgommab.boxed Go.Proofs.Ytkcfghbkcgommab.ft Go.Proofs.Ytkcfghbkcgommab.seq
set_option linter.unusedVariables false
set_option linter.unusedSimpArgs false
set_option maxRecDepth 100000 in
set_option maxHeartbeats 8000000 in
theorem endsS {ca cb : Nat} (A B : Option Addr) (na nb : Nat) (fa fb : Nat → P3) (w : World) (pa : PtsAt w A na fa) (pb : PtsAt w B nb fb) (va : okQ na fa = true) (vb : okQ nb fb = true) :
    Calls Try.prog 45 #[.slice A na ca, .slice B nb cb] w fun e w' => e = .returned (.int .i64 (endsE na nb fa fb)) ∧ Below w.heap.size w w' := by
  obtain ⟨a1, a2, a3⟩ := okQ_of va
  obtain ⟨b1, b2, b3⟩ := okQ_of vb
  obtain ⟨N, rfl⟩ : ∃ N, na = N + 1 := ⟨na - 1, by omega⟩
  obtain ⟨M, rfl⟩ : ∃ M, nb = M + 1 := ⟨nb - 1, by omega⟩
  have HPA := Lib.hid pa
  have HPB := Lib.hid pb
  obtain ⟨ga, oa, rfl, hga, x0, x1, x2⟩ := pa 0 (by omega)
  obtain ⟨gb, ob, rfl, hgb, y0, y1, y2⟩ := pb 0 (by omega)
  rw [Nat.zero_mul, Nat.add_zero] at x0 x1 x2 y0 y1 y2
  have ec := cst_in (a3 0 (by omega)) (b3 0 (by omega))
  have ed := cst_in (a3 N (by omega)) (b3 M (by omega))
  have HC := Lib.hid (fun W => costS (fa 0) (fb 0) (a3 0 (by omega)) (b3 0 (by omega)) W)
  have HD := Lib.hid (fun W => costS (fa N) (fb M) (a3 N (by omega)) (b3 M (by omega)) W)
  have HE := Lib.hid (show endsE (N + 1) (M + 1) fa fb = cst (fa 0) (fb 0) + if 1 < N + 1 ∨ 1 < M + 1 then cst (fa N) (fb M) else 0 from rfl)
  have hN : N < N + 1 := by omega
  have hM : M < M + 1 := by omega
  have hNi : (N : Int) < (N : Int) + 1 := by omega
  have hMi : (M : Int) < (M : Int) + 1 := by omega
  have hNw : IntKind.i64.wrap (N : Int) = (N : Int) := IntWalk.i64_in _ (by omega)
  have hMw : IntKind.i64.wrap (M : Int) = (M : Int) := IntWalk.i64_in _ (by omega)
  have h0i : (0 : Int) < (N : Int) + 1 := by omega
  have h0j : (0 : Int) < (M : Int) + 1 := by omega
  have h0n : 0 < N + 1 := by omega
  have h0m : 0 < M + 1 := by omega
  generalize hp0 : fa 0 = p0 at *
  generalize hq0 : fb 0 = q0 at *
  obtain ⟨T, hT⟩ : ∃ T, cst p0 q0 = T := ⟨_, rfl⟩
  rw [hT] at HC HE ec
  have C0 := cell_kept (a := ⟨ga, oa, none⟩) hga x0
  have C1 := cell_kept (a := ⟨ga, oa + 1, none⟩) hga x1
  have C2 := cell_kept (a := ⟨ga, oa + 2, none⟩) hga x2
  have D0 := cell_kept (a := ⟨gb, ob, none⟩) hgb y0
  have D1 := cell_kept (a := ⟨gb, ob + 1, none⟩) hgb y1
  have D2 := cell_kept (a := ⟨gb, ob + 2, none⟩) hgb y2
  have hmx : Try.prog.follows .mixedOrders = true := by kernel_rfl
  clear pa pb va vb a3 b3 hT hp0 hq0 x0 x1 x2 y0 y1 y2 a1 b1
  go_enter Try.func45, Try.ntmps45
  go_wp2
  refine wp_region_quiet_kept (by assumption) (by kernel_rfl) ?_
  repeat (first | go_big_quiet_step (((go_at_call 62; with_reducible exact Calls.kept_of (HC.out _)))) | quiet_step (((go_at_call 62; with_reducible exact Calls.kept_of (HC.out _)))))
  refine wpQuiet_nil ?_
  intro w4 hw'
  have hB : Below w.heap.size w w4 := by obtain ⟨⟨wk, hb0⟩, hw''⟩ := hw'; rw [hw'']; exact hb0
  have HB4 := Lib.hid hB
  clear hw' hB C0 C1 C2 D0 D1 D2 hga hgb HC
  by_cases hor : 1 < N + 1 ∨ 1 < M + 1
  · have HV := Lib.hid (HE.out.trans (by rw [if_pos hor]))
    obtain ⟨g1, o1, e1, hga, x0, x1, x2⟩ := (HPA.out.kept HB4.out) N hN
    cases e1
    obtain ⟨g2, o2, e2, hgb, y0, y1, y2⟩ := (HPB.out.kept HB4.out) M hM
    cases e2
    generalize fa N = p at *
    generalize fb M = q at *
    obtain ⟨D, hD⟩ : ∃ D, cst p q = D := ⟨_, rfl⟩
    rw [hD] at HD HV ed
    have E1 : IntKind.i64.wrap (T + D) = T + D := IntWalk.i64_in _ (by omega)
    have HHD := Lib.hid hD
    clear hD HE ec ed
    have F1 : wrap64 (T + D) = T + D := by rw [← IntWalk.i64_left]; exact E1
    have C0 := cell_kept (a := ⟨ga, oa + N * 3, none⟩) hga x0
    have C1 := cell_kept (a := ⟨ga, oa + N * 3 + 1, none⟩) hga x1
    have C2 := cell_kept (a := ⟨ga, oa + N * 3 + 2, none⟩) hga x2
    have D0 := cell_kept (a := ⟨gb, ob + M * 3, none⟩) hgb y0
    have D1 := cell_kept (a := ⟨gb, ob + M * 3 + 1, none⟩) hgb y1
    have D2 := cell_kept (a := ⟨gb, ob + M * 3 + 2, none⟩) hgb y2
    clear x0 x1 x2 y0 y1 y2
    by_cases h1 : 1 < N + 1
    · have h1i : (1 : Int) < (N : Int) + 1 := by omega
      clear hor h1
      go_wp2
      refine wp_region_quiet_kept (by assumption) (by kernel_rfl) ?_
      repeat (first | go_big_quiet_step (((go_at_call 62; with_reducible exact Calls.kept_of (HD.out _)))) | quiet_step (((go_at_call 62; with_reducible exact Calls.kept_of (HD.out _)))))
      refine wpQuiet_nil ?_
      intro w5 hw'
      have hB : Below w4.heap.size w4 w5 := by obtain ⟨⟨wk, hb0⟩, hw''⟩ := hw'; rw [hw'']; exact hb0
      have HB5 := Lib.hid (HB4.out.trans (hB.mono HB4.out.size))
      clear hw' hB C0 C1 C2 D0 D1 D2 hga hgb
      go_wp2
      go_ret
      exact ⟨by rw [HV.out]; rfl, HB5.out⟩
    · have h1i : ¬ (1 : Int) < (N : Int) + 1 := by omega
      have h2i : (1 : Int) < (M : Int) + 1 := by omega
      clear hor h1
      go_wp2
      refine wp_region_quiet_kept (by assumption) (by kernel_rfl) ?_
      repeat (first | go_big_quiet_step (((go_at_call 62; with_reducible exact Calls.kept_of (HD.out _)))) | quiet_step (((go_at_call 62; with_reducible exact Calls.kept_of (HD.out _)))))
      refine wpQuiet_nil ?_
      intro w5 hw'
      have hB : Below w4.heap.size w4 w5 := by obtain ⟨⟨wk, hb0⟩, hw''⟩ := hw'; rw [hw'']; exact hb0
      have HB5 := Lib.hid (HB4.out.trans (hB.mono HB4.out.size))
      clear hw' hB C0 C1 C2 D0 D1 D2 hga hgb
      go_wp2
      go_ret
      exact ⟨by rw [HV.out]; rfl, HB5.out⟩
  · have HV := Lib.hid (show endsE (N + 1) (M + 1) fa fb = T by rw [HE.out, if_neg hor, Int.add_zero])
    have h1i : ¬ (1 : Int) < (N : Int) + 1 := by omega
    have h2i : ¬ (1 : Int) < (M : Int) + 1 := by omega
    clear hor HE HD
    go_wp2
    go_ret
    exact ⟨by rw [HV.out]; rfl, HB4.out⟩
/-- The code of two lists. -/
noncomputable def twoC (na nb : Nat) (fa fb : Nat → P3) : Int := if okQ na fa = true ∧ okQ nb fb = true then 0 else 1
noncomputable def ebR (na nb : Nat) (fa fb : Nat → P3) : Int := if okQ na fa = true ∧ okQ nb fb = true then endsE na nb fa fb else 0
end Go.Proofs.Ytkcfghbkcgommab.env

namespace Go.Proofs.Ytkcfghbkcgommab.env

open Go.ChangeShapes Go.WideShapes Go.ChangeAt Go.RowKit Go.Joins

open Go.Proofs.Ytkcfghbkcgommab.core Go.Proofs.Ytkcfghbkcgommab.rown Go.Proofs.Ytkcfghbkcgommab.stk Go.Proofs.Ytkcfghbkcgommab.boxed Go.Proofs.Ytkcfghbkcgommab.ft Go.Proofs.Ytkcfghbkcgommab.seq
set_option linter.unusedVariables false
set_option linter.unusedSimpArgs false
set_option maxRecDepth 100000 in
set_option maxHeartbeats 8000000 in
theorem endsI {ca cb : Nat} (A B : Option Addr) (na nb : Nat) (fa fb : Nat → P3) (w : World) (pa : PtsAt w A na fa) (pb : PtsAt w B nb fb) (va : okQ na fa = true) (vb : okQ nb fb = true) :
    Calls Try.prog 38 #[.slice A na ca, .slice B nb cb] w fun e w' => e = .returned (.int .i64 (endsE na nb fa fb)) ∧ Below w.heap.size w w' := by
  obtain ⟨a1, a2, a3⟩ := okQ_of va
  obtain ⟨b1, b2, b3⟩ := okQ_of vb
  obtain ⟨N, rfl⟩ : ∃ N, na = N + 1 := ⟨na - 1, by omega⟩
  obtain ⟨M, rfl⟩ : ∃ M, nb = M + 1 := ⟨nb - 1, by omega⟩
  have HPA := Lib.hid pa
  have HPB := Lib.hid pb
  obtain ⟨ga, oa, rfl, hga, x0, x1, x2⟩ := pa 0 (by omega)
  obtain ⟨gb, ob, rfl, hgb, y0, y1, y2⟩ := pb 0 (by omega)
  rw [Nat.zero_mul, Nat.add_zero] at x0 x1 x2 y0 y1 y2
  have ec := cst_in (a3 0 (by omega)) (b3 0 (by omega))
  have ed := cst_in (a3 N (by omega)) (b3 M (by omega))
  have HC := Lib.hid (fun W => costI (fa 0) (fb 0) (a3 0 (by omega)) (b3 0 (by omega)) W)
  have HD := Lib.hid (fun W => costI (fa N) (fb M) (a3 N (by omega)) (b3 M (by omega)) W)
  have HE := Lib.hid (show endsE (N + 1) (M + 1) fa fb = cst (fa 0) (fb 0) + if 1 < N + 1 ∨ 1 < M + 1 then cst (fa N) (fb M) else 0 from rfl)
  have hN : N < N + 1 := by omega
  have hM : M < M + 1 := by omega
  have hNi : (N : Int) < (N : Int) + 1 := by omega
  have hMi : (M : Int) < (M : Int) + 1 := by omega
  have hNw : IntKind.i64.wrap (N : Int) = (N : Int) := IntWalk.i64_in _ (by omega)
  have hMw : IntKind.i64.wrap (M : Int) = (M : Int) := IntWalk.i64_in _ (by omega)
  have h0i : (0 : Int) < (N : Int) + 1 := by omega
  have h0j : (0 : Int) < (M : Int) + 1 := by omega
  have h0n : 0 < N + 1 := by omega
  have h0m : 0 < M + 1 := by omega
  generalize hp0 : fa 0 = p0 at *
  generalize hq0 : fb 0 = q0 at *
  obtain ⟨T, hT⟩ : ∃ T, cst p0 q0 = T := ⟨_, rfl⟩
  rw [hT] at HC HE ec
  have C0 := cell_kept (a := ⟨ga, oa, none⟩) hga x0
  have C1 := cell_kept (a := ⟨ga, oa + 1, none⟩) hga x1
  have C2 := cell_kept (a := ⟨ga, oa + 2, none⟩) hga x2
  have D0 := cell_kept (a := ⟨gb, ob, none⟩) hgb y0
  have D1 := cell_kept (a := ⟨gb, ob + 1, none⟩) hgb y1
  have D2 := cell_kept (a := ⟨gb, ob + 2, none⟩) hgb y2
  have hmx : Try.prog.follows .mixedOrders = true := by kernel_rfl
  clear pa pb va vb a3 b3 hT hp0 hq0 x0 x1 x2 y0 y1 y2 a1 b1
  go_enter Try.func38, Try.ntmps38
  go_wp2
  refine wp_region_quiet_kept (by assumption) (by kernel_rfl) ?_
  repeat (first | go_big_quiet_step (((go_at_call 56; with_reducible exact Calls.kept_of (HC.out _)))) | quiet_step (((go_at_call 56; with_reducible exact Calls.kept_of (HC.out _)))))
  refine wpQuiet_nil ?_
  intro w4 hw'
  have hB : Below w.heap.size w w4 := by obtain ⟨⟨wk, hb0⟩, hw''⟩ := hw'; rw [hw'']; exact hb0
  have HB4 := Lib.hid hB
  clear hw' hB C0 C1 C2 D0 D1 D2 hga hgb HC
  by_cases hor : 1 < N + 1 ∨ 1 < M + 1
  · have HV := Lib.hid (HE.out.trans (by rw [if_pos hor]))
    obtain ⟨g1, o1, e1, hga, x0, x1, x2⟩ := (HPA.out.kept HB4.out) N hN
    cases e1
    obtain ⟨g2, o2, e2, hgb, y0, y1, y2⟩ := (HPB.out.kept HB4.out) M hM
    cases e2
    generalize fa N = p at *
    generalize fb M = q at *
    obtain ⟨D, hD⟩ : ∃ D, cst p q = D := ⟨_, rfl⟩
    rw [hD] at HD HV ed
    have E1 : IntKind.i64.wrap (T + D) = T + D := IntWalk.i64_in _ (by omega)
    have HHD := Lib.hid hD
    clear hD HE ec ed
    have F1 : wrap64 (T + D) = T + D := by rw [← IntWalk.i64_left]; exact E1
    have C0 := cell_kept (a := ⟨ga, oa + N * 3, none⟩) hga x0
    have C1 := cell_kept (a := ⟨ga, oa + N * 3 + 1, none⟩) hga x1
    have C2 := cell_kept (a := ⟨ga, oa + N * 3 + 2, none⟩) hga x2
    have D0 := cell_kept (a := ⟨gb, ob + M * 3, none⟩) hgb y0
    have D1 := cell_kept (a := ⟨gb, ob + M * 3 + 1, none⟩) hgb y1
    have D2 := cell_kept (a := ⟨gb, ob + M * 3 + 2, none⟩) hgb y2
    clear x0 x1 x2 y0 y1 y2
    by_cases h1 : 1 < N + 1
    · have h1i : (1 : Int) < (N : Int) + 1 := by omega
      clear hor h1
      go_wp2
      refine wp_region_quiet_kept (by assumption) (by kernel_rfl) ?_
      repeat (first | go_big_quiet_step (((go_at_call 56; with_reducible exact Calls.kept_of (HD.out _)))) | quiet_step (((go_at_call 56; with_reducible exact Calls.kept_of (HD.out _)))))
      refine wpQuiet_nil ?_
      intro w5 hw'
      have hB : Below w4.heap.size w4 w5 := by obtain ⟨⟨wk, hb0⟩, hw''⟩ := hw'; rw [hw'']; exact hb0
      have HB5 := Lib.hid (HB4.out.trans (hB.mono HB4.out.size))
      clear hw' hB C0 C1 C2 D0 D1 D2 hga hgb
      go_wp2
      go_ret
      exact ⟨by rw [HV.out]; rfl, HB5.out⟩
    · have h1i : ¬ (1 : Int) < (N : Int) + 1 := by omega
      have h2i : (1 : Int) < (M : Int) + 1 := by omega
      clear hor h1
      go_wp2
      refine wp_region_quiet_kept (by assumption) (by kernel_rfl) ?_
      repeat (first | go_big_quiet_step (((go_at_call 56; with_reducible exact Calls.kept_of (HD.out _)))) | quiet_step (((go_at_call 56; with_reducible exact Calls.kept_of (HD.out _)))))
      refine wpQuiet_nil ?_
      intro w5 hw'
      have hB : Below w4.heap.size w4 w5 := by obtain ⟨⟨wk, hb0⟩, hw''⟩ := hw'; rw [hw'']; exact hb0
      have HB5 := Lib.hid (HB4.out.trans (hB.mono HB4.out.size))
      clear hw' hB C0 C1 C2 D0 D1 D2 hga hgb
      go_wp2
      go_ret
      exact ⟨by rw [HV.out]; rfl, HB5.out⟩
  · have HV := Lib.hid (show endsE (N + 1) (M + 1) fa fb = T by rw [HE.out, if_neg hor, Int.add_zero])
    have h1i : ¬ (1 : Int) < (N : Int) + 1 := by omega
    have h2i : ¬ (1 : Int) < (M : Int) + 1 := by omega
    clear hor HE HD
    go_wp2
    go_ret
    exact ⟨by rw [HV.out]; rfl, HB4.out⟩
end Go.Proofs.Ytkcfghbkcgommab.env
