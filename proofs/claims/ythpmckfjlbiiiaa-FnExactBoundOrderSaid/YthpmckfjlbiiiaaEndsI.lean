/-
  Proved: what the document's functions that tell the cost of the first and of the last pair return; what the program's functions that tell the cost of the first and of the last pair return.
  Conditions: those of each theorem.
-/
import Derived.Test.YthpmckfjlbiiiaaEnvS
import Derived.Test.YthpmckfjlbiiiaaCostI
namespace Go.Proofs.Ythpmckfjlbiiiaa.env
open Go.ChangeShapes Go.WideShapes Go.ChangeAt Go.RowKit Go.Joins
open Go.Proofs.Ythpmckfjlbiiiaa.core Go.Proofs.Ythpmckfjlbiiiaa.rown Go.Proofs.Ythpmckfjlbiiiaa.stk Go.Proofs.Ythpmckfjlbiiiaa.boxed Go.Proofs.Ythpmckfjlbiiiaa.ft Go.Proofs.Ythpmckfjlbiiiaa.seq
set_option linter.unusedVariables false
set_option linter.unusedSimpArgs false
set_option maxRecDepth 100000 in
set_option maxHeartbeats 8000000 in
theorem endsS {ca cb : Nat} (A B : Option Addr) (na nb : Nat) (fa fb : Nat → P3) (w : World) (pa : PtsAt w A na fa) (pb : PtsAt w B nb fb) (va : okQ na fa = true) (vb : okQ nb fb = true) :
    Calls Try.prog 70 #[.slice A na ca, .slice B nb cb] w fun e w' => e = .returned (.int .i64 (endsE na nb fa fb)) ∧ Below w.heap.size w w' := by
  obtain ⟨a1, a2, a3⟩ := okQ_of va
  obtain ⟨b1, b2, b3⟩ := okQ_of vb
  obtain ⟨N, rfl⟩ : ∃ N, na = N + 1 := ⟨na - 1, by omega⟩
  obtain ⟨M, rfl⟩ : ∃ M, nb = M + 1 := ⟨nb - 1, by omega⟩
  have HPA := Lib.hid pa
  have HPB := Lib.hid pb
  obtain ⟨ga, oa, rfl, hga, x0, x1, x2⟩ := pa 0 (by omega)
  obtain ⟨gb, ob, rfl, hgb, y0, y1, y2⟩ := pb 0 (by omega)
  rw [Nat.zero_mul, Nat.add_zero] at x0 x1 x2 y0 y1 y2
  have ec := cst_in (a3 0 (by omega)) (b3 0 (by omega))
  have ed := cst_in (a3 N (by omega)) (b3 M (by omega))
  have HC := Lib.hid (fun W => costS (fa 0) (fb 0) (a3 0 (by omega)) (b3 0 (by omega)) W)
  have HD := Lib.hid (fun W => costS (fa N) (fb M) (a3 N (by omega)) (b3 M (by omega)) W)
  have HE := Lib.hid (show endsE (N + 1) (M + 1) fa fb = cst (fa 0) (fb 0) + if 1 < N + 1 ∨ 1 < M + 1 then cst (fa N) (fb M) else 0 from rfl)
  have hN : N < N + 1 := by omega
  have hM : M < M + 1 := by omega
  have hNi : (N : Int) < (N : Int) + 1 := by omega
  have hMi : (M : Int) < (M : Int) + 1 := by omega
  have hNw : IntKind.i64.wrap (N : Int) = (N : Int) := IntWalk.i64_in _ (by omega)
  have hMw : IntKind.i64.wrap (M : Int) = (M : Int) := IntWalk.i64_in _ (by omega)
  have h0i : (0 : Int) < (N : Int) + 1 := by omega
  have h0j : (0 : Int) < (M : Int) + 1 := by omega
  have h0n : 0 < N + 1 := by omega
  have h0m : 0 < M + 1 := by omega
  generalize hp0 : fa 0 = p0 at *
  generalize hq0 : fb 0 = q0 at *
  obtain ⟨T, hT⟩ : ∃ T, cst p0 q0 = T := ⟨_, rfl⟩
  rw [hT] at HC HE ec
  have C0 := cell_kept (a := ⟨ga, oa, none⟩) hga x0
  have C1 := cell_kept (a := ⟨ga, oa + 1, none⟩) hga x1
  have C2 := cell_kept (a := ⟨ga, oa + 2, none⟩) hga x2
  have D0 := cell_kept (a := ⟨gb, ob, none⟩) hgb y0
  have D1 := cell_kept (a := ⟨gb, ob + 1, none⟩) hgb y1
  have D2 := cell_kept (a := ⟨gb, ob + 2, none⟩) hgb y2
  have hmx : Try.prog.follows .mixedOrders = true := by kernel_rfl
  clear pa pb va vb a3 b3 hT hp0 hq0 x0 x1 x2 y0 y1 y2 a1 b1
  go_enter Try.func70, Try.ntmps70
  go_wp2
  refine wp_region_quiet_kept (by assumption) (by kernel_rfl) ?_
  repeat (first | go_big_quiet_step (((go_at_call 101; with_reducible exact Calls.kept_of (HC.out _)))) | quiet_step (((go_at_call 101; with_reducible exact Calls.kept_of (HC.out _)))))
  refine wpQuiet_nil ?_
  intro w4 hw'
  have hB : Below w.heap.size w w4 := by obtain ⟨⟨wk, hb0⟩, hw''⟩ := hw'; rw [hw'']; exact hb0
  have HB4 := Lib.hid hB
  clear hw' hB C0 C1 C2 D0 D1 D2 hga hgb HC
  by_cases hor : 1 < N + 1 ∨ 1 < M + 1
  · have HV := Lib.hid (HE.out.trans (by rw [if_pos hor]))
    obtain ⟨g1, o1, e1, hga, x0, x1, x2⟩ := (HPA.out.kept HB4.out) N hN
    cases e1
    obtain ⟨g2, o2, e2, hgb, y0, y1, y2⟩ := (HPB.out.kept HB4.out) M hM
    cases e2
    generalize fa N = p at *
    generalize fb M = q at *
    obtain ⟨D, hD⟩ : ∃ D, cst p q = D := ⟨_, rfl⟩
    rw [hD] at HD HV ed
    have E1 : IntKind.i64.wrap (T + D) = T + D := IntWalk.i64_in _ (by omega)
    have HHD := Lib.hid hD
    clear hD HE ec ed
    have F1 : wrap64 (T + D) = T + D := by rw [← IntWalk.i64_left]; exact E1
    have C0 := cell_kept (a := ⟨ga, oa + N * 3, none⟩) hga x0
    have C1 := cell_kept (a := ⟨ga, oa + N * 3 + 1, none⟩) hga x1
    have C2 := cell_kept (a := ⟨ga, oa + N * 3 + 2, none⟩) hga x2
    have D0 := cell_kept (a := ⟨gb, ob + M * 3, none⟩) hgb y0
    have D1 := cell_kept (a := ⟨gb, ob + M * 3 + 1, none⟩) hgb y1
    have D2 := cell_kept (a := ⟨gb, ob + M * 3 + 2, none⟩) hgb y2
    clear x0 x1 x2 y0 y1 y2
    by_cases h1 : 1 < N + 1
    · have h1i : (1 : Int) < (N : Int) + 1 := by omega
      clear hor h1
      go_wp2
      refine wp_region_quiet_kept (by assumption) (by kernel_rfl) ?_
      repeat (first | go_big_quiet_step (((go_at_call 101; with_reducible exact Calls.kept_of (HD.out _)))) | quiet_step (((go_at_call 101; with_reducible exact Calls.kept_of (HD.out _)))))
      refine wpQuiet_nil ?_
      intro w5 hw'
      have hB : Below w4.heap.size w4 w5 := by obtain ⟨⟨wk, hb0⟩, hw''⟩ := hw'; rw [hw'']; exact hb0
      have HB5 := Lib.hid (HB4.out.trans (hB.mono HB4.out.size))
      clear hw' hB C0 C1 C2 D0 D1 D2 hga hgb
      go_wp2
      go_ret
      exact ⟨by rw [HV.out]; rfl, HB5.out⟩
    · have h1i : ¬ (1 : Int) < (N : Int) + 1 := by omega
      have h2i : (1 : Int) < (M : Int) + 1 := by omega
      clear hor h1
      go_wp2
      refine wp_region_quiet_kept (by assumption) (by kernel_rfl) ?_
      repeat (first | go_big_quiet_step (((go_at_call 101; with_reducible exact Calls.kept_of (HD.out _)))) | quiet_step (((go_at_call 101; with_reducible exact Calls.kept_of (HD.out _)))))
      refine wpQuiet_nil ?_
      intro w5 hw'
      have hB : Below w4.heap.size w4 w5 := by obtain ⟨⟨wk, hb0⟩, hw''⟩ := hw'; rw [hw'']; exact hb0
      have HB5 := Lib.hid (HB4.out.trans (hB.mono HB4.out.size))
      clear hw' hB C0 C1 C2 D0 D1 D2 hga hgb
      go_wp2
      go_ret
      exact ⟨by rw [HV.out]; rfl, HB5.out⟩
  · have HV := Lib.hid (show endsE (N + 1) (M + 1) fa fb = T by rw [HE.out, if_neg hor, Int.add_zero])
    have h1i : ¬ (1 : Int) < (N : Int) + 1 := by omega
    have h2i : ¬ (1 : Int) < (M : Int) + 1 := by omega
    clear hor HE HD
    go_wp2
    go_ret
    exact ⟨by rw [HV.out]; rfl, HB4.out⟩
/-- The code of two lists. -/
noncomputable def twoC (na nb : Nat) (fa fb : Nat → P3) : Int := if okQ na fa = true ∧ okQ nb fb = true then 0 else 1
noncomputable def ebR (na nb : Nat) (fa fb : Nat → P3) : Int := if okQ na fa = true ∧ okQ nb fb = true then endsE na nb fa fb else 0
set_option maxRecDepth 100000 in
set_option maxHeartbeats 4000000 in
theorem endsBoundS {ca cb : Nat} (A B : Option Addr) (na nb : Nat) (fa fb : Nat → P3) (w : World) (ha : na ≤ 1048576) (hb : nb ≤ 1048576) (pa : PtsAt w A na fa) (pb : PtsAt w B nb fb) :
    Calls Try.prog 29 #[.slice A na ca, .slice B nb cb] w fun e w' => e = .returned (.tuple #[.int .i64 (ebR na nb fa fb), .int .i64 (twoC na nb fa fb)]) ∧ Below w.heap.size w w' := by
  have HA := Lib.hid (okQS (c := ca) A na fa w ha pa)
  have HPA := Lib.hid pa
  have HPB := Lib.hid pb
  clear pa pb
  cases va : okQ na fa with
  | false =>
    have HV := Lib.hid (show twoC na nb fa fb = 1 by unfold twoC; rw [if_neg (fun h => by rw [va] at h; cases h.1)])
    have HR := Lib.hid (show ebR na nb fa fb = 0 by unfold ebR; rw [if_neg (fun h => by rw [va] at h; cases h.1)])
    rw [va] at HA
    rw [HV.out, HR.out]
    clear va HV HR
    have hu : undef = Value.tuple #[] := rfl
    go_enter Try.func29, Try.ntmps29
    go_wp2_with fail
    refine HA.out.mono ?_
    rintro e w1 ⟨rfl, hb⟩
    have B1 := Lib.hid hb
    clear hb
    go_wp2
    go_ret2
    exact ⟨rfl, B1.out⟩
  | true =>
    rw [va] at HA
    have HQ := Lib.hid (fun W hW => okQS (c := cb) B nb fb W hb hW)
    cases vb : okQ nb fb with
    | false =>
      have HV := Lib.hid (show twoC na nb fa fb = 1 by unfold twoC; rw [if_neg (fun h => by rw [vb] at h; cases h.2)])
      have HR := Lib.hid (show ebR na nb fa fb = 0 by unfold ebR; rw [if_neg (fun h => by rw [vb] at h; cases h.2)])
      rw [vb] at HQ
      rw [HV.out, HR.out]
      clear va vb HV HR
      go_enter Try.func29, Try.ntmps29
      go_wp2_with fail
      refine HA.out.mono ?_
      rintro e w1 ⟨rfl, hb1⟩
      have B1 := Lib.hid hb1
      have HQ1 := Lib.hid (HQ.out w1 (HPB.out.kept hb1))
      clear hb1
      go_wp2_with fail
      refine HQ1.out.mono ?_
      rintro e w2 ⟨rfl, hb2⟩
      have B2 := Lib.hid (B1.out.trans (hb2.mono B1.out.size))
      clear hb2
      go_wp2
      go_ret2
      exact ⟨rfl, B2.out⟩
    | true =>
      have HV := Lib.hid (show twoC na nb fa fb = 0 by unfold twoC; rw [if_pos ⟨va, vb⟩])
      have HR := Lib.hid (show ebR na nb fa fb = endsE na nb fa fb by unfold ebR; rw [if_pos ⟨va, vb⟩])
      have HE := Lib.hid (fun W hA hB => endsS (ca := ca) (cb := cb) A B na nb fa fb W hA hB va vb)
      rw [vb] at HQ
      rw [HV.out, HR.out]
      clear va vb HV HR
      generalize endsE na nb fa fb = R at *
      go_enter Try.func29, Try.ntmps29
      go_wp2_with fail
      refine HA.out.mono ?_
      rintro e w1 ⟨rfl, hb1⟩
      have B1 := Lib.hid hb1
      have PA1 := Lib.hid (HPA.out.kept hb1)
      have PB1 := Lib.hid (HPB.out.kept hb1)
      have HQ1 := Lib.hid (HQ.out w1 PB1.out)
      clear hb1
      go_wp2_with fail
      refine HQ1.out.mono ?_
      rintro e w2 ⟨rfl, hb2⟩
      have B2 := Lib.hid (B1.out.trans (hb2.mono B1.out.size))
      have HE2 := Lib.hid (HE.out w2 (PA1.out.kept hb2) (PB1.out.kept hb2))
      clear hb2
      go_wp2_with fail
      refine HE2.out.mono ?_
      rintro e w3 ⟨rfl, hb3⟩
      have B3 := Lib.hid (B2.out.trans (hb3.mono B2.out.size))
      clear hb3
      go_wp2
      go_ret2
      exact ⟨rfl, B3.out⟩
end Go.Proofs.Ythpmckfjlbiiiaa.env

namespace Go.Proofs.Ythpmckfjlbiiiaa.env

open Go.ChangeShapes Go.WideShapes Go.ChangeAt Go.RowKit Go.Joins

open Go.Proofs.Ythpmckfjlbiiiaa.core Go.Proofs.Ythpmckfjlbiiiaa.rown Go.Proofs.Ythpmckfjlbiiiaa.stk Go.Proofs.Ythpmckfjlbiiiaa.boxed Go.Proofs.Ythpmckfjlbiiiaa.ft Go.Proofs.Ythpmckfjlbiiiaa.seq
set_option linter.unusedVariables false
set_option linter.unusedSimpArgs false
set_option maxRecDepth 100000 in
set_option maxHeartbeats 8000000 in
theorem endsI {ca cb : Nat} (A B : Option Addr) (na nb : Nat) (fa fb : Nat → P3) (w : World) (pa : PtsAt w A na fa) (pb : PtsAt w B nb fb) (va : okQ na fa = true) (vb : okQ nb fb = true) :
    Calls Try.prog 71 #[.slice A na ca, .slice B nb cb] w fun e w' => e = .returned (.int .i64 (endsE na nb fa fb)) ∧ Below w.heap.size w w' := by
  obtain ⟨a1, a2, a3⟩ := okQ_of va
  obtain ⟨b1, b2, b3⟩ := okQ_of vb
  obtain ⟨N, rfl⟩ : ∃ N, na = N + 1 := ⟨na - 1, by omega⟩
  obtain ⟨M, rfl⟩ : ∃ M, nb = M + 1 := ⟨nb - 1, by omega⟩
  have HPA := Lib.hid pa
  have HPB := Lib.hid pb
  obtain ⟨ga, oa, rfl, hga, x0, x1, x2⟩ := pa 0 (by omega)
  obtain ⟨gb, ob, rfl, hgb, y0, y1, y2⟩ := pb 0 (by omega)
  rw [Nat.zero_mul, Nat.add_zero] at x0 x1 x2 y0 y1 y2
  have ec := cst_in (a3 0 (by omega)) (b3 0 (by omega))
  have ed := cst_in (a3 N (by omega)) (b3 M (by omega))
  have HC := Lib.hid (fun W => costI (fa 0) (fb 0) (a3 0 (by omega)) (b3 0 (by omega)) W)
  have HD := Lib.hid (fun W => costI (fa N) (fb M) (a3 N (by omega)) (b3 M (by omega)) W)
  have HE := Lib.hid (show endsE (N + 1) (M + 1) fa fb = cst (fa 0) (fb 0) + if 1 < N + 1 ∨ 1 < M + 1 then cst (fa N) (fb M) else 0 from rfl)
  have hN : N < N + 1 := by omega
  have hM : M < M + 1 := by omega
  have hNi : (N : Int) < (N : Int) + 1 := by omega
  have hMi : (M : Int) < (M : Int) + 1 := by omega
  have hNw : IntKind.i64.wrap (N : Int) = (N : Int) := IntWalk.i64_in _ (by omega)
  have hMw : IntKind.i64.wrap (M : Int) = (M : Int) := IntWalk.i64_in _ (by omega)
  have h0i : (0 : Int) < (N : Int) + 1 := by omega
  have h0j : (0 : Int) < (M : Int) + 1 := by omega
  have h0n : 0 < N + 1 := by omega
  have h0m : 0 < M + 1 := by omega
  generalize hp0 : fa 0 = p0 at *
  generalize hq0 : fb 0 = q0 at *
  obtain ⟨T, hT⟩ : ∃ T, cst p0 q0 = T := ⟨_, rfl⟩
  rw [hT] at HC HE ec
  have C0 := cell_kept (a := ⟨ga, oa, none⟩) hga x0
  have C1 := cell_kept (a := ⟨ga, oa + 1, none⟩) hga x1
  have C2 := cell_kept (a := ⟨ga, oa + 2, none⟩) hga x2
  have D0 := cell_kept (a := ⟨gb, ob, none⟩) hgb y0
  have D1 := cell_kept (a := ⟨gb, ob + 1, none⟩) hgb y1
  have D2 := cell_kept (a := ⟨gb, ob + 2, none⟩) hgb y2
  have hmx : Try.prog.follows .mixedOrders = true := by kernel_rfl
  clear pa pb va vb a3 b3 hT hp0 hq0 x0 x1 x2 y0 y1 y2 a1 b1
  go_enter Try.func71, Try.ntmps71
  go_wp2
  refine wp_region_quiet_kept (by assumption) (by kernel_rfl) ?_
  repeat (first | go_big_quiet_step (((go_at_call 102; with_reducible exact Calls.kept_of (HC.out _)))) | quiet_step (((go_at_call 102; with_reducible exact Calls.kept_of (HC.out _)))))
  refine wpQuiet_nil ?_
  intro w4 hw'
  have hB : Below w.heap.size w w4 := by obtain ⟨⟨wk, hb0⟩, hw''⟩ := hw'; rw [hw'']; exact hb0
  have HB4 := Lib.hid hB
  clear hw' hB C0 C1 C2 D0 D1 D2 hga hgb HC
  by_cases hor : 1 < N + 1 ∨ 1 < M + 1
  · have HV := Lib.hid (HE.out.trans (by rw [if_pos hor]))
    obtain ⟨g1, o1, e1, hga, x0, x1, x2⟩ := (HPA.out.kept HB4.out) N hN
    cases e1
    obtain ⟨g2, o2, e2, hgb, y0, y1, y2⟩ := (HPB.out.kept HB4.out) M hM
    cases e2
    generalize fa N = p at *
    generalize fb M = q at *
    obtain ⟨D, hD⟩ : ∃ D, cst p q = D := ⟨_, rfl⟩
    rw [hD] at HD HV ed
    have E1 : IntKind.i64.wrap (T + D) = T + D := IntWalk.i64_in _ (by omega)
    have HHD := Lib.hid hD
    clear hD HE ec ed
    have F1 : wrap64 (T + D) = T + D := by rw [← IntWalk.i64_left]; exact E1
    have C0 := cell_kept (a := ⟨ga, oa + N * 3, none⟩) hga x0
    have C1 := cell_kept (a := ⟨ga, oa + N * 3 + 1, none⟩) hga x1
    have C2 := cell_kept (a := ⟨ga, oa + N * 3 + 2, none⟩) hga x2
    have D0 := cell_kept (a := ⟨gb, ob + M * 3, none⟩) hgb y0
    have D1 := cell_kept (a := ⟨gb, ob + M * 3 + 1, none⟩) hgb y1
    have D2 := cell_kept (a := ⟨gb, ob + M * 3 + 2, none⟩) hgb y2
    clear x0 x1 x2 y0 y1 y2
    by_cases h1 : 1 < N + 1
    · have h1i : (1 : Int) < (N : Int) + 1 := by omega
      clear hor h1
      go_wp2
      refine wp_region_quiet_kept (by assumption) (by kernel_rfl) ?_
      repeat (first | go_big_quiet_step (((go_at_call 102; with_reducible exact Calls.kept_of (HD.out _)))) | quiet_step (((go_at_call 102; with_reducible exact Calls.kept_of (HD.out _)))))
      refine wpQuiet_nil ?_
      intro w5 hw'
      have hB : Below w4.heap.size w4 w5 := by obtain ⟨⟨wk, hb0⟩, hw''⟩ := hw'; rw [hw'']; exact hb0
      have HB5 := Lib.hid (HB4.out.trans (hB.mono HB4.out.size))
      clear hw' hB C0 C1 C2 D0 D1 D2 hga hgb
      go_wp2
      go_ret
      exact ⟨by rw [HV.out]; rfl, HB5.out⟩
    · have h1i : ¬ (1 : Int) < (N : Int) + 1 := by omega
      have h2i : (1 : Int) < (M : Int) + 1 := by omega
      clear hor h1
      go_wp2
      refine wp_region_quiet_kept (by assumption) (by kernel_rfl) ?_
      repeat (first | go_big_quiet_step (((go_at_call 102; with_reducible exact Calls.kept_of (HD.out _)))) | quiet_step (((go_at_call 102; with_reducible exact Calls.kept_of (HD.out _)))))
      refine wpQuiet_nil ?_
      intro w5 hw'
      have hB : Below w4.heap.size w4 w5 := by obtain ⟨⟨wk, hb0⟩, hw''⟩ := hw'; rw [hw'']; exact hb0
      have HB5 := Lib.hid (HB4.out.trans (hB.mono HB4.out.size))
      clear hw' hB C0 C1 C2 D0 D1 D2 hga hgb
      go_wp2
      go_ret
      exact ⟨by rw [HV.out]; rfl, HB5.out⟩
  · have HV := Lib.hid (show endsE (N + 1) (M + 1) fa fb = T by rw [HE.out, if_neg hor, Int.add_zero])
    have h1i : ¬ (1 : Int) < (N : Int) + 1 := by omega
    have h2i : ¬ (1 : Int) < (M : Int) + 1 := by omega
    clear hor HE HD
    go_wp2
    go_ret
    exact ⟨by rw [HV.out]; rfl, HB4.out⟩
set_option maxRecDepth 100000 in
set_option maxHeartbeats 4000000 in
theorem endsBoundI {ca cb : Nat} (A B : Option Addr) (na nb : Nat) (fa fb : Nat → P3) (w : World) (ha : na ≤ 1048576) (hb : nb ≤ 1048576) (pa : PtsAt w A na fa) (pb : PtsAt w B nb fb) :
    Calls Try.prog 30 #[.slice A na ca, .slice B nb cb] w fun e w' => e = .returned (.tuple #[.int .i64 (ebR na nb fa fb), .int .i64 (twoC na nb fa fb)]) ∧ Below w.heap.size w w' := by
  have HA := Lib.hid (okQI (c := ca) A na fa w ha pa)
  have HPA := Lib.hid pa
  have HPB := Lib.hid pb
  clear pa pb
  cases va : okQ na fa with
  | false =>
    have HV := Lib.hid (show twoC na nb fa fb = 1 by unfold twoC; rw [if_neg (fun h => by rw [va] at h; cases h.1)])
    have HR := Lib.hid (show ebR na nb fa fb = 0 by unfold ebR; rw [if_neg (fun h => by rw [va] at h; cases h.1)])
    rw [va] at HA
    rw [HV.out, HR.out]
    clear va HV HR
    have hu : undef = Value.tuple #[] := rfl
    go_enter Try.func30, Try.ntmps30
    go_wp2_with fail
    refine HA.out.mono ?_
    rintro e w1 ⟨rfl, hb⟩
    have B1 := Lib.hid hb
    clear hb
    go_wp2
    go_ret2
    exact ⟨rfl, B1.out⟩
  | true =>
    rw [va] at HA
    have HQ := Lib.hid (fun W hW => okQI (c := cb) B nb fb W hb hW)
    cases vb : okQ nb fb with
    | false =>
      have HV := Lib.hid (show twoC na nb fa fb = 1 by unfold twoC; rw [if_neg (fun h => by rw [vb] at h; cases h.2)])
      have HR := Lib.hid (show ebR na nb fa fb = 0 by unfold ebR; rw [if_neg (fun h => by rw [vb] at h; cases h.2)])
      rw [vb] at HQ
      rw [HV.out, HR.out]
      clear va vb HV HR
      go_enter Try.func30, Try.ntmps30
      go_wp2_with fail
      refine HA.out.mono ?_
      rintro e w1 ⟨rfl, hb1⟩
      have B1 := Lib.hid hb1
      have HQ1 := Lib.hid (HQ.out w1 (HPB.out.kept hb1))
      clear hb1
      go_wp2_with fail
      refine HQ1.out.mono ?_
      rintro e w2 ⟨rfl, hb2⟩
      have B2 := Lib.hid (B1.out.trans (hb2.mono B1.out.size))
      clear hb2
      go_wp2
      go_ret2
      exact ⟨rfl, B2.out⟩
    | true =>
      have HV := Lib.hid (show twoC na nb fa fb = 0 by unfold twoC; rw [if_pos ⟨va, vb⟩])
      have HR := Lib.hid (show ebR na nb fa fb = endsE na nb fa fb by unfold ebR; rw [if_pos ⟨va, vb⟩])
      have HE := Lib.hid (fun W hA hB => endsI (ca := ca) (cb := cb) A B na nb fa fb W hA hB va vb)
      rw [vb] at HQ
      rw [HV.out, HR.out]
      clear va vb HV HR
      generalize endsE na nb fa fb = R at *
      go_enter Try.func30, Try.ntmps30
      go_wp2_with fail
      refine HA.out.mono ?_
      rintro e w1 ⟨rfl, hb1⟩
      have B1 := Lib.hid hb1
      have PA1 := Lib.hid (HPA.out.kept hb1)
      have PB1 := Lib.hid (HPB.out.kept hb1)
      have HQ1 := Lib.hid (HQ.out w1 PB1.out)
      clear hb1
      go_wp2_with fail
      refine HQ1.out.mono ?_
      rintro e w2 ⟨rfl, hb2⟩
      have B2 := Lib.hid (B1.out.trans (hb2.mono B1.out.size))
      have HE2 := Lib.hid (HE.out w2 (PA1.out.kept hb2) (PB1.out.kept hb2))
      clear hb2
      go_wp2_with fail
      refine HE2.out.mono ?_
      rintro e w3 ⟨rfl, hb3⟩
      have B3 := Lib.hid (B2.out.trans (hb3.mono B2.out.size))
      clear hb3
      go_wp2
      go_ret2
      exact ⟨rfl, B3.out⟩
end Go.Proofs.Ythpmckfjlbiiiaa.env
