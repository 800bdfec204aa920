/-
  Proved: what the document's functions that tell the least cost of matching two sequences return.
  Conditions: none.
-/
import Derived.Test.YthpmckfjlbiiiaaTab
namespace Go.Proofs.Ythpmckfjlbiiiaa.tab
open Go.ChangeShapes Go.WideShapes Go.ChangeAt Go.RowKit Go.Joins
open Go.Proofs.Ythpmckfjlbiiiaa.core Go.Proofs.Ythpmckfjlbiiiaa.rown Go.Proofs.Ythpmckfjlbiiiaa.stk Go.Proofs.Ythpmckfjlbiiiaa.boxed Go.Proofs.Ythpmckfjlbiiiaa.ft Go.Proofs.Ythpmckfjlbiiiaa.seq
set_option linter.unusedVariables false
set_option linter.unusedSimpArgs false
/-- The least cost is the last one of the table. -/
def leastE (na nb : Nat) (fa fb : Nat → P3) (band : Int) : Int := tab fa fb band (na - 1) (nb - 1)
set_option maxRecDepth 100000 in
set_option maxHeartbeats 4000000 in
theorem leastS {ca cb : Nat} (A B : Option Addr) (na nb : Nat) (fa fb : Nat → P3) (band : Int) (w : World) (pa : PtsAt w A na fa) (pb : PtsAt w B nb fb) (va : okQ na fa = true) (vb : okQ nb fb = true) :
    Calls Try.prog 78 #[.slice A na ca, .slice B nb cb, .int .i64 band] w fun e w' => e = .returned (.int .i64 (leastE na nb fa fb band)) ∧ Below w.heap.size w w' := by
  obtain ⟨a1, a2, a3⟩ := okQ_of va
  obtain ⟨b1, b2, b3⟩ := okQ_of vb
  have HT := Lib.hid (tableS (ca := ca) (cb := cb) A B na nb fa fb band w a2 b2 pa pb a3 b3)
  have hN : (na - 1) * nb + nb = na * nb := by rw [← Nat.succ_mul]; congr 1; omega
  have HQ := Lib.hid (show tabQ fa fb band nb (na * nb - 1) = leastE na nb fa fb band by
    rw [show na * nb - 1 = (na - 1) * nb + (nb - 1) by omega]
    exact tabQ_at fa fb band (by omega))
  have hNb : na * nb ≤ 5184 := Nat.mul_le_mul a2 b2
  obtain ⟨N, hNN⟩ : ∃ N, na * nb = N := ⟨_, rfl⟩
  rw [hNN] at HT HQ hNb hN
  clear pa pb va vb a3 b3 hNN
  obtain ⟨K, rfl⟩ : ∃ K, N = K + 1 := ⟨N - 1, by omega⟩
  rw [Nat.add_sub_cancel] at HQ
  have hK1 : (K : Int) < (K : Int) + 1 := by omega
  have hK2 : K < K + 1 := by omega
  have hK3 : IntKind.i64.wrap (K : Int) = (K : Int) := IntWalk.i64_in _ (by omega)
  clear hN
  go_enter Try.func78, Try.ntmps78
  go_wp2_with fail
  refine HT.out.mono ?_
  rintro e w1 ⟨rfl, ho, hb⟩
  have HB := Lib.hid hb
  have x0 := one_cell ho hK2
  rw [HQ.out] at x0
  obtain ⟨v, hv⟩ : ∃ v, leastE na nb fa fb band = v := ⟨_, rfl⟩
  have HVV := Lib.hid hv
  rw [hv] at x0
  have xz := rown.row_lt ho
  clear hb ho hv
  go_wp2
  go_ret
  exact ⟨by rw [HVV.out]; rfl, HB.out⟩
/-- The code of two lists and a band. -/
noncomputable def elC (na nb : Nat) (fa fb : Nat → P3) (band : Int) : Int := if okQ na fa = true ∧ okQ nb fb = true then (if (0 ≤ band ∧ band ≤ 72) ∧ absv ((na : Int) - (nb : Int)) ≤ band then 0 else 2) else 1
theorem el_of {na nb : Nat} {fa fb : Nat → P3} {band : Int} (h : elC na nb fa fb band = 0) : okQ na fa = true ∧ okQ nb fb = true ∧ (0 ≤ band ∧ band ≤ 72) ∧ absv ((na : Int) - (nb : Int)) ≤ band := by
  unfold elC at h
  split at h
  · rename_i h1
    split at h
    · rename_i h2; exact ⟨h1.1, h1.2, h2.1, h2.2⟩
    · cases h
  · cases h
theorem el_any (na nb : Nat) (fa fb : Nat → P3) (band : Int) : elC na nb fa fb band = 0 ∨ elC na nb fa fb band = 1 ∨ elC na nb fa fb band = 2 := by
  unfold elC; split <;> (try split) <;> simp
set_option maxRecDepth 100000 in
set_option maxHeartbeats 4000000 in
theorem codeS {ca cb : Nat} (A B : Option Addr) (na nb : Nat) (fa fb : Nat → P3) (band : Int) (w : World) (ha : na ≤ 1048576) (hb : nb ≤ 1048576) (pa : PtsAt w A na fa) (pb : PtsAt w B nb fb) :
    Calls Try.prog 72 #[.slice A na ca, .slice B nb cb, .int .i64 band] w fun e w' => e = .returned (.int .i64 (elC na nb fa fb band)) ∧ Below w.heap.size w w' := by
  have HA := Lib.hid (okQS (c := ca) A na fa w ha pa)
  have HPB := Lib.hid pb
  clear pa pb
  cases va : okQ na fa with
  | false =>
    have HV := Lib.hid (show elC na nb fa fb band = 1 by unfold elC; rw [if_neg (fun h => by rw [va] at h; cases h.1)])
    rw [va] at HA
    clear va
    have hu : undef = Value.tuple #[] := rfl
    go_enter Try.func72, Try.ntmps72
    go_wp2_with fail
    refine HA.out.mono ?_
    rintro e w1 ⟨rfl, hb⟩
    have B1 := Lib.hid hb
    clear hb
    go_wp2
    go_ret
    exact ⟨by rw [HV.out]; rfl, B1.out⟩
  | true =>
    rw [va] at HA
    have HQ := Lib.hid (fun W hW => okQS (c := cb) B nb fb W hb hW)
    cases vb : okQ nb fb with
    | false =>
      have HV := Lib.hid (show elC na nb fa fb band = 1 by unfold elC; rw [if_neg (fun h => by rw [vb] at h; cases h.2)])
      rw [vb] at HQ
      clear va vb
      go_enter Try.func72, Try.ntmps72
      go_wp2_with fail
      refine HA.out.mono ?_
      rintro e w1 ⟨rfl, hb1⟩
      have B1 := Lib.hid hb1
      have HQ1 := Lib.hid (HQ.out w1 (HPB.out.kept hb1))
      clear hb1
      go_wp2_with fail
      refine HQ1.out.mono ?_
      rintro e w2 ⟨rfl, hb2⟩
      have B2 := Lib.hid (B1.out.trans (hb2.mono B1.out.size))
      clear hb2
      go_wp2
      go_ret
      exact ⟨by rw [HV.out]; rfl, B2.out⟩
    | true =>
      rw [vb] at HQ
      have ba := okQ_of va
      have bb := okQ_of vb
      have ba2 := ba.2.1
      have bb2 := bb.2.1
      have HV := Lib.hid (show elC na nb fa fb band = if (0 ≤ band ∧ band ≤ 72) ∧ absv ((na : Int) - (nb : Int)) ≤ band then 0 else 2 by unfold elC; rw [if_pos ⟨va, vb⟩])
      clear va vb ba bb
      have hu : undef = Value.tuple #[] := rfl
      by_cases hbd : 0 ≤ band ∧ band ≤ 72
      rotate_left
      · have HW := Lib.hid (HV.out.trans (if_neg (fun h => hbd h.1)))
        have HI := Lib.hid (fun W => in_f band 0 72 hbd W)
        clear HV hbd
        go_enter Try.func72, Try.ntmps72
        go_wp2_with fail
        refine HA.out.mono ?_
        rintro e w1 ⟨rfl, hb1⟩
        have B1 := Lib.hid hb1
        have HQ1 := Lib.hid (HQ.out w1 (HPB.out.kept hb1))
        clear hb1
        go_wp2_with fail
        refine HQ1.out.mono ?_
        rintro e w2 ⟨rfl, hb2⟩
        have B2 := Lib.hid (B1.out.trans (hb2.mono B1.out.size))
        clear hb2
        go_wp2_with fail
        with_reducible refine (HI.out _).mono ?_
        rintro e w3 ⟨rfl, rfl⟩
        go_wp2
        go_ret
        exact ⟨by rw [HW.out]; rfl, B2.out⟩
      have HI := Lib.hid (fun W => in_t band 0 72 hbd W)
      have HS := Lib.hid (fun W => sizeS ((na : Int) - (nb : Int)) (by omega) (by omega) W)
      obtain ⟨D, hD⟩ : ∃ D, (na : Int) - (nb : Int) = D := ⟨_, rfl⟩
      have E1 : IntKind.i64.wrap ((na : Int) - (nb : Int)) = D := by rw [hD]; exact IntWalk.i64_in _ (by omega)
      have E2 : wrap64 ((na : Int) - (nb : Int)) = D := by rw [← IntWalk.i64_left]; exact E1
      rw [hD] at HS HV
      obtain ⟨S, hS⟩ : ∃ S, absv D = S := ⟨_, rfl⟩
      rw [hS] at HS HV
      clear hD hS
      have HW := Lib.hid (show elC na nb fa fb band = if S ≤ band then 0 else 2 by rw [HV.out]; by_cases h : S ≤ band; rw [if_pos ⟨hbd, h⟩, if_pos h]; rw [if_neg (fun h' => h h'.2), if_neg h])
      clear HV hbd
      go_enter Try.func72, Try.ntmps72
      go_wp2_with fail
      refine HA.out.mono ?_
      rintro e w1 ⟨rfl, hb1⟩
      have B1 := Lib.hid hb1
      have HQ1 := Lib.hid (HQ.out w1 (HPB.out.kept hb1))
      clear hb1
      go_wp2_with fail
      refine HQ1.out.mono ?_
      rintro e w2 ⟨rfl, hb2⟩
      have B2 := Lib.hid (B1.out.trans (hb2.mono B1.out.size))
      clear hb2
      go_wp2_with fail
      with_reducible refine (HI.out _).mono ?_
      rintro e w3 ⟨rfl, rfl⟩
      go_wp2_with fail
      with_reducible refine (HS.out _).mono ?_
      rintro e w3 ⟨rfl, rfl⟩
      by_cases h : S ≤ band
      · have h1 : decide (band < S) = false := decide_eq_false (by omega)
        have h2 : ¬ band < S := by omega
        have HX := Lib.hid (HW.out.trans (if_pos h))
        clear HW h
        go_wp2
        go_ret
        exact ⟨by rw [HX.out]; rfl, B2.out⟩
      · have h1 : decide (band < S) = true := decide_eq_true (by omega)
        have h2 : band < S := by omega
        have HX := Lib.hid (HW.out.trans (if_neg h))
        clear HW h
        go_wp2
        go_ret
        exact ⟨by rw [HX.out]; rfl, B2.out⟩
noncomputable def elR (na nb : Nat) (fa fb : Nat → P3) (band : Int) : Int := if elC na nb fa fb band = 0 then leastE na nb fa fb band else 0
set_option maxRecDepth 100000 in
set_option maxHeartbeats 4000000 in
theorem elasticS {ca cb : Nat} (A B : Option Addr) (na nb : Nat) (fa fb : Nat → P3) (band : Int) (w : World) (ha : na ≤ 1048576) (hb : nb ≤ 1048576) (pa : PtsAt w A na fa) (pb : PtsAt w B nb fb) :
    Calls Try.prog 48 #[.slice A na ca, .slice B nb cb, .int .i64 band] w fun e w' => e = .returned (.tuple #[.int .i64 (elR na nb fa fb band), .int .i64 (elC na nb fa fb band)]) ∧ Below w.heap.size w w' := by
  have HC := Lib.hid (codeS (ca := ca) (cb := cb) A B na nb fa fb band w ha hb pa pb)
  have HPA := Lib.hid pa
  have HPB := Lib.hid pb
  clear pa pb
  by_cases h0 : elC na nb fa fb band = 0
  rotate_left
  · have HR := Lib.hid (show elR na nb fa fb band = 0 by unfold elR; rw [if_neg h0])
    have h12 : elC na nb fa fb band = 1 ∨ elC na nb fa fb band = 2 := by have := el_any na nb fa fb band; omega
    rw [HR.out]
    clear h0 HR HPA HPB
    rcases h12 with h | h
    all_goals
      rw [h] at HC ⊢
      clear h
      go_enter Try.func48, Try.ntmps48
      go_wp2_with fail
      refine HC.out.mono ?_
      rintro e w1 ⟨rfl, hb1⟩
      have B1 := Lib.hid hb1
      clear hb1
      go_wp2
      go_ret2
      exact ⟨rfl, B1.out⟩
  have HR := Lib.hid (show elR na nb fa fb band = leastE na nb fa fb band by unfold elR; rw [if_pos h0])
  obtain ⟨v1, v2, -, -⟩ := el_of h0
  have HL := Lib.hid (fun W hA hB => leastS (ca := ca) (cb := cb) A B na nb fa fb band W hA hB v1 v2)
  rw [HR.out]
  rw [h0] at HC ⊢
  clear h0 HR v1 v2
  obtain ⟨v, hv⟩ : ∃ v, leastE na nb fa fb band = v := ⟨_, rfl⟩
  rw [hv] at HL ⊢
  clear hv
  go_enter Try.func48, Try.ntmps48
  go_wp2_with fail
  refine HC.out.mono ?_
  rintro e w1 ⟨rfl, hb1⟩
  have B1 := Lib.hid hb1
  have HL1 := Lib.hid (HL.out w1 (HPA.out.kept hb1) (HPB.out.kept hb1))
  clear hb1 HC HPA HPB HL
  go_wp2_with fail
  refine HL1.out.mono ?_
  rintro e w2 ⟨rfl, hb2⟩
  have B2 := Lib.hid (B1.out.trans (hb2.mono B1.out.size))
  clear hb2
  go_wp2
  go_ret2
  exact ⟨rfl, B2.out⟩
end Go.Proofs.Ythpmckfjlbiiiaa.tab
