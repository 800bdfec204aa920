/-
  Proved: what the document's functions that tell the least cost of matching two sequences return.
  Conditions: none.
-/
import Derived.Test.YtkcfghbkcgommabTab
namespace Go.Proofs.Ytkcfghbkcgommab.tab
open Go.ChangeShapes Go.WideShapes Go.ChangeAt Go.RowKit Go.Joins
open Go.Proofs.Ytkcfghbkcgommab.core Go.Proofs.Ytkcfghbkcgommab.rown Go.Proofs.Ytkcfghbkcgommab.stk Go.Proofs.Ytkcfghbkcgommab.boxed Go.Proofs.Ytkcfghbkcgommab.ft Go.Proofs.Ytkcfghbkcgommab.seq
set_option linter.unusedVariables false
set_option linter.unusedSimpArgs false
/-- The least cost is the last one of the table. -/
def leastE (na nb : Nat) (fa fb : Nat → P3) (band : Int) : Int := tab fa fb band (na - 1) (nb - 1)
/-- The code of two lists and a band. -/
noncomputable def elC (na nb : Nat) (fa fb : Nat → P3) (band : Int) : Int := if okQ na fa = true ∧ okQ nb fb = true then (if (0 ≤ band ∧ band ≤ 72) ∧ absv ((na : Int) - (nb : Int)) ≤ band then 0 else 2) else 1
theorem el_of {na nb : Nat} {fa fb : Nat → P3} {band : Int} (h : elC na nb fa fb band = 0) : okQ na fa = true ∧ okQ nb fb = true ∧ (0 ≤ band ∧ band ≤ 72) ∧ absv ((na : Int) - (nb : Int)) ≤ band := by
  unfold elC at h
  split at h
  · rename_i h1
    split at h
    · rename_i h2; exact ⟨h1.1, h1.2, h2.1, h2.2⟩
    · cases h
  · cases h
theorem el_any (na nb : Nat) (fa fb : Nat → P3) (band : Int) : elC na nb fa fb band = 0 ∨ elC na nb fa fb band = 1 ∨ elC na nb fa fb band = 2 := by
  unfold elC; split <;> (try split) <;> simp
set_option maxRecDepth 100000 in
set_option maxHeartbeats 4000000 in
theorem codeS {ca cb : Nat} (A B : Option Addr) (na nb : Nat) (fa fb : Nat → P3) (band : Int) (w : World) (ha : na ≤ 1048576) (hb : nb ≤ 1048576) (pa : PtsAt w A na fa) (pb : PtsAt w B nb fb) :
    Calls Try.prog 23 #[.slice A na ca, .slice B nb cb, .int .i64 band] w fun e w' => e = .returned (.int .i64 (elC na nb fa fb band)) ∧ Below w.heap.size w w' := by
  have HA := Lib.hid (okQS (c := ca) A na fa w ha pa)
  have HPB := Lib.hid pb
  clear pa pb
  cases va : okQ na fa with
  | false =>
    have HV := Lib.hid (show elC na nb fa fb band = 1 by unfold elC; rw [if_neg (fun h => by rw [va] at h; cases h.1)])
    rw [va] at HA
    clear va
    have hu : undef = Value.tuple #[] := rfl
    go_enter Try.func23, Try.ntmps23
    go_wp2_with fail
    refine HA.out.mono ?_
    rintro e w1 ⟨rfl, hb⟩
    have B1 := Lib.hid hb
    clear hb
    go_wp2
    go_ret
    exact ⟨by rw [HV.out]; rfl, B1.out⟩
  | true =>
    rw [va] at HA
    have HQ := Lib.hid (fun W hW => okQS (c := cb) B nb fb W hb hW)
    cases vb : okQ nb fb with
    | false =>
      have HV := Lib.hid (show elC na nb fa fb band = 1 by unfold elC; rw [if_neg (fun h => by rw [vb] at h; cases h.2)])
      rw [vb] at HQ
      clear va vb
      go_enter Try.func23, Try.ntmps23
      go_wp2_with fail
      refine HA.out.mono ?_
      rintro e w1 ⟨rfl, hb1⟩
      have B1 := Lib.hid hb1
      have HQ1 := Lib.hid (HQ.out w1 (HPB.out.kept hb1))
      clear hb1
      go_wp2_with fail
      refine HQ1.out.mono ?_
      rintro e w2 ⟨rfl, hb2⟩
      have B2 := Lib.hid (B1.out.trans (hb2.mono B1.out.size))
      clear hb2
      go_wp2
      go_ret
      exact ⟨by rw [HV.out]; rfl, B2.out⟩
    | true =>
      rw [vb] at HQ
      have ba := okQ_of va
      have bb := okQ_of vb
      have ba2 := ba.2.1
      have bb2 := bb.2.1
      have HV := Lib.hid (show elC na nb fa fb band = if (0 ≤ band ∧ band ≤ 72) ∧ absv ((na : Int) - (nb : Int)) ≤ band then 0 else 2 by unfold elC; rw [if_pos ⟨va, vb⟩])
      clear va vb ba bb
      have hu : undef = Value.tuple #[] := rfl
      by_cases hbd : 0 ≤ band ∧ band ≤ 72
      rotate_left
      · have HW := Lib.hid (HV.out.trans (if_neg (fun h => hbd h.1)))
        have HI := Lib.hid (fun W => in_f band 0 72 hbd W)
        clear HV hbd
        go_enter Try.func23, Try.ntmps23
        go_wp2_with fail
        refine HA.out.mono ?_
        rintro e w1 ⟨rfl, hb1⟩
        have B1 := Lib.hid hb1
        have HQ1 := Lib.hid (HQ.out w1 (HPB.out.kept hb1))
        clear hb1
        go_wp2_with fail
        refine HQ1.out.mono ?_
        rintro e w2 ⟨rfl, hb2⟩
        have B2 := Lib.hid (B1.out.trans (hb2.mono B1.out.size))
        clear hb2
        go_wp2_with fail
        with_reducible refine (HI.out _).mono ?_
        rintro e w3 ⟨rfl, rfl⟩
        go_wp2
        go_ret
        exact ⟨by rw [HW.out]; rfl, B2.out⟩
      have HI := Lib.hid (fun W => in_t band 0 72 hbd W)
      have HS := Lib.hid (fun W => sizeS ((na : Int) - (nb : Int)) (by omega) (by omega) W)
      obtain ⟨D, hD⟩ : ∃ D, (na : Int) - (nb : Int) = D := ⟨_, rfl⟩
      have E1 : IntKind.i64.wrap ((na : Int) - (nb : Int)) = D := by rw [hD]; exact IntWalk.i64_in _ (by omega)
      have E2 : wrap64 ((na : Int) - (nb : Int)) = D := by rw [← IntWalk.i64_left]; exact E1
      rw [hD] at HS HV
      obtain ⟨S, hS⟩ : ∃ S, absv D = S := ⟨_, rfl⟩
      rw [hS] at HS HV
      clear hD hS
      have HW := Lib.hid (show elC na nb fa fb band = if S ≤ band then 0 else 2 by rw [HV.out]; by_cases h : S ≤ band; rw [if_pos ⟨hbd, h⟩, if_pos h]; rw [if_neg (fun h' => h h'.2), if_neg h])
      clear HV hbd
      go_enter Try.func23, Try.ntmps23
      go_wp2_with fail
      refine HA.out.mono ?_
      rintro e w1 ⟨rfl, hb1⟩
      have B1 := Lib.hid hb1
      have HQ1 := Lib.hid (HQ.out w1 (HPB.out.kept hb1))
      clear hb1
      go_wp2_with fail
      refine HQ1.out.mono ?_
      rintro e w2 ⟨rfl, hb2⟩
      have B2 := Lib.hid (B1.out.trans (hb2.mono B1.out.size))
      clear hb2
      go_wp2_with fail
      with_reducible refine (HI.out _).mono ?_
      rintro e w3 ⟨rfl, rfl⟩
      go_wp2_with fail
      with_reducible refine (HS.out _).mono ?_
      rintro e w3 ⟨rfl, rfl⟩
      by_cases h : S ≤ band
      · have h1 : decide (band < S) = false := decide_eq_false (by omega)
        have h2 : ¬ band < S := by omega
        have HX := Lib.hid (HW.out.trans (if_pos h))
        clear HW h
        go_wp2
        go_ret
        exact ⟨by rw [HX.out]; rfl, B2.out⟩
      · have h1 : decide (band < S) = true := decide_eq_true (by omega)
        have h2 : band < S := by omega
        have HX := Lib.hid (HW.out.trans (if_neg h))
        clear HW h
        go_wp2
        go_ret
        exact ⟨by rw [HX.out]; rfl, B2.out⟩
noncomputable def elR (na nb : Nat) (fa fb : Nat → P3) (band : Int) : Int := if elC na nb fa fb band = 0 then leastE na nb fa fb band else 0
end Go.Proofs.Ytkcfghbkcgommab.tab
