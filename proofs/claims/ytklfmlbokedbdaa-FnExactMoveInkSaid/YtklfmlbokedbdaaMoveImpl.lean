/-
  Proved: both functions that move ink give the same answer for all numbers of 64 bits, in blocks of its own.
  Conditions: the ink lies in a row of its own.
-/
import Derived.Test.YtklfmlbokedbdaaMoveBoth
namespace Go.Proofs.Ytklfmlbokedbdaa.owned
open Go.ChangeShapes Go.WideShapes Go.ChangeAt Go.RowKit Go.Joins
open Go.Proofs.Ytklfmlbokedbdaa.join Go.Proofs.Ytklfmlbokedbdaa.strokes Go.Proofs.Ytklfmlbokedbdaa.valid Go.Proofs.Ytklfmlbokedbdaa.inks Go.Proofs.Ytklfmlbokedbdaa.inkOk
open Go.Proofs.Ytklfmlbokedbdaa.count (vI_len)
set_option linter.unusedVariables false

theorem vS_in {q : List P3} (h : vS q = true) {i : Nat} {p : P3} (hp : q[i]? = some p) : 0 ≤ p.1 ∧ p.1 ≤ 4095 ∧ 0 ≤ p.2.1 ∧ p.2.1 ≤ 4095 ∧ 0 ≤ p.2.2 ∧ p.2.2 ≤ 3600000 := by
  unfold vS at h
  have h' := @of_decide_eq_true _ (Classical.propDecidable _) h
  obtain ⟨p', e, hr, _⟩ := h'.2.2 i (List.getElem?_eq_some_iff.1 hp).1
  rw [hp] at e
  injection e with e
  subst e
  unfold inR at hr
  exact of_decide_eq_true hr
theorem vI_stroke {ink : List (List P3)} (h : vI ink = true) {i : Nat} {q : List P3} (hq : ink[i]? = some q) : vS q = true := by
  obtain ⟨q', e, hv, _⟩ := (vI_out h).2 i (List.getElem?_eq_some_iff.1 hq).1
  rw [hq] at e
  injection e with e
  subst e
  exact hv
theorem times {ink : List (List P3)} (h : vI ink = true) : ∀ i, i < ink.length → ∀ p ∈ FI ink i, -9223372036854775808 ≤ p.2.2 ∧ p.2.2 ≤ 9223372036854775807 := by
  intro i hi p hp
  have e := List.getElem?_eq_getElem hi
  rw [FI_at e] at hp
  obtain ⟨j, hj⟩ := List.getElem?_of_mem hp
  have := vS_in (vI_stroke h e) hj
  omega
/-- A move that is too far takes the first point out of its range. -/
theorem far_out {ink : List (List P3)} {x y : Int} (h : vI ink = true) (hn : 0 < ink.length) (hx : -9223372036854775808 ≤ x ∧ x ≤ 9223372036854775807) (hy : -9223372036854775808 ≤ y ∧ y ≤ 9223372036854775807)
    (hf : ¬ (-4095 ≤ x ∧ x ≤ 4095) ∨ ¬ (-4095 ≤ y ∧ y ≤ 4095)) : vI (mvI x y ink) = false := by
  have e := List.getElem?_eq_getElem hn
  have hs := vI_stroke h e
  have hl := (vS_pos hs).1
  have ep := List.getElem?_eq_getElem (l := ink[0]) (i := 0) (by omega)
  have hr := vS_in hs ep
  have em : (mvI x y ink)[0]? = some (mvS x y ink[0]) := by simp [mvI, e]
  refine vI_at 0 (by rw [mvI_len rfl]; exact hn) (bad1 em ?_)
  refine vS_at 0 (by rw [mvS_len]; omega) ?_
  rintro ⟨p', e', hr', _⟩
  rw [mvS_at ep] at e'
  injection e' with e'
  subst e'
  unfold inR at hr'
  have hr'' := of_decide_eq_true hr'
  simp only [mv] at hr''
  unfold wrap64 at hr''
  omega

theorem both_move (n : Nat) (ink : List (List P3)) (x y : Int) (hx : -9223372036854775808 ≤ x ∧ x ≤ 9223372036854775807) (hy : -9223372036854775808 ≤ y ∧ y ≤ 9223372036854775807) (hn : ink.length = n) (hcap : n ≤ 1048576) (hsm : ∀ q ∈ ink, q.length ≤ 1048576) :
    ∃ (res : List (List P3)) (code : Int), Hid (Takes 43 n ink x y res code) ∧ Hid (Takes 44 n ink x y res code) ∧ res.length ≤ 17 ∧ Hid (∀ q ∈ res, q.length ≤ 60) := by
  cases hv : vI ink with
  | false => exact ⟨[], 1, Lib.hid (specMove_bad x y n ink hn hcap hsm hv), Lib.hid (implMove_bad x y n ink hn hcap hsm hv), by simp, Lib.hid (by simp)⟩
  | true =>
    have h16 := (vI_out hv).1
    by_cases h0 : n = 0
    · subst h0
      refine ⟨[], 0, Lib.hid ?_, Lib.hid (implMove_zero x y ink hn hcap hsm hv), by simp, Lib.hid (by simp)⟩
      by_cases hfx : -4095 ≤ x ∧ x ≤ 4095
      · by_cases hfy : -4095 ≤ y ∧ y ≤ 4095
        · exact specMove_zero3 x y ink hn hcap hsm hv hfx hfy
        · exact specMove_zero2 x y ink hn hcap hsm hv hfx hfy
      · exact specMove_zero1 x y ink hn hcap hsm hv hfx
    · have hn0 : 0 < n := by omega
      have ht := times hv
      rw [hn] at ht
      cases hm : vI (mvI x y ink) with
      | false =>
        refine ⟨[], 2, Lib.hid ?_, Lib.hid (implMove_out x y n ink hn hcap hsm hv hn0 ht hm), by simp, Lib.hid (by simp)⟩
        by_cases hfx : -4095 ≤ x ∧ x ≤ 4095
        · by_cases hfy : -4095 ≤ y ∧ y ≤ 4095
          · exact specMove_out x y n ink hn hcap hsm hv hn0 hfx hfy hm
          · exact specMove_fary x y n ink hn hcap hsm hv hn0 hfx hfy
        · exact specMove_farx x y n ink hn hcap hsm hv hn0 hfx
      | true =>
        have hfx : -4095 ≤ x ∧ x ≤ 4095 := Classical.byContradiction fun hc => by
          have := far_out hv (by omega) hx hy (.inl hc)
          rw [this] at hm; cases hm
        have hfy : -4095 ≤ y ∧ y ≤ 4095 := Classical.byContradiction fun hc => by
          have := far_out hv (by omega) hx hy (.inr hc)
          rw [this] at hm; cases hm
        refine ⟨mvI x y ink, 0, Lib.hid (specMove_ok x y n ink hn hcap hsm hv hn0 hfx hfy hm), Lib.hid (implMove_ok x y n ink hn hcap hsm hv hn0 ht hm), by rw [mvI_len hn]; omega, Lib.hid fun q hq => ?_⟩
        obtain ⟨i, hi⟩ := List.getElem?_of_mem hq
        exact (vI_len hm hi).2
end Go.Proofs.Ytklfmlbokedbdaa.owned
