/-
  Proved: both functions that ask whether a list are hypotheses return the same.
  Conditions: the list and its labels are not long.
-/
import Derived.Test.YtofgdgdmmlgmnaaHyL
import Derived.Test.YtofgdgdmmlgmnaaHyS
namespace Go.Proofs.Ytofgdgdmmlgmnaa.hyp
open Go.ChangeShapes Go.WideShapes Go.ChangeAt Go.RowKit Go.Joins
open Go.Proofs.Ytofgdgdmmlgmnaa.core Go.Proofs.Ytofgdgdmmlgmnaa.rown Go.Proofs.Ytofgdgdmmlgmnaa.stk Go.Proofs.Ytofgdgdmmlgmnaa.boxed Go.Proofs.Ytofgdgdmmlgmnaa.ft Go.Proofs.Ytofgdgdmmlgmnaa.lab
set_option linter.unusedVariables false
set_option linter.unusedSimpArgs false
theorem hy_row {w : World} {base E m : Nat} {v : Value} {g : Nat → Hy} (h : w.ownsRow base E 2 v m (rws (hyR g) m)) : ∃ A c, v = .slice A m c ∧ HyAt w A m g := by
  have hlen := rws_len (hyR_len g) m
  have h0 := h
  obtain ⟨hl, h⟩ := h
  rcases h with ⟨rfl, hn⟩ | ⟨b, cap, cur, rfl, h1, h2, h3⟩
  · rw [hn] at hlen
    obtain rfl : m = 0 := by simp at hlen; omega
    exact ⟨none, 0, rfl, fun i hi => absurd hi (by omega)⟩
  · have hlt := (Array.getElem?_eq_some_iff.1 h2).1
    refine ⟨some ⟨b, 0, none⟩, cap, rfl, fun i hi => ⟨b, 0, rfl, hlt, ?_, ?_⟩⟩
    · have := row_cell h0 (hyR_len g) hi (show 0 < 2 by omega) rfl
      simpa using this
    · have := row_cell h0 (hyR_len g) hi (show 1 < 2 by omega) rfl
      simpa using this
theorem lst_eq {n : Nat} {f : Nat → Hy} {out : List Hy} : lst n f = out ↔ n = out.length ∧ ∀ i, i < n → f i = atH out i := by
  constructor
  · rintro rfl
    refine ⟨(lst_len n f).symm, fun i hi => ?_⟩
    unfold atH
    rw [List.getD_eq_getElem?_getD, lst_get hi]
    rfl
  · rintro ⟨h1, h2⟩
    apply List.ext_getElem?
    intro i
    rcases Nat.lt_or_ge i n with h | h
    · rw [lst_get h, h2 i h]
      unfold atH
      rw [List.getD_eq_getElem?_getD, List.getElem?_eq_getElem (by omega)]
      rfl
    · rw [List.getElem?_eq_none (by rw [lst_len]; exact h), List.getElem?_eq_none (by omega)]
theorem validHS {c : Nat} (A : Option Addr) (n : Nat) (f : Nat → Hy) (w : World) (hl : HyL n f) (hp : HyAt w A n f) :
    Calls Try.prog 16 #[.slice A n c] w fun e w' => e = .returned (.bool (hyB n f)) ∧ Below w.heap.size w w' := by
  have HO := Lib.hid (hyOkS (c := c) A n f w hl hp)
  clear hp hl
  generalize hyB n f = r at *
  go_enter Try.func16, Try.ntmps16
  go_wp2_with fail
  refine HO.out.mono ?_
  rintro e w1 ⟨rfl, hb⟩
  go_wp2
  go_ret
  exact ⟨rfl, hb⟩
set_option maxRecDepth 100000 in
set_option maxHeartbeats 4000000 in
theorem validHI {c : Nat} (A : Option Addr) (n : Nat) (f : Nat → Hy) (w : World) (hl : HyL n f) (hp : HyAt w A n f) :
    Calls Try.prog 18 #[.slice A n c] w fun e w' => e = .returned (.bool (hyB n f)) ∧ Below w.heap.size w w' := by
  have hund : undef = Value.tuple #[] := rfl
  have hn := hl.hn
  by_cases h8 : n ≤ 8
  · have h8i : (n : Int) ≤ 8 := by omega
    have d8 : decide ((n : Int) ≤ 8) = true := decide_eq_true h8i
    by_cases ha : ∀ i, i < n → hpB (f i) = true
    · have HC := Lib.hid (containsHI (cb := c) A n f true w hl ⟨fun _ => ha, fun _ => rfl⟩ hp)
      have HL := Lib.hid (fun W (hW : Below w.heap.size w W) => leastI (c := c) A n 8 f W (by omega) (by omega) (fun i hi => ⟨hl.s i hi, (hp_iff.1 (ha i hi)).1⟩) (hp.kept hW))
      have HP := Lib.hid (fun W (hW : Below w.heap.size w W) => hp.kept hW)
      have HV := Lib.hid (fun out (h : Least (lst n f) out) => (valid_iff h8 (fun i hi => hp_iff.1 (ha i hi)) h).trans lst_eq)
      clear hp hl ha
      go_enter Try.func18, Try.ntmps18
      go_wp2_with fail
      refine HC.out.mono ?_
      rintro e w1 ⟨rfl, hb1⟩
      have HB1 := Lib.hid hb1
      have HL1 := Lib.hid (HL.out w1 hb1)
      clear hb1 HL HC
      go_wp2_with fail
      refine HL1.out.mono ?_
      rintro e w2 ⟨v, out, rfl, hle, hlen, hrow, hb2⟩
      have HB2 := Lib.hid (HB1.out.trans (hb2.mono HB1.out.size))
      rw [show min out.length 8 = out.length by omega] at hrow
      obtain ⟨B, cb, rfl, hat⟩ := hy_row hrow
      have HQ := Lib.hid (equalHI (ca := c) (cb := cb) A B n out.length f (atH out) (hyB n f) w2 (by omega) (by omega) (HV.out out hle) (HP.out w2 HB2.out) hat)
      clear hrow hat hle hb2 HL1 HV HP HB1
      obtain ⟨r, hr⟩ : ∃ r, hyB n f = r := ⟨_, rfl⟩
      rw [hr] at HQ
      have HRR := Lib.hid hr
      clear hr
      go_wp2_with fail
      refine HQ.out.mono ?_
      rintro e w3 ⟨rfl, hb3⟩
      have HB3 := Lib.hid (HB2.out.trans (hb3.mono HB2.out.size))
      clear hb3
      go_wp2
      go_ret
      exact ⟨by rw [HRR.out]; rfl, HB3.out⟩
    · have HC := Lib.hid (containsHI (cb := c) A n f false w hl ⟨fun h => (by cases h), fun h => absurd h ha⟩ hp)
      have HF := Lib.hid (hy_no (n := n) (f := f) (fun h => ha (fun i hi => hp_iff.2 (h.2 i hi).1)))
      clear hp hl ha
      go_enter Try.func18, Try.ntmps18
      go_wp2_with fail
      refine HC.out.mono ?_
      rintro e w1 ⟨rfl, hb1⟩
      have HB1 := Lib.hid hb1
      clear hb1 HC
      go_wp2
      go_ret
      exact ⟨by rw [HF.out]; rfl, HB1.out⟩
  · have h8i : ¬ (n : Int) ≤ 8 := by omega
    have d8 : decide ((n : Int) ≤ 8) = false := decide_eq_false h8i
    have HF := Lib.hid (hy_no (fun h : HyOk n f => h8 h.1))
    clear hp hl
    go_enter Try.func18, Try.ntmps18
    go_wp2
    go_ret
    exact ⟨by rw [HF.out]; rfl, Below.refl _ _⟩
end Go.Proofs.Ytofgdgdmmlgmnaa.hyp
