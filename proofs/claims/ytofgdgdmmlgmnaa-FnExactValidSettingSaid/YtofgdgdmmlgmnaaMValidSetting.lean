/-
  Proved: both functions that tell whether a setting is valid return the same answer.
  Conditions: none.
-/
import Derived.Test.YtofgdgdmmlgmnaaFt
namespace Go.Proofs.Ytofgdgdmmlgmnaa.wValidSetting
open Go.ChangeShapes Go.WideShapes Go.ChangeAt Go.RowKit Go.Joins
open Go.Proofs.Ytofgdgdmmlgmnaa.core Go.Proofs.Ytofgdgdmmlgmnaa.rown Go.Proofs.Ytofgdgdmmlgmnaa.stk Go.Proofs.Ytofgdgdmmlgmnaa.boxed Go.Proofs.Ytofgdgdmmlgmnaa.ft
set_option linter.unusedVariables false
set_option linter.unusedSimpArgs false
def seB (p : P3) : Bool := decide ((2 ≤ p.1 ∧ p.1 ≤ 24) ∧ (1 ≤ p.2.1 ∧ p.2.1 ≤ 8) ∧ 0 ≤ p.2.2 ∧ p.2.2 ≤ 1000)
def stOf (g : Nat → Dat) : P3 := (dInt (g 0), dInt (g 1), dInt (g 2))
theorem reads_st {W : World} {us : Nat → Value} {g : Nat → Dat} (h : ReadsRec W 3 us g) (ht : tyrSetting g) : (.agg #[us 0, us 1, us 2] : Value) = .agg #[.int .i64 (stOf g).1, .int .i64 (stOf g).2.1, .int .i64 (stOf g).2.2] := by
  obtain ⟨⟨x, hx⟩, ⟨y, hy⟩, ⟨z, hz⟩⟩ := ht
  have h0 := h 0 (by omega)
  have h1 := h 1 (by omega)
  have h2 := h 2 (by omega)
  rw [hx] at h0
  rw [hy] at h1
  rw [hz] at h2
  rw [h0.int_inv.1, h1.int_inv.1, h2.int_inv.1]
  simp [stOf, hx, hy, hz, dInt]
def cnB (q : Int) : Bool := decide (1 ≤ q ∧ q ≤ 8)
theorem countI (q : Int) (w : World) : Calls Try.prog 44 #[.int .i64 q] w fun e w' => e = .returned (.bool (cnB q)) ∧ w = w' := by
  have hund : undef = Value.tuple #[] := rfl
  by_cases h0 : 1 ≤ q
  · by_cases h1 : q ≤ 8
    · have HF := Lib.hid (show cnB q = true from decide_eq_true (show 1 ≤ q ∧ q ≤ 8 from ⟨h0, h1⟩))
      have d1 : decide (q ≤ 8) = true := decide_eq_true h1
      go_enter Try.func44, Try.ntmps44
      go_wp2
      go_ret
      exact ⟨by rw [HF.out]; rfl, rfl⟩
    · have HF := Lib.hid (show cnB q = false from decide_eq_false (show ¬ (1 ≤ q ∧ q ≤ 8) from fun h => h1 h.2))
      have d1 : decide (q ≤ 8) = false := decide_eq_false h1
      go_enter Try.func44, Try.ntmps44
      go_wp2
      go_ret
      exact ⟨by rw [HF.out]; rfl, rfl⟩
  · have HF := Lib.hid (show cnB q = false from decide_eq_false (show ¬ (1 ≤ q ∧ q ≤ 8) from fun h => h0 h.1))
    go_enter Try.func44, Try.ntmps44
    go_wp2
    go_ret
    exact ⟨by rw [HF.out]; rfl, rfl⟩
set_option maxRecDepth 100000 in
set_option maxHeartbeats 2000000 in
theorem settS (b : Nat) (x y z : Int) (w : World) (hb : b < w.heap.size) (c0 : w.cell? ⟨b, 0, none⟩ = some (.int .i64 x)) (c1 : w.cell? ⟨b, 1, none⟩ = some (.int .i64 y)) (c2 : w.cell? ⟨b, 2, none⟩ = some (.int .i64 z)) :
    Calls Try.prog 43 #[.pointer (some ⟨b, 0, none⟩)] w fun e w' => e = .returned (.bool (seB (x, y, z))) ∧ w = w' := by
  have hund : undef = Value.tuple #[] := rfl
  by_cases hA : 2 ≤ x ∧ x ≤ 24
  · by_cases hB : 1 ≤ y ∧ y ≤ 8
    · by_cases hC : 0 ≤ z ∧ z ≤ 1000
      · have HF := Lib.hid (show seB (x, y, z) = true from decide_eq_true (by simp only; omega))
        have A := Lib.hid (fun W => in_t x 2 24 hA W)
        have B := Lib.hid (fun W => in_t y 1 8 hB W)
        have C := Lib.hid (fun W => in_t z 0 1000 hC W)
        clear hA hB hC
        go_enter Try.func43, Try.ntmps43
        go_wp2_with fail
        refine (A.out _).mono ?_
        rintro e _ ⟨rfl, rfl⟩
        go_wp2_with fail
        refine (B.out _).mono ?_
        rintro e _ ⟨rfl, rfl⟩
        go_wp2_with fail
        refine (C.out _).mono ?_
        rintro e _ ⟨rfl, rfl⟩
        go_wp2
        go_ret
        exact ⟨by rw [HF.out]; rfl, rfl⟩
      · have HF := Lib.hid (show seB (x, y, z) = false from decide_eq_false (by simp only; omega))
        have A := Lib.hid (fun W => in_t x 2 24 hA W)
        have B := Lib.hid (fun W => in_t y 1 8 hB W)
        have C := Lib.hid (fun W => in_f z 0 1000 hC W)
        clear hA hB hC
        go_enter Try.func43, Try.ntmps43
        go_wp2_with fail
        refine (A.out _).mono ?_
        rintro e _ ⟨rfl, rfl⟩
        go_wp2_with fail
        refine (B.out _).mono ?_
        rintro e _ ⟨rfl, rfl⟩
        go_wp2_with fail
        refine (C.out _).mono ?_
        rintro e _ ⟨rfl, rfl⟩
        go_wp2
        go_ret
        exact ⟨by rw [HF.out]; rfl, rfl⟩
    · have HF := Lib.hid (show seB (x, y, z) = false from decide_eq_false (by simp only; omega))
      have A := Lib.hid (fun W => in_t x 2 24 hA W)
      have B := Lib.hid (fun W => in_f y 1 8 hB W)
      clear hA hB
      go_enter Try.func43, Try.ntmps43
      go_wp2_with fail
      refine (A.out _).mono ?_
      rintro e _ ⟨rfl, rfl⟩
      go_wp2_with fail
      refine (B.out _).mono ?_
      rintro e _ ⟨rfl, rfl⟩
      go_wp2
      go_ret
      exact ⟨by rw [HF.out]; rfl, rfl⟩
  · have HF := Lib.hid (show seB (x, y, z) = false from decide_eq_false (by simp only; omega))
    have A := Lib.hid (fun W => in_f x 2 24 hA W)
    clear hA
    go_enter Try.func43, Try.ntmps43
    go_wp2_with fail
    refine (A.out _).mono ?_
    rintro e _ ⟨rfl, rfl⟩
    go_wp2
    go_ret
    exact ⟨by rw [HF.out]; rfl, rfl⟩
theorem spec_calls (x y z : Int) (w : World) : Calls Try.prog 12 #[.agg #[.int .i64 x, .int .i64 y, .int .i64 z]] w fun e w' => e = .returned (.bool (seB (x, y, z))) ∧ Below w.heap.size w w' := by
  have HC := Lib.hid (settS w.heap.size x y z (w.alloc (.cells #[.int .i64 x, .int .i64 y, .int .i64 z] 25)) (by simp) (by simp) (by simp) (by simp))
  have HB := Lib.hid (below_alloc1 w (.cells #[.int .i64 x, .int .i64 y, .int .i64 z] 25))
  obtain ⟨r, hr⟩ : ∃ r, seB (x, y, z) = r := ⟨_, rfl⟩
  rw [hr] at HC
  have HR := Lib.hid hr
  clear hr
  go_enter Try.func12, Try.ntmps12
  go_wp2_with fail
  refine HC.out.mono ?_
  rintro e _ ⟨rfl, rfl⟩
  go_wp2
  go_ret
  exact ⟨by rw [HR.out]; rfl, HB.out⟩
set_option maxRecDepth 100000 in
set_option maxHeartbeats 2000000 in
theorem impl_calls (x y z : Int) (w : World) : Calls Try.prog 14 #[.agg #[.int .i64 x, .int .i64 y, .int .i64 z]] w fun e w' => e = .returned (.bool (seB (x, y, z))) ∧ Below w.heap.size w w' := by
  have HB := Lib.hid (below_alloc1 w (.cells #[.int .i64 x, .int .i64 y, .int .i64 z] 25))
  have HI := Lib.hid (fun W => countI y W)
  have hund : undef = Value.tuple #[] := rfl
  by_cases h1 : 2 ≤ x
  · by_cases h2 : x ≤ 24
    · have d2 : decide (x ≤ 24) = true := decide_eq_true h2
      by_cases h3 : 1 ≤ y ∧ y ≤ 8
      · by_cases h4 : 0 ≤ z
        · by_cases h5 : z ≤ 1000
          · have HF := Lib.hid (show seB (x, y, z) = true from decide_eq_true (by simp only; omega))
            have d5 : decide (z ≤ 1000) = true := decide_eq_true h5
            rw [show cnB y = true from decide_eq_true h3] at HI
            clear h3
            go_enter Try.func14, Try.ntmps14
            go_wp2_with fail
            refine (HI.out _).mono ?_
            rintro e _ ⟨rfl, rfl⟩
            go_wp2
            go_ret
            exact ⟨by rw [HF.out]; rfl, HB.out⟩
          · have HF := Lib.hid (show seB (x, y, z) = false from decide_eq_false (by simp only; omega))
            have d5 : decide (z ≤ 1000) = false := decide_eq_false h5
            rw [show cnB y = true from decide_eq_true h3] at HI
            clear h3
            go_enter Try.func14, Try.ntmps14
            go_wp2_with fail
            refine (HI.out _).mono ?_
            rintro e _ ⟨rfl, rfl⟩
            go_wp2
            go_ret
            exact ⟨by rw [HF.out]; rfl, HB.out⟩
        · have HF := Lib.hid (show seB (x, y, z) = false from decide_eq_false (by simp only; omega))
          rw [show cnB y = true from decide_eq_true h3] at HI
          clear h3
          go_enter Try.func14, Try.ntmps14
          go_wp2_with fail
          refine (HI.out _).mono ?_
          rintro e _ ⟨rfl, rfl⟩
          go_wp2
          go_ret
          exact ⟨by rw [HF.out]; rfl, HB.out⟩
      · have HF := Lib.hid (show seB (x, y, z) = false from decide_eq_false (by simp only; omega))
        rw [show cnB y = false from decide_eq_false h3] at HI
        clear h3
        go_enter Try.func14, Try.ntmps14
        go_wp2_with fail
        refine (HI.out _).mono ?_
        rintro e _ ⟨rfl, rfl⟩
        go_wp2
        go_ret
        exact ⟨by rw [HF.out]; rfl, HB.out⟩
    · have HF := Lib.hid (show seB (x, y, z) = false from decide_eq_false (by simp only; omega))
      have d2 : decide (x ≤ 24) = false := decide_eq_false h2
      go_enter Try.func14, Try.ntmps14
      go_wp2
      go_ret
      exact ⟨by rw [HF.out]; rfl, HB.out⟩
  · have HF := Lib.hid (show seB (x, y, z) = false from decide_eq_false (by simp only; omega))
    go_enter Try.func14, Try.ntmps14
    go_wp2
    go_ret
    exact ⟨by rw [HF.out]; rfl, HB.out⟩
theorem meat (vs0 : Nat → Value) (g0 : Nat → Dat) (ht0 : tyrSetting g0) :
    ∃ (r0 : Bool), (∀ (W : World) (us0 : Nat → Value), ReadsRec W 3 us0 g0 → Calls Try.prog 12 #[.agg #[us0 0, us0 1, us0 2]] W fun e W' => e = .returned (.bool r0) ∧ Below W.heap.size W W') ∧ (∀ (W : World) (us0 : Nat → Value), ReadsRec W 3 us0 g0 → Calls Try.prog 14 #[.agg #[us0 0, us0 1, us0 2]] W fun e W' => e = .returned (.bool r0) ∧ Below W.heap.size W W') :=
  ⟨seB (stOf g0), fun W us0 h => by rw [reads_st h ht0]; exact spec_calls _ _ _ W, fun W us0 h => by rw [reads_st h ht0]; exact impl_calls _ _ _ W⟩
end Go.Proofs.Ytofgdgdmmlgmnaa.wValidSetting
