/-
  Proved: what the program's function that tests a band returns.
  Conditions: lengths are at most a million.
-/
import Derived.Test.YthpmckfjlbiiiaaBandS
import Derived.Test.YthpmckfjlbiiiaaCostI
namespace Go.Proofs.Ythpmckfjlbiiiaa.env
open Go.ChangeShapes Go.WideShapes Go.ChangeAt Go.RowKit Go.Joins
open Go.Proofs.Ythpmckfjlbiiiaa.core Go.Proofs.Ythpmckfjlbiiiaa.rown Go.Proofs.Ythpmckfjlbiiiaa.stk Go.Proofs.Ythpmckfjlbiiiaa.boxed Go.Proofs.Ythpmckfjlbiiiaa.ft Go.Proofs.Ythpmckfjlbiiiaa.seq
set_option linter.unusedVariables false
set_option linter.unusedSimpArgs false
set_option maxHeartbeats 2000000 in
theorem bandI (n m band : Int) (w : World) (hn : -1048576 ≤ n ∧ n ≤ 1048576) (hm : -1048576 ≤ m ∧ m ≤ 1048576) :
    Calls Try.prog 61 #[.int .i64 n, .int .i64 m, .int .i64 band] w fun e w' => e = .returned (.bool (bandOk n m band)) ∧ w = w' := by
  have HS := Lib.hid (fun W => apartI n m W)
  rw [apW_in (by omega) (by omega)] at HS
  have h0 := (absv_in (n := n - m) (B := 2097152) (by omega) (by omega)).1
  have HR := Lib.hid (show bandOk n m band = decide (absv (n - m) ≤ band ∧ band ≤ 72) by
    unfold bandOk
    rw [Bool.eq_iff_iff]
    simp only [decide_eq_true_eq]
    omega)
  rw [HR.out]
  clear HR hn hm
  generalize absv (n - m) = T at *
  by_cases h1 : T ≤ band
  · have h1d : decide (T ≤ band) = true := decide_eq_true h1
    by_cases h2 : band ≤ 72
    · have h2d : decide (band ≤ 72) = true := decide_eq_true h2
      have HV := Lib.hid (show decide (T ≤ band ∧ band ≤ 72) = true from decide_eq_true ⟨h1, h2⟩)
      go_enter Try.func61, Try.ntmps61
      go_wp2_with fail
      with_reducible refine (HS.out _).mono ?_
      rintro e _ ⟨rfl, rfl⟩
      go_wp2
      go_ret
      exact ⟨by rw [HV.out]; rfl, rfl⟩
    · have h2d : decide (band ≤ 72) = false := decide_eq_false h2
      have HV := Lib.hid (show decide (T ≤ band ∧ band ≤ 72) = false from decide_eq_false fun h => h2 h.2)
      go_enter Try.func61, Try.ntmps61
      go_wp2_with fail
      with_reducible refine (HS.out _).mono ?_
      rintro e _ ⟨rfl, rfl⟩
      go_wp2
      go_ret
      exact ⟨by rw [HV.out]; rfl, rfl⟩
  · have h1d : decide (T ≤ band) = false := decide_eq_false h1
    have HV := Lib.hid (show decide (T ≤ band ∧ band ≤ 72) = false from decide_eq_false fun h => h1 h.1)
    go_enter Try.func61, Try.ntmps61
    go_wp2_with fail
    with_reducible refine (HS.out _).mono ?_
    rintro e _ ⟨rfl, rfl⟩
    go_wp2
    go_ret
    exact ⟨by rw [HV.out]; rfl, rfl⟩
end Go.Proofs.Ythpmckfjlbiiiaa.env
