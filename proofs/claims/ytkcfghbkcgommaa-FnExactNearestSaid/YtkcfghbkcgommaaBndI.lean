/-
  Proved: what the program's function that tests a band returns; what the program's functions that test an envelope return; what the program's functions that tell how far a list is outside of an envelope return.
  Conditions: those of each theorem.
-/
import Derived.Test.YtkcfghbkcgommaaEnvS
import Derived.Test.YtkcfghbkcgommaaCostI
namespace Go.Proofs.Ytkcfghbkcgommaa.env
open Go.ChangeShapes Go.WideShapes Go.ChangeAt Go.RowKit Go.Joins
open Go.Proofs.Ytkcfghbkcgommaa.core Go.Proofs.Ytkcfghbkcgommaa.rown Go.Proofs.Ytkcfghbkcgommaa.stk Go.Proofs.Ytkcfghbkcgommaa.boxed Go.Proofs.Ytkcfghbkcgommaa.ft Go.Proofs.Ytkcfghbkcgommaa.seq
set_option linter.unusedVariables false
set_option linter.unusedSimpArgs false
set_option maxHeartbeats 2000000 in
theorem bandI (n m band : Int) (w : World) (hn : -1048576 ≤ n ∧ n ≤ 1048576) (hm : -1048576 ≤ m ∧ m ≤ 1048576) :
    Calls Try.prog 135 #[.int .i64 n, .int .i64 m, .int .i64 band] w fun e w' => e = .returned (.bool (bandOk n m band)) ∧ w = w' := by
  have HS := Lib.hid (fun W => apartI n m W)
  rw [apW_in (by omega) (by omega)] at HS
  have h0 := (absv_in (n := n - m) (B := 2097152) (by omega) (by omega)).1
  have HR := Lib.hid (show bandOk n m band = decide (absv (n - m) ≤ band ∧ band ≤ 72) by
    unfold bandOk
    rw [Bool.eq_iff_iff]
    simp only [decide_eq_true_eq]
    omega)
  rw [HR.out]
  clear HR hn hm
  generalize absv (n - m) = T at *
  by_cases h1 : T ≤ band
  · have h1d : decide (T ≤ band) = true := decide_eq_true h1
    by_cases h2 : band ≤ 72
    · have h2d : decide (band ≤ 72) = true := decide_eq_true h2
      have HV := Lib.hid (show decide (T ≤ band ∧ band ≤ 72) = true from decide_eq_true ⟨h1, h2⟩)
      go_enter Try.func135, Try.ntmps135
      go_wp2_with fail
      with_reducible refine (HS.out _).mono ?_
      rintro e _ ⟨rfl, rfl⟩
      go_wp2
      go_ret
      exact ⟨by rw [HV.out]; rfl, rfl⟩
    · have h2d : decide (band ≤ 72) = false := decide_eq_false h2
      have HV := Lib.hid (show decide (T ≤ band ∧ band ≤ 72) = false from decide_eq_false fun h => h2 h.2)
      go_enter Try.func135, Try.ntmps135
      go_wp2_with fail
      with_reducible refine (HS.out _).mono ?_
      rintro e _ ⟨rfl, rfl⟩
      go_wp2
      go_ret
      exact ⟨by rw [HV.out]; rfl, rfl⟩
  · have h1d : decide (T ≤ band) = false := decide_eq_false h1
    have HV := Lib.hid (show decide (T ≤ band ∧ band ≤ 72) = false from decide_eq_false fun h => h1 h.1)
    go_enter Try.func135, Try.ntmps135
    go_wp2_with fail
    with_reducible refine (HS.out _).mono ?_
    rintro e _ ⟨rfl, rfl⟩
    go_wp2
    go_ret
    exact ⟨by rw [HV.out]; rfl, rfl⟩
end Go.Proofs.Ytkcfghbkcgommaa.env

namespace Go.Proofs.Ytkcfghbkcgommaa.env

open Go.ChangeShapes Go.WideShapes Go.ChangeAt Go.RowKit Go.Joins

open Go.Proofs.Ytkcfghbkcgommaa.core Go.Proofs.Ytkcfghbkcgommaa.rown Go.Proofs.Ytkcfghbkcgommaa.stk Go.Proofs.Ytkcfghbkcgommaa.boxed Go.Proofs.Ytkcfghbkcgommaa.ft Go.Proofs.Ytkcfghbkcgommaa.seq
set_option linter.unusedVariables false
set_option linter.unusedSimpArgs false
/-- Low and high numbers, whatever their number. -/
noncomputable def limOk (n m : Nat) (lo hi : Nat → Int) : Bool := @decide (n = m ∧ ∀ i, i < n → (0 ≤ lo i ∧ lo i ≤ hi i) ∧ hi i ≤ 255) (Classical.propDecidable _)
theorem lim_true {n m : Nat} {lo hi : Nat → Int} (h : n = m ∧ ∀ i, i < n → (0 ≤ lo i ∧ lo i ≤ hi i) ∧ hi i ≤ 255) : limOk n m lo hi = true := by
  unfold limOk; exact @decide_eq_true _ (Classical.propDecidable _) h
theorem lim_of {n m : Nat} {lo hi : Nat → Int} (h : limOk n m lo hi = true) : n = m ∧ ∀ i, i < n → (0 ≤ lo i ∧ lo i ≤ hi i) ∧ hi i ≤ 255 := by
  unfold limOk at h; exact @of_decide_eq_true _ (Classical.propDecidable _) h
theorem lim_no {n m : Nat} {lo hi : Nat → Int} (h : ¬ (n = m ∧ ∀ i, i < n → (0 ≤ lo i ∧ lo i ≤ hi i) ∧ hi i ≤ 255)) : limOk n m lo hi = false := by
  unfold limOk; exact @decide_eq_false _ (Classical.propDecidable _) h
theorem okE_lim (en : Nat → Nat) (eg : Nat → Nat → Int) : okE en eg = (decide (1 ≤ en 0) && decide (en 0 ≤ 72) && decide (en 2 = en 0) && limOk (en 0) (en 1) (eg 0) (eg 1) && limOk (en 2) (en 3) (eg 2) (eg 3)) := by
  rw [Bool.eq_iff_iff]
  unfold okE
  simp only [Bool.and_eq_true, decide_eq_true_eq]
  constructor
  · rintro ⟨⟨h1, h2⟩, h3⟩
    obtain ⟨e1, ⟨r1, r2⟩, q1⟩ := bnd_of h1
    obtain ⟨e2, r3, q2⟩ := bnd_of h2
    exact ⟨⟨⟨⟨r1, r2⟩, h3.symm⟩, lim_true ⟨e1, q1⟩⟩, lim_true ⟨e2, q2⟩⟩
  · rintro ⟨⟨⟨⟨r1, r2⟩, h3⟩, h1⟩, h2⟩
    obtain ⟨e1, q1⟩ := lim_of h1
    obtain ⟨e2, q2⟩ := lim_of h2
    exact ⟨⟨bnd_true ⟨e1, ⟨r1, r2⟩, q1⟩, bnd_true ⟨e2, ⟨by omega, by omega⟩, q2⟩⟩, h3.symm⟩
end Go.Proofs.Ytkcfghbkcgommaa.env

namespace Go.Proofs.Ytkcfghbkcgommaa.env

open Go.ChangeShapes Go.WideShapes Go.ChangeAt Go.RowKit Go.Joins

open Go.Proofs.Ytkcfghbkcgommaa.core Go.Proofs.Ytkcfghbkcgommaa.rown Go.Proofs.Ytkcfghbkcgommaa.stk Go.Proofs.Ytkcfghbkcgommaa.boxed Go.Proofs.Ytkcfghbkcgommaa.ft Go.Proofs.Ytkcfghbkcgommaa.seq
set_option linter.unusedVariables false
set_option linter.unusedSimpArgs false
theorem run_max3 {P : Program} (w : World) (ts : Array TypeId) (t : TypeId) (x y z : Int) : (Builtin.max_ ts t #[.int .i64 x, .int .i64 y, .int .i64 z]).run P w = .ok (.int .i64 (max (max x y) z)) w := by
  have e : ∀ p q : Int, (if q > p then q else p) = max p q := fun p q => by
    rw [Int.max_def]
    split <;> split <;> omega
  have e' : ∀ p q : Int, (if p < q then q else p) = max p q := e
  simp [Builtin.max_, Builtin.max2, e, e', go_sem]
end Go.Proofs.Ytkcfghbkcgommaa.env
