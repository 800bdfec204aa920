/-
  Proved: what the document's functions that test a band, and that tell how far a number is outside of bounds, return.
  Conditions: lengths are at most a million, numbers of bounds are those of an envelope.
-/
import Derived.Test.YthpmckfjlbiiiaaRange
namespace Go.Proofs.Ythpmckfjlbiiiaa.env
open Go.ChangeShapes Go.WideShapes Go.ChangeAt Go.RowKit Go.Joins
open Go.Proofs.Ythpmckfjlbiiiaa.core Go.Proofs.Ythpmckfjlbiiiaa.rown Go.Proofs.Ythpmckfjlbiiiaa.stk Go.Proofs.Ythpmckfjlbiiiaa.boxed Go.Proofs.Ythpmckfjlbiiiaa.ft Go.Proofs.Ythpmckfjlbiiiaa.seq
set_option linter.unusedVariables false
set_option linter.unusedSimpArgs false
/-- The band fits both lengths. -/
def bandOk (n m band : Int) : Bool := decide ((0 ≤ band ∧ band ≤ 72) ∧ absv (n - m) ≤ band)
set_option maxHeartbeats 2000000 in
theorem bandS (n m band : Int) (w : World) (hn : -1048576 ≤ n ∧ n ≤ 1048576) (hm : -1048576 ≤ m ∧ m ≤ 1048576) :
    Calls Try.prog 57 #[.int .i64 n, .int .i64 m, .int .i64 band] w fun e w' => e = .returned (.bool (bandOk n m band)) ∧ w = w' := by
  by_cases hb : 0 ≤ band ∧ band ≤ 72
  · have HI := Lib.hid (fun W => in_t band 0 72 hb W)
    have HS := Lib.hid (fun W => sizeS (n - m) (by omega) (by omega) W)
    obtain ⟨D, hD⟩ : ∃ D, n - m = D := ⟨_, rfl⟩
    have E1 : IntKind.i64.wrap (n - m) = D := by rw [hD]; exact IntWalk.i64_in _ (by omega)
    have E2 : wrap64 (n - m) = D := by rw [← IntWalk.i64_left]; exact E1
    have HR := Lib.hid (show bandOk n m band = decide (absv D ≤ band) by unfold bandOk; rw [hD]; simp [hb])
    rw [hD] at HS
    clear hD hn hm hb
    generalize absv D = T at *
    rw [HR.out]
    go_enter Try.func57, Try.ntmps57
    go_wp2_with fail
    with_reducible refine (HI.out _).mono ?_
    rintro e _ ⟨rfl, rfl⟩
    go_wp2_with fail
    with_reducible refine (HS.out _).mono ?_
    rintro e _ ⟨rfl, rfl⟩
    go_wp2
    go_ret
    exact ⟨by simp, rfl⟩
  · have HI := Lib.hid (fun W => in_f band 0 72 hb W)
    have HR := Lib.hid (show bandOk n m band = false from decide_eq_false fun h => hb h.1)
    rw [HR.out]
    clear hb hn hm
    go_enter Try.func57, Try.ntmps57
    go_wp2_with fail
    with_reducible refine (HI.out _).mono ?_
    rintro e _ ⟨rfl, rfl⟩
    go_wp2
    go_ret
    exact ⟨rfl, rfl⟩
set_option maxHeartbeats 2000000 in
theorem inS {ca cb : Nat} (A B : Option Addr) (na nb : Nat) (band : Int) (w : World) (ha : na ≤ 1048576) (hb : nb ≤ 1048576) :
    Calls Try.prog 77 #[.slice A na ca, .slice B nb cb, .int .i64 band] w fun e w' => e = .returned (.bool (bandOk na nb band)) ∧ w = w' := by
  have HB := Lib.hid (fun W => bandS (na : Int) (nb : Int) band W (by omega) (by omega))
  generalize bandOk (na : Int) (nb : Int) band = r at *
  go_enter Try.func77, Try.ntmps77
  go_wp2_with fail
  with_reducible refine (HB.out _).mono ?_
  rintro e _ ⟨rfl, rfl⟩
  go_wp2
  go_ret
  exact ⟨rfl, rfl⟩
set_option maxHeartbeats 2000000 in
theorem offS (n lo hi : Int) (w : World) (h1 : 0 ≤ n ∧ n ≤ 255) (h2 : 0 ≤ lo ∧ lo ≤ 255) (h3 : 0 ≤ hi ∧ hi ≤ 255) :
    Calls Try.prog 99 #[.int .i64 n, .int .i64 lo, .int .i64 hi] w fun e w' => e = .returned (.int .i64 (offV n lo hi)) ∧ w = w' := by
  have E1 : IntKind.i64.wrap (lo - n) = lo - n := IntWalk.i64_in _ (by omega)
  have E3 : IntKind.i64.wrap (n - hi) = n - hi := IntWalk.i64_in _ (by omega)
  have E2 : wrap64 (lo - n) = lo - n := by rw [← IntWalk.i64_left]; exact E1
  have E4 : wrap64 (n - hi) = n - hi := by rw [← IntWalk.i64_left]; exact E3
  clear h1 h2 h3
  go_enter Try.func99, Try.ntmps99
  go_wp2_with fail
  refine (maxE _ _ _).mono ?_
  rintro e _ ⟨rfl, rfl⟩
  go_wp2_with fail
  refine (maxE _ _ _).mono ?_
  rintro e _ ⟨rfl, rfl⟩
  go_wp2
  go_ret
  exact ⟨rfl, rfl⟩
end Go.Proofs.Ythpmckfjlbiiiaa.env
