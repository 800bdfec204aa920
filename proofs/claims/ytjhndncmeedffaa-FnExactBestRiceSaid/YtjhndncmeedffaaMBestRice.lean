/-
  Proved: both functions return the same best parameter and size.
  Conditions: none.
-/
import Derived.Test.YtjhndncmeedffaaBest
import Derived.Test.YtjhndncmeedffaaIntsV
namespace Go.Proofs.Ytjhndncmeedffaa.wBestRice
open Go.ChangeShapes Go.WideShapes Go.ChangeAt Go.RowKit Go.Joins
open Go.Proofs.Ytjhndncmeedffaa.core Go.Proofs.Ytjhndncmeedffaa.rows Go.Proofs.Ytjhndncmeedffaa.bits Go.Proofs.Ytjhndncmeedffaa.numS Go.Proofs.Ytjhndncmeedffaa.ints Go.Proofs.Ytjhndncmeedffaa.size
set_option linter.unusedVariables false
set_option linter.unusedSimpArgs false

set_option maxRecDepth 100000 in
set_option maxHeartbeats 1000000 in
theorem spec_yes (A : Option Addr) (n c : Nat) (f : Nat → Int) (w : World) (hn : n ≤ 60) (h : IntsAt w A n f) (hA : AllIn 1000000000 f n) :
    Calls Try.prog 25 #[.slice A n c] w fun e w' => e = .returned (.tuple #[.int .i64 ((best (fun k => size f k n) 12).1 : Nat), .int .i64 ((best (fun k => size f k n) 12).2 : Nat), .int .i64 0]) ∧ Below w.heap.size w w' := by
  have H1 := Lib.hid (all_calls A n c f w (by unfold maxLen; omega) h true (by simp; exact ⟨hn, hA⟩))
  have H2 := Lib.hid (bestS_calls A n c f w hn h hA)
  clear h hA
  generalize best (fun k => size f k n) 12 = x at *
  go_enter Try.func25, Try.ntmps25
  go_wp2_with fail
  with_reducible refine H1.out.mono ?_
  rintro e w1 ⟨rfl, rfl⟩
  go_wp2_with fail
  with_reducible refine H2.out.mono ?_
  rintro e w1 ⟨rfl, hb⟩
  have HB := Lib.hid hb
  clear hb
  go_wp2
  go_ret3
  exact ⟨by simp, HB.out⟩
set_option maxRecDepth 100000 in
set_option maxHeartbeats 1000000 in
theorem spec_no (A : Option Addr) (n c : Nat) (f : Nat → Int) (w : World) (hn : n ≤ maxLen) (h : IntsAt w A n f) (hA : ¬ (n ≤ 60 ∧ AllIn 1000000000 f n)) :
    Calls Try.prog 25 #[.slice A n c] w fun e w' => e = .returned (.tuple #[.int .i64 0, .int .i64 0, .int .i64 2]) ∧ Below w.heap.size w w' := by
  have H1 := Lib.hid (all_calls A n c f w hn h false (by simp; exact fun a b => hA ⟨a, b⟩))
  clear h hA
  go_enter Try.func25, Try.ntmps25
  go_wp2_with fail
  with_reducible refine H1.out.mono ?_
  rintro e w1 ⟨rfl, rfl⟩
  go_wp2
  go_ret3
  exact ⟨by simp, Below.refl _ _⟩
set_option maxRecDepth 100000 in
set_option maxHeartbeats 1000000 in
theorem impl_no (A : Option Addr) (n c : Nat) (f : Nat → Int) (w : World) (hn : n ≤ maxLen) (h : IntsAt w A n f) (hA : ¬ (n ≤ 60 ∧ AllIn 1000000000 f n)) :
    Calls Try.prog 26 #[.slice A n c] w fun e w' => e = .returned (.tuple #[.int .i64 0, .int .i64 0, .int .i64 2]) ∧ Below w.heap.size w w' := by
  by_cases h60 : n ≤ 60
  · have H1 := Lib.hid (within_calls 1000000000 (by omega) (by omega) A n c f w hn h false (by simp; exact fun b => hA ⟨h60, b⟩))
    clear h hA
    go_enter Try.func26, Try.ntmps26
    go_wp2_with fail
    with_reducible refine H1.out.mono ?_
    rintro e w1 ⟨rfl, rfl⟩
    go_wp2
    go_ret3
    exact ⟨by simp, Below.refl _ _⟩
  · have d : decide ((60 : Int) < (n : Int)) = true := decide_eq_true (by omega)
    clear h hA
    unfold maxLen at hn
    go_enter Try.func26, Try.ntmps26
    go_wp2
    go_ret3
    exact ⟨by simp, Below.refl _ _⟩
theorem meat (vs0 : Nat → Value) (g0 : Nat → Dat) (ht0 : tyrInt64S g0) :
    costRec 1 g0 ≤ 1048576 → ∃ (r0 : Int) (r1 : Int) (r2 : Int), (∀ (W : World) (us0 : Nat → Value), ReadsRec W 1 us0 g0 → Calls Try.prog 25 #[us0 0] W fun e W' => e = .returned (.tuple #[.int .i64 r0, .int .i64 r1, .int .i64 r2]) ∧ Below W.heap.size W W') ∧ (∀ (W : World) (us0 : Nat → Value), ReadsRec W 1 us0 g0 → Calls Try.prog 26 #[us0 0] W fun e W' => e = .returned (.tuple #[.int .i64 r0, .int .i64 r1, .int .i64 r2]) ∧ Below W.heap.size W W') := by
  intro _
  by_cases h : nLen g0 ≤ 60 ∧ AllIn 1000000000 (nFun g0) (nLen g0)
  · refine ⟨((best (fun k => size (nFun g0) k (nLen g0)) 12).1 : Nat), ((best (fun k => size (nFun g0) k (nLen g0)) 12).2 : Nat), 0, fun W us hr => ?_, fun W us hr => ?_⟩
    · obtain ⟨A, c, e, hn, hi⟩ := ints_view hr ht0
      rw [e]
      exact spec_yes A _ c _ W h.1 hi h.2
    · obtain ⟨A, c, e, hn, hi⟩ := ints_view hr ht0
      rw [e]
      exact (bestI_calls A _ c _ W h.1 hi h.2).mono fun e W' ⟨h1, h2⟩ => ⟨h1, h2 ▸ Below.refl _ _⟩
  · refine ⟨0, 0, 2, fun W us hr => ?_, fun W us hr => ?_⟩
    · obtain ⟨A, c, e, hn, hi⟩ := ints_view hr ht0
      rw [e]
      exact spec_no A _ c _ W hn hi h
    · obtain ⟨A, c, e, hn, hi⟩ := ints_view hr ht0
      rw [e]
      exact impl_no A _ c _ W hn hi h
end Go.Proofs.Ytjhndncmeedffaa.wBestRice
