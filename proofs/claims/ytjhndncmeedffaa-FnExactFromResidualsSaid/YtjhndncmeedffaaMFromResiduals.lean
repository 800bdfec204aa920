/-
  Proved: both functions return the same numbers of residuals, in memory of their own.
  Conditions: none.
-/
import Derived.Test.YtjhndncmeedffaaFromI
import Derived.Test.YtjhndncmeedffaaMResidualsOf
namespace Go.Proofs.Ytjhndncmeedffaa.wFromResiduals
open Go.ChangeShapes Go.WideShapes Go.ChangeAt Go.RowKit Go.Joins
open Go.Proofs.Ytjhndncmeedffaa.core Go.Proofs.Ytjhndncmeedffaa.rows Go.Proofs.Ytjhndncmeedffaa.bits Go.Proofs.Ytjhndncmeedffaa.numS Go.Proofs.Ytjhndncmeedffaa.ints Go.Proofs.Ytjhndncmeedffaa.resid
open Go.Proofs.Ytjhndncmeedffaa.wResidualsOf (to_law to_no)
set_option linter.unusedVariables false
set_option linter.unusedSimpArgs false

theorem meat (vs0 : Nat → Value) (g0 : Nat → Dat) (ht0 : tyrInt64S g0) :
    costRec 1 g0 ≤ 1048576 → ∃ (R : Nat → Dat) (r1 : Int), tyrInt64S R ∧ cntRec 1 R ≤ 100000000000 ∧ (∀ (W : World) (us0 : Nat → Value), ReadsRec W 1 us0 g0 → (∃ (A : Option Addr) (n c : Nat), us0 0 = .slice A n c ∧ n ≤ c) → Calls Try.prog 23 #[us0 0] W fun e W' => ∃ xs : Nat → Value, e = .returned (.tuple #[xs 0, .int .i64 r1]) ∧ OwnRec W' 1 xs R (iv W.heap.size W'.heap.size) ∧ Below W.heap.size W W') ∧ (∀ (W : World) (us0 : Nat → Value), ReadsRec W 1 us0 g0 → (∃ (A : Option Addr) (n c : Nat), us0 0 = .slice A n c ∧ n ≤ c) → Calls Try.prog 24 #[us0 0] W fun e W' => ∃ xs : Nat → Value, e = .returned (.tuple #[xs 0, .int .i64 r1]) ∧ OwnRec W' 1 xs R (iv W.heap.size W'.heap.size) ∧ Below W.heap.size W W') := by
  intro _
  by_cases h : nLen g0 ≤ 60 ∧ AllIn 1000000000 (nFun g0) (nLen g0)
  · by_cases hF : AllIn 125000000 (from_ (nFun g0)) (nLen g0)
    · have hin : ∀ i, i < nLen g0 → inI64 (from_ (nFun g0) i) := fun i hi => by have := hF i hi; unfold inI64; omega
      refine ⟨datInts (nLen g0) (from_ (nFun g0)), 0, datInts_ty _ _, by rw [datInts_cnt]; omega, fun W us hr _ => ?_, fun W us hr _ => ?_⟩
      · obtain ⟨A, c, e, hn, hi⟩ := ints_view hr ht0
        rw [e]
        exact to_law hin (fromS_yes A _ c _ W h.1 hi h.2 hF)
      · obtain ⟨A, c, e, hn, hi⟩ := ints_view hr ht0
        rw [e]
        exact to_law hin ((fromI_calls A _ c _ W h.1 hi h.2 true (by simp; exact hF)).mono fun e W' ⟨h1, _, h3⟩ => by
          obtain ⟨G, C, h4, h5⟩ := h1 rfl
          exact ⟨G, C, h4, h5, h3⟩)
    · refine ⟨datInts 0 fun _ => 0, 2, datInts_ty _ _, by rw [datInts_cnt]; omega, fun W us hr _ => ?_, fun W us hr _ => ?_⟩
      · obtain ⟨A, c, e, hn, hi⟩ := ints_view hr ht0
        rw [e]
        exact to_no (fromS_out A _ c _ W h.1 hi h.2 hF)
      · obtain ⟨A, c, e, hn, hi⟩ := ints_view hr ht0
        rw [e]
        exact to_no ((fromI_calls A _ c _ W h.1 hi h.2 false (by simp; exact hF)).mono fun e W' ⟨_, h2, h3⟩ => ⟨h2 rfl, h3⟩)
  · refine ⟨datInts 0 fun _ => 0, 2, datInts_ty _ _, by rw [datInts_cnt]; omega, fun W us hr _ => ?_, fun W us hr _ => ?_⟩
    · obtain ⟨A, c, e, hn, hi⟩ := ints_view hr ht0
      rw [e]
      exact to_no (fromS_no A _ c _ W hn hi h)
    · obtain ⟨A, c, e, hn, hi⟩ := ints_view hr ht0
      rw [e]
      exact to_no (fromI_no A _ c _ W hn hi h)
end Go.Proofs.Ytjhndncmeedffaa.wFromResiduals
