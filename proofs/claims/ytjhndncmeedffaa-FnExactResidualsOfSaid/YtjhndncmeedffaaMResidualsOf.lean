/-
  Proved: both functions return the same residuals, in memory of their own.
  Conditions: none.
-/
import Derived.Test.YtjhndncmeedffaaResI
namespace Go.Proofs.Ytjhndncmeedffaa.wResidualsOf
open Go.ChangeShapes Go.WideShapes Go.ChangeAt Go.RowKit Go.Joins
open Go.Proofs.Ytjhndncmeedffaa.core Go.Proofs.Ytjhndncmeedffaa.rows Go.Proofs.Ytjhndncmeedffaa.bits Go.Proofs.Ytjhndncmeedffaa.numS Go.Proofs.Ytjhndncmeedffaa.ints Go.Proofs.Ytjhndncmeedffaa.resid
set_option linter.unusedVariables false
set_option linter.unusedSimpArgs false

theorem resid_in {n : Nat} {f : Nat → Int} (h : AllIn 125000000 f n) : ∀ i, i < n → inI64 (resid f i) := fun i hi => by
  have h1 := h i hi
  have h2 := guess_in (allIn_le h (Nat.le_of_lt hi))
  unfold resid inI64
  omega
/-- What a contract with a row of its own says to the law. -/
theorem to_law {K : Nat} {args : Array Value} {W : World} {n : Nat} {f : Nat → Int} (hf : ∀ i, i < n → inI64 (f i))
    (h : Calls Try.prog K args W fun e w' => ∃ G C : Nat, e = .returned (.tuple #[.slice (some ⟨G, 0, none⟩) n C, .int .i64 0]) ∧ w'.ownsRow W.heap.size 2 1 (.slice (some ⟨G, 0, none⟩) n C) n ((lst f n).map (Value.int .i64)) ∧ Below W.heap.size W w') :
    Calls Try.prog K args W fun e W' => ∃ xs : Nat → Value, e = .returned (.tuple #[xs 0, .int .i64 0]) ∧ OwnRec W' 1 xs (datInts n f) (iv W.heap.size W'.heap.size) ∧ Below W.heap.size W W' :=
  h.mono fun e W' ⟨G, C, h1, h2, h3⟩ => ⟨fun _ => .slice (some ⟨G, 0, none⟩) n C, h1, ownRec_one (own_lst h2 hf) (Nat.le_refl _), h3⟩
theorem to_no {K : Nat} {args : Array Value} {W : World}
    (h : Calls Try.prog K args W fun e w' => e = .returned (.tuple #[.slice none 0 0, .int .i64 2]) ∧ Below W.heap.size W w') :
    Calls Try.prog K args W fun e W' => ∃ xs : Nat → Value, e = .returned (.tuple #[xs 0, .int .i64 2]) ∧ OwnRec W' 1 xs (datInts 0 fun _ => 0) (iv W.heap.size W'.heap.size) ∧ Below W.heap.size W W' :=
  h.mono fun e W' ⟨h1, h3⟩ => ⟨fun _ => .slice none 0 0, h1, ownRec_one (.nil _ _ _ _ _) (Nat.le_refl _), h3⟩
theorem meat (vs0 : Nat → Value) (g0 : Nat → Dat) (ht0 : tyrInt64S g0) :
    costRec 1 g0 ≤ 1048576 → ∃ (R : Nat → Dat) (r1 : Int), tyrInt64S R ∧ cntRec 1 R ≤ 100000000000 ∧ (∀ (W : World) (us0 : Nat → Value), ReadsRec W 1 us0 g0 → (∃ (A : Option Addr) (n c : Nat), us0 0 = .slice A n c ∧ n ≤ c) → Calls Try.prog 17 #[us0 0] W fun e W' => ∃ xs : Nat → Value, e = .returned (.tuple #[xs 0, .int .i64 r1]) ∧ OwnRec W' 1 xs R (iv W.heap.size W'.heap.size) ∧ Below W.heap.size W W') ∧ (∀ (W : World) (us0 : Nat → Value), ReadsRec W 1 us0 g0 → (∃ (A : Option Addr) (n c : Nat), us0 0 = .slice A n c ∧ n ≤ c) → Calls Try.prog 19 #[us0 0] W fun e W' => ∃ xs : Nat → Value, e = .returned (.tuple #[xs 0, .int .i64 r1]) ∧ OwnRec W' 1 xs R (iv W.heap.size W'.heap.size) ∧ Below W.heap.size W W') := by
  intro _
  by_cases h : nLen g0 ≤ 60 ∧ AllIn 125000000 (nFun g0) (nLen g0)
  · refine ⟨datInts (nLen g0) (resid (nFun g0)), 0, datInts_ty _ _, by rw [datInts_cnt]; omega, fun W us hr _ => ?_, fun W us hr hro => ?_⟩
    · obtain ⟨A, c, e, hn, hi⟩ := ints_view hr ht0
      rw [e]
      exact to_law (resid_in h.2) (residS_law A _ c _ W h.1 hi h.2)
    · obtain ⟨A, c, e, hn, hi⟩ := ints_view hr ht0
      obtain ⟨A', n', c', e', hle⟩ := hro
      rw [e] at e'
      cases e'
      rw [e]
      exact to_law (resid_in h.2) (residI_calls A _ c hle _ W h.1 hi h.2)
  · refine ⟨datInts 0 fun _ => 0, 2, datInts_ty _ _, by rw [datInts_cnt]; omega, fun W us hr _ => ?_, fun W us hr _ => ?_⟩
    · obtain ⟨A, c, e, hn, hi⟩ := ints_view hr ht0
      rw [e]
      exact to_no (residS_no A _ c _ W hn hi h)
    · obtain ⟨A, c, e, hn, hi⟩ := ints_view hr ht0
      rw [e]
      exact to_no (residI_no A _ c _ W hn hi h)
end Go.Proofs.Ytjhndncmeedffaa.wResidualsOf
