/-
  Proved: both functions return the same bits of a number.
  Conditions: none.
-/
import Derived.Test.YtjhndncmeedffaaNumB
namespace Go.Proofs.Ytjhndncmeedffaa.wNumberBits
open Go.ChangeShapes Go.WideShapes Go.ChangeAt Go.RowKit Go.Joins
open Go.Proofs.Ytjhndncmeedffaa.numB Go.Proofs.Ytjhndncmeedffaa.bits Go.Proofs.Ytjhndncmeedffaa.core
theorem meat (a0 : Int) (a1 : Int) (hi0 : inI64 a0) (hi1 : inI64 a1) :
    ∃ (r0 : ByteArray) (r1 : Int), (∀ (W : World), Calls Try.prog 13 #[.int .i64 a0, .int .i64 a1] W fun e W' => e = .returned (.tuple #[.string r0, .int .i64 r1]) ∧ Below W.heap.size W W') ∧ (∀ (W : World), Calls Try.prog 14 #[.int .i64 a0, .int .i64 a1] W fun e W' => e = .returned (.tuple #[.string r0, .int .i64 r1]) ∧ Below W.heap.size W W') := by
  by_cases h : bad a0 a1
  · exact ⟨_, _, fun W => spec_no a0 a1 hi0 hi1 h W, fun W => impl_no a0 a1 hi0 hi1 h W⟩
  · unfold bad at h
    have h1 : ¬ a1 < 1 := fun x => h (.inl x)
    have h2 : ¬ 40 < a1 := fun x => h (.inr (.inl x))
    have h3 : ¬ a0 < 0 := fun x => h (.inr (.inr (.inl x)))
    have h4 : ¬ (2 : Int) ^ a1.toNat ≤ a0 := fun x => h (.inr (.inr (.inr x)))
    clear h
    obtain ⟨V, rfl⟩ : ∃ V : Nat, a1 = (V : Int) := ⟨a1.toNat, by omega⟩
    obtain ⟨n, rfl⟩ : ∃ n : Nat, a0 = (n : Int) := ⟨a0.toNat, by omega⟩
    have hn : n < 2 ^ V := by
      have e : (2 : Int) ^ V = ((2 ^ V : Nat) : Int) := by simp
      simp only [Int.toNat_natCast] at h4
      rw [e] at h4
      omega
    exact ⟨_, _, fun W => spec_yes n V (by omega) (by omega) hn W, fun W => impl_yes n V (by omega) (by omega) hn W⟩
end Go.Proofs.Ytjhndncmeedffaa.wNumberBits
