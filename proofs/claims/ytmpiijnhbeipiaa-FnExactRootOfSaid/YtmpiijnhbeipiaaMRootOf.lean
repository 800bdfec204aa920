/-
  Proved: both functions return the same square root of a number.
  Conditions: none.
-/
import Derived.Test.YtmpiijnhbeipiaaLen
namespace Go.Proofs.Ytmpiijnhbeipiaa.wRootOf
open Go.ChangeShapes Go.WideShapes Go.ChangeAt Go.RowKit Go.Joins
open Go.Proofs.Ytmpiijnhbeipiaa.core Go.Proofs.Ytmpiijnhbeipiaa.geoM Go.Proofs.Ytmpiijnhbeipiaa.stk
set_option linter.unusedVariables false
set_option linter.unusedSimpArgs false
set_option maxRecDepth 100000 in
theorem spec_law (x : Int) (w : World) : Calls Try.prog 14 #[.int .i64 x] w fun e w' => e = .returned (if 0 ≤ x ∧ x ≤ 1000000000000000 then .tuple #[.int .i64 (root x.toNat : Nat), .int .i64 0] else .tuple #[.int .i64 0, .int .i64 2]) ∧ Below w.heap.size w w' := by
  by_cases h : 0 ≤ x ∧ x ≤ 1000000000000000
  · have HI := Lib.hid (fun W => seg.in_t x 0 1000000000000000 h W)
    rw [if_pos h]
    obtain ⟨n, rfl⟩ : ∃ n : Nat, x = (n : Int) := ⟨x.toNat, by omega⟩
    have HR := Lib.hid (fun W => root.spec_calls n (by omega) W)
    rw [Int.toNat_natCast]
    clear h
    go_enter Try.func14, Try.ntmps14
    go_wp2_with fail
    refine (HI.out _).mono ?_
    rintro e w1 ⟨rfl, rfl⟩
    go_wp2_with fail
    refine (HR.out _).mono ?_
    rintro e w1 ⟨rfl, rfl⟩
    go_wp2
    go_ret2
    exact ⟨rfl, Below.refl _ _⟩
  · have HI := Lib.hid (fun W => seg.in_f x 0 1000000000000000 h W)
    rw [if_neg h]
    clear h
    go_enter Try.func14, Try.ntmps14
    go_wp2_with fail
    refine (HI.out _).mono ?_
    rintro e w1 ⟨rfl, rfl⟩
    go_wp2
    go_ret2
    exact ⟨rfl, Below.refl _ _⟩
set_option maxRecDepth 100000 in
theorem impl_law (x : Int) (w : World) : Calls Try.prog 15 #[.int .i64 x] w fun e w' => e = .returned (if 0 ≤ x ∧ x ≤ 1000000000000000 then .tuple #[.int .i64 (root x.toNat : Nat), .int .i64 0] else .tuple #[.int .i64 0, .int .i64 2]) ∧ Below w.heap.size w w' := by
  by_cases h : 0 ≤ x ∧ x ≤ 1000000000000000
  · rw [if_pos h]
    obtain ⟨n, rfl⟩ : ∃ n : Nat, x = (n : Int) := ⟨x.toNat, by omega⟩
    have HR := Lib.hid (fun W => blen.root_calls n (by omega) W)
    have h1 : ¬ (n : Int) < 0 := by omega
    have h2 : ¬ 1000000000000000 < (n : Int) := by omega
    rw [Int.toNat_natCast]
    clear h
    go_enter Try.func15, Try.ntmps15
    go_wp2_with fail
    refine (HR.out _).mono ?_
    rintro e w1 ⟨rfl, rfl⟩
    go_wp2
    go_ret2
    exact ⟨rfl, Below.refl _ _⟩
  · rw [if_neg h]
    by_cases h1 : x < 0
    · clear h
      go_enter Try.func15, Try.ntmps15
      go_wp2
      go_ret2
      exact ⟨rfl, Below.refl _ _⟩
    · have h2 : 1000000000000000 < x := by omega
      clear h
      go_enter Try.func15, Try.ntmps15
      go_wp2
      go_ret2
      exact ⟨rfl, Below.refl _ _⟩
theorem meat (a0 : Int) (hi0 : inI64 a0) :
    ∃ (r0 : Int) (r1 : Int), (∀ (W : World), Calls Try.prog 14 #[.int .i64 a0] W fun e W' => e = .returned (.tuple #[.int .i64 r0, .int .i64 r1]) ∧ Below W.heap.size W W') ∧ (∀ (W : World), Calls Try.prog 15 #[.int .i64 a0] W fun e W' => e = .returned (.tuple #[.int .i64 r0, .int .i64 r1]) ∧ Below W.heap.size W W') := by
  by_cases h : 0 ≤ a0 ∧ a0 ≤ 1000000000000000
  · exact ⟨_, _, fun W => (spec_law a0 W).mono fun e w' ⟨he, hb⟩ => ⟨by rw [he, if_pos h], hb⟩, fun W => (impl_law a0 W).mono fun e w' ⟨he, hb⟩ => ⟨by rw [he, if_pos h], hb⟩⟩
  · exact ⟨_, _, fun W => (spec_law a0 W).mono fun e w' ⟨he, hb⟩ => ⟨by rw [he, if_neg h], hb⟩, fun W => (impl_law a0 W).mono fun e w' ⟨he, hb⟩ => ⟨by rw [he, if_neg h], hb⟩⟩
end Go.Proofs.Ytmpiijnhbeipiaa.wRootOf
