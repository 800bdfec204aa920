/-
  Proved: the program's encoder is made, and both functions return the same Rice code.
  Conditions: none.
-/
import Derived.Test.YtjhndncmeedffaaDoorRiceI
namespace Go.Proofs.YtjhndncmeedffaaDoor.riceI
open Go.ChangeShapes Go.WideShapes Go.ChangeAt Go.RowKit Go.Joins
open Go.Proofs.YtjhndncmeedffaaDoor.core Go.Proofs.YtjhndncmeedffaaDoor.rows Go.Proofs.YtjhndncmeedffaaDoor.bits Go.Proofs.YtjhndncmeedffaaDoor.numS Go.Proofs.YtjhndncmeedffaaDoor.writer Go.Proofs.YtjhndncmeedffaaDoor.riceS
set_option linter.unusedVariables false
set_option linter.unusedSimpArgs false

set_option maxRecDepth 100000 in
set_option maxHeartbeats 2000000 in
/-- The encoder, made: its captured variables lie in three new blocks. -/
theorem encoder_calls (b k : Nat) (hk : k ≤ 12) (w : World) (hb : b < w.heap.size) :
    Calls Tryd.prog 30 #[.pointer (some ⟨b, 0, none⟩), .int .i64 k] w fun e w' => e = .returned (.func (.func 45) #[] #[.pointer (some ⟨w.heap.size + 1, 0, none⟩), .pointer (some ⟨w.heap.size, 0, none⟩), .pointer (some ⟨w.heap.size + 1 + 1, 0, none⟩)]) ∧ Enc b (w.heap.size + 1) w.heap.size (w.heap.size + 1 + 1) k (2 ^ k) w' ∧ Below w.heap.size w w' := by
  have HQ := Lib.hid (show wrap64 ((2 : Int) ^ k) = ((2 ^ k : Nat) : Int) by
    have h1 : 2 ^ k ≤ 2 ^ 12 := Nat.pow_le_pow_right (by decide) hk
    have e : (2 : Int) ^ k = ((2 ^ k : Nat) : Int) := by simp
    have e2 : 2 ^ 12 = 4096 := by decide
    rw [e]
    generalize 2 ^ k = x at *
    unfold wrap64
    omega)
  generalize 2 ^ k = p at *
  go_enter Tryd.func30, Tryd.ntmps30
  go_wp2
  go_ret
  rw [HQ.out]
  refine ⟨rfl, ⟨?_, ?_, ?_, by omega, by omega, by omega⟩, (((Below.refl _ _).alloc (Nat.le_refl _) _).alloc (by simp) _).alloc (by simp; omega) _⟩
  · rw [Lib.alloc_old _ _ _ (by simp)]
    simpa using heap_alloc_new (w.alloc (.cells #[.pointer (some ⟨b, 0, none⟩)] 70)) _
  · rw [Lib.alloc_old _ _ _ (by simp; omega), Lib.alloc_old _ _ _ (by simp)]
    exact heap_alloc_new w _
  · simpa using heap_alloc_new ((w.alloc (.cells #[.pointer (some ⟨b, 0, none⟩)] 70)).alloc (.cells #[.int .i64 (k : Int)] 2)) _
end Go.Proofs.YtjhndncmeedffaaDoor.riceI
