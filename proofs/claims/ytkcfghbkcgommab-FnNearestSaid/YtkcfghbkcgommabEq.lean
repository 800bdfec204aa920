/-
  Proved: comparing two values that read as the same datum answers true (contracts of callees of the exact laws).
  Conditions: both values are read out of memory.
-/
import Derived.Test.YtkcfghbkcgommabShape
namespace Go.Proofs.Ytkcfghbkcgommab.core
open Go.ChangeShapes Go.WideShapes Go.ChangeAt Go.RowKit Go.Joins
set_option linter.unusedVariables false
set_option linter.unusedSimpArgs false

theorem mixed : Try.prog.follows .mixedOrders = true := by kernel_rfl
theorem box2 {w W : World} {C0 C1 : Array Value} {T0 T1 : Nat} (hb : Below ((w.alloc (.cells C0 T0)).alloc (.cells C1 T1)).heap.size ((w.alloc (.cells C0 T0)).alloc (.cells C1 T1)) W) :
    (∀ q, W.cell? ⟨w.heap.size, q, none⟩ = C0[q]?) ∧ (∀ q, W.cell? ⟨w.heap.size + 1, q, none⟩ = C1[q]?) ∧ w.heap.size + 1 < W.heap.size := by
  have hs := hb.size
  simp at hs
  refine ⟨fun q => (hb.cell (p := ⟨w.heap.size, q, none⟩) (by simp; omega)).trans ?_, fun q => (hb.cell (p := ⟨w.heap.size + 1, q, none⟩) (by simp)).trans ?_, by omega⟩
  · rw [World.cell?_alloc_lt _ _ _ (by simp)]; exact World.cell?_alloc_new w C0 T0 q
  · simp

end Go.Proofs.Ytkcfghbkcgommab.core
