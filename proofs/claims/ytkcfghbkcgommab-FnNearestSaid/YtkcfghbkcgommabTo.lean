/-
  Proved: what the functions that copy an argument return (contracts of callees of the exact laws).
  Conditions: the argument is read out of memory, and is small.
-/
import Derived.Test.YtkcfghbkcgommabShape
namespace Go.Proofs.Ytkcfghbkcgommab.core
open Go.ChangeShapes Go.WideShapes Go.ChangeAt Go.RowKit Go.Joins
set_option linter.unusedVariables false
set_option linter.unusedSimpArgs false

theorem cost_at {n k L : Nat} {f : Nat → Nat → Dat} (h : cost (.sl n k f) ≤ L) {i j : Nat} (hi : i < n) (hj : j < k) : cost (f i j) ≤ L := by
  simp only [cost] at h
  have h1 := sumTo_lt (fun i => sumTo (fun j => cost (f i j)) k) hi
  have h2 := sumTo_lt (fun j => cost (f i j)) hj
  omega
/-- The three blocks of a call that copies a struct: its argument, its result, the new struct. -/
structure Stage (w : World) (C0 C1 C2 : Array Value) (T1 T2 : Nat) (W : World) : Prop where
  lz2 : w.heap.size + 1 + 1 < W.heap.size
  b0 : ∃ T0, W.heap[w.heap.size]? = some (.cells C0 T0 (0, 0))
  b1 : W.heap[w.heap.size + 1]? = some (.cells C1 T1 (0, 0))
  b2 : W.heap[w.heap.size + 1 + 1]? = some (.cells C2 T2 (0, 0))
section
variable {w W W' : World} {C0 C1 C2 : Array Value} {T0 T1 T2 : Nat}
theorem Stage.lz1 (h : Stage w C0 C1 C2 T1 T2 W) : w.heap.size + 1 < W.heap.size := by have := h.lz2; omega
theorem Stage.kept (h : Stage w C0 C1 C2 T1 T2 W) (hb : Below W.heap.size W W') : Stage w C0 C1 C2 T1 T2 W' := by
  have := h.lz2
  obtain ⟨T0, h0⟩ := h.b0
  exact ⟨Nat.lt_of_lt_of_le h.lz2 hb.size, ⟨T0, (hb.block _ (by omega)).trans h0⟩, (hb.block _ (by omega)).trans h.b1, (hb.block _ (by omega)).trans h.b2⟩
theorem Stage.start (hb : Below (((w.alloc (.cells C0 T0)).alloc (.cells C1 T1)).alloc (.cells C2 T2)).heap.size (((w.alloc (.cells C0 T0)).alloc (.cells C1 T1)).alloc (.cells C2 T2)) W) : Stage w C0 C1 C2 T1 T2 W := by
  have hs := hb.size
  simp at hs
  refine ⟨by omega, ⟨T0, (hb.block _ (by simp; omega)).trans ?_⟩, (hb.block _ (by simp)).trans ?_, (hb.block _ (by simp)).trans ?_⟩
  · rw [Below.heap_alloc _ _ _ (by simp; omega), Below.heap_alloc _ _ _ (by simp)]; exact heap_alloc_new w _
  · rw [Below.heap_alloc _ _ _ (by simp)]; simpa using heap_alloc_new (w.alloc (.cells C0 T0)) (.cells C1 T1)
  · simpa using heap_alloc_new ((w.alloc (.cells C0 T0)).alloc (.cells C1 T1)) (.cells C2 T2)
theorem Stage.set (h : Stage w C0 C1 C2 T1 T2 W) (q : Nat) (v : Value) : Stage w C0 C1 (C2.setIfInBounds q v) T1 T2 (W.setCell ⟨w.heap.size + 1 + 1, q, none⟩ v) := by
  obtain ⟨T0, h0⟩ := h.b0
  refine ⟨by simpa [World.setCell] using h.lz2, ⟨T0, ?_⟩, ?_, block_setCell h.b2 v⟩
  · rw [Below.heap_setCell _ _ _ _ (by simp; omega)]; exact h0
  · rw [Below.heap_setCell _ _ _ _ (by simp)]; exact h.b1
theorem Stage.facts (h : Stage w C0 C1 C2 T1 T2 W) : (∀ q, W.cell? ⟨w.heap.size, q, none⟩ = C0[q]?) ∧ (∀ q, W.cell? ⟨w.heap.size + 1, q, none⟩ = C1[q]?) ∧ (∀ q, W.cell? ⟨w.heap.size + 1 + 1, q, none⟩ = C2[q]?) ∧ (∀ q, W.frozen? ⟨w.heap.size + 1, q, none⟩ = false) ∧ (∀ q, W.frozen? ⟨w.heap.size + 1 + 1, q, none⟩ = false) := by
  obtain ⟨T0, h0⟩ := h.b0
  exact ⟨fun q => cell_of_block h0 q, fun q => cell_of_block h.b1 q, fun q => cell_of_block h.b2 q, fun q => unfrozen_of_block h.b1 q, fun q => unfrozen_of_block h.b2 q⟩
end

end Go.Proofs.Ytkcfghbkcgommab.core
