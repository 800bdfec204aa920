/-
  Proved: plain facts on points in memory and on the least box around points (for the contracts of this seat).
  Conditions: none.
-/
import Derived.Test.YtklfmlbokedbdaaBoxes
namespace Go.Proofs.Ytklfmlbokedbdaa.join
open Go.ChangeShapes Go.WideShapes Go.ChangeAt Go.RowKit Go.Joins
open Go.Proofs.Ytklfmlbokedbdaa.boxes
set_option linter.unusedVariables false

abbrev P3 := Int × Int × Int
/-- Block g holds the points, three cells each. -/
def Pts (w : World) (g : Nat) (pts : List P3) : Prop :=
  ∀ (i : Nat) (p : P3), pts[i]? = some p → w.cell? ⟨g, i * 3, none⟩ = some (.int .i64 p.1) ∧ w.cell? ⟨g, i * 3 + 1, none⟩ = some (.int .i64 p.2.1) ∧ w.cell? ⟨g, i * 3 + 2, none⟩ = some (.int .i64 p.2.2)
theorem Pts.below {w w' : World} {g : Nat} {pts : List P3} (h : Pts w g pts) {B : Nat} (hb : Below B w w') (hg : g < B) : Pts w' g pts := fun i p hi => by
  obtain ⟨h1, h2, h3⟩ := h i p hi
  exact ⟨(hb.cell hg).trans h1, (hb.cell hg).trans h2, (hb.cell hg).trans h3⟩

/-- The least box around a box and points. -/
def gX1 (a : Int) (pts : List P3) : Int := pts.foldl (fun m p => min m p.1) a
def gY1 (b : Int) (pts : List P3) : Int := pts.foldl (fun m p => min m p.2.1) b
def gX2 (c : Int) (pts : List P3) : Int := pts.foldl (fun m p => max m p.1) c
def gY2 (d : Int) (pts : List P3) : Int := pts.foldl (fun m p => max m p.2.1) d

/-- What a round of grown's loop finds: the box so far in one block, the result's cells in the next one. -/
structure Growing (w : World) (a b c d : Int) (w' : World) : Prop where
  below : Below w.heap.size w w'
  size : w.heap.size + 2 ≤ w'.heap.size
  blk : w'.heap[w.heap.size]? = some (.cells #[.int .i64 a, .int .i64 b, .int .i64 c, .int .i64 d] 48 (0, 0))
  res : w'.heap[w.heap.size + 1]? = some (.cells #[.int .i64 0, .int .i64 0, .int .i64 0, .int .i64 0] 48 (0, 0))
theorem Growing.cell {w : World} {a b c d : Int} {w' : World} (h : Growing w a b c d w') (i : Nat) : w'.cell? ⟨w.heap.size, i, none⟩ = (#[.int .i64 a, .int .i64 b, .int .i64 c, .int .i64 d] : Array Value)[i]? := cell_of_block h.blk i
theorem Growing.fr {w : World} {a b c d : Int} {w' : World} (h : Growing w a b c d w') (i : Nat) : w'.frozen? ⟨w.heap.size, i, none⟩ = false := unfrozen_of_block h.blk i
theorem Growing.cell' {w : World} {a b c d : Int} {w' : World} (h : Growing w a b c d w') (i : Nat) : w'.cell? ⟨w.heap.size + 1, i, none⟩ = (#[.int .i64 0, .int .i64 0, .int .i64 0, .int .i64 0] : Array Value)[i]? := cell_of_block h.res i
theorem Growing.fr' {w : World} {a b c d : Int} {w' : World} (h : Growing w a b c d w') (i : Nat) : w'.frozen? ⟨w.heap.size + 1, i, none⟩ = false := unfrozen_of_block h.res i

theorem Growing.start (w : World) (a b c d : Int) :
    Growing w a b c d ((w.alloc (.cells #[.int .i64 a, .int .i64 b, .int .i64 c, .int .i64 d] 48)).alloc (.cells #[.int .i64 0, .int .i64 0, .int .i64 0, .int .i64 0] 48)) := by
  refine ⟨below_alloc2 _ _ _, by simp, (Below.heap_alloc _ _ _ (by simp)).trans (heap_alloc_new w _), ?_⟩
  have := heap_alloc_new (w.alloc (.cells #[.int .i64 a, .int .i64 b, .int .i64 c, .int .i64 d] 48)) (.cells #[.int .i64 0, .int .i64 0, .int .i64 0, .int .i64 0] 48)
  have e : (w.alloc (.cells #[.int .i64 a, .int .i64 b, .int .i64 c, .int .i64 d] 48)).heap.size = w.heap.size + 1 := by simp
  rw [e] at this
  exact this
theorem gX1_succ (a : Int) (pts : List P3) (k : Nat) (h : k < pts.length) : gX1 a (pts.take (k + 1)) = min (gX1 a (pts.take k)) (pts[k].1) := by
  unfold gX1; rw [List.take_succ_eq_append_getElem h, List.foldl_append]; rfl
theorem gY1_succ (a : Int) (pts : List P3) (k : Nat) (h : k < pts.length) : gY1 a (pts.take (k + 1)) = min (gY1 a (pts.take k)) (pts[k].2.1) := by
  unfold gY1; rw [List.take_succ_eq_append_getElem h, List.foldl_append]; rfl
theorem gX2_succ (a : Int) (pts : List P3) (k : Nat) (h : k < pts.length) : gX2 a (pts.take (k + 1)) = max (gX2 a (pts.take k)) (pts[k].1) := by
  unfold gX2; rw [List.take_succ_eq_append_getElem h, List.foldl_append]; rfl
theorem gY2_succ (a : Int) (pts : List P3) (k : Nat) (h : k < pts.length) : gY2 a (pts.take (k + 1)) = max (gY2 a (pts.take k)) (pts[k].2.1) := by
  unfold gY2; rw [List.take_succ_eq_append_getElem h, List.foldl_append]; rfl
theorem min_if (m x : Int) : (if x < m then x else m) = min m x := by split <;> omega
theorem max_if (m x : Int) : (if m < x then x else m) = max m x := by split <;> omega

theorem Growing.step {w : World} {a b c d : Int} {wr : World} (h : Growing w a b c d wr) (x1 x2 y1 y2 : Int) (o : Obj) :
    Growing w x1 y1 x2 y2 (((((wr.setCell ⟨w.heap.size, 0, none⟩ (.int .i64 x1)).setCell ⟨w.heap.size, 2, none⟩ (.int .i64 x2)).setCell ⟨w.heap.size, 1, none⟩ (.int .i64 y1)).setCell ⟨w.heap.size, 3, none⟩ (.int .i64 y2)).alloc o).drew.drew := by
  obtain ⟨hb, hz, h, hr⟩ := h
  have s1 := block_setCell (i := 0) h (.int .i64 x1)
  have s2 := block_setCell (i := 2) s1 (.int .i64 x2)
  have s3 := block_setCell (i := 1) s2 (.int .i64 y1)
  have s4 := block_setCell (i := 3) s3 (.int .i64 y2)
  refine ⟨?_, ?_, ?_, ?_⟩
  · exact ((((((hb.setCell (Nat.le_refl _) _).setCell (Nat.le_refl _) _).setCell (Nat.le_refl _) _).setCell (Nat.le_refl _) _).alloc (by simp [World.setCell]; omega) _).drew).drew
  · show _ ≤ (World.alloc _ _).heap.size
    simp [World.setCell]; omega
  · show (World.alloc _ _).heap[w.heap.size]? = _
    rw [Below.heap_alloc _ _ _ (by simp [World.setCell]; omega), s4]
    rfl
  · show (World.alloc _ _).heap[w.heap.size + 1]? = _
    rw [Below.heap_alloc _ _ _ (by simp [World.setCell]; omega), Below.heap_setCell _ _ _ _ (by simp), Below.heap_setCell _ _ _ _ (by simp), Below.heap_setCell _ _ _ _ (by simp), Below.heap_setCell _ _ _ _ (by simp), hr]
theorem Growing.cast {w : World} {a b c d a' b' c' d' : Int} {wr : World} (h : Growing w a b c d wr) (e0 : a' = a) (e1 : b' = b) (e2 : c' = c) (e3 : d' = d) : Growing w a' b' c' d' wr := by
  subst e0 e1 e2 e3; exact h
end Go.Proofs.Ytklfmlbokedbdaa.join
