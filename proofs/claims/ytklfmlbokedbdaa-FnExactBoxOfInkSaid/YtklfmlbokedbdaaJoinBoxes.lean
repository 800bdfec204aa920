/-
  Proved: for every two boxes, the call of the law on JoinBoxes returns true and leaves its arguments as they were.
  Conditions: none beyond the row's own.
-/
import Derived.Test.YtklfmlbokedbdaaJoin
import Derived.Deep.DeepCutAuto
namespace Go.Proofs.Ytklfmlbokedbdaa.fnExactJoinBoxes
open Go.ChangeShapes Go.WideShapes Go.ChangeAt Go.RowKit Go.Joins
open Go.Proofs.Ytklfmlbokedbdaa.boxes Go.Proofs.Ytklfmlbokedbdaa.join
set_option linter.unusedVariables false

/-- A box equals itself. -/
theorem eqBox_same (a b c d : Int) (w : World) : Calls Try.prog 31 #[box a b c d, box a b c d] w fun e w' => e = .returned (.bool true) ∧ Below w.heap.size w w' := by
  go_enter Try.func31, Try.ntmps31
  go_wp2
  go_ret
  exact ⟨rfl, below_alloc2 _ _ _⟩

/-- What the law's first statement needs of its two arguments' blocks stays while nothing that is there turns. -/
theorem keep8 {w W w' : World} {a b c d a' b' c' d' : Int} (hb : Below W.heap.size W w') (h : (Below w.heap.size w W ∧ w.heap.size + 1 < W.heap.size ∧ W.cell? ⟨w.heap.size, 0, none⟩ = some (.int .i64 a) ∧ W.cell? ⟨w.heap.size, 1, none⟩ = some (.int .i64 b) ∧ W.cell? ⟨w.heap.size, 2, none⟩ = some (.int .i64 c) ∧ W.cell? ⟨w.heap.size, 3, none⟩ = some (.int .i64 d) ∧ W.cell? ⟨w.heap.size + 1, 0, none⟩ = some (.int .i64 a') ∧ W.cell? ⟨w.heap.size + 1, 1, none⟩ = some (.int .i64 b') ∧ W.cell? ⟨w.heap.size + 1, 2, none⟩ = some (.int .i64 c') ∧ W.cell? ⟨w.heap.size + 1, 3, none⟩ = some (.int .i64 d'))) : (Below w.heap.size w w' ∧ w.heap.size + 1 < w'.heap.size ∧ w'.cell? ⟨w.heap.size, 0, none⟩ = some (.int .i64 a) ∧ w'.cell? ⟨w.heap.size, 1, none⟩ = some (.int .i64 b) ∧ w'.cell? ⟨w.heap.size, 2, none⟩ = some (.int .i64 c) ∧ w'.cell? ⟨w.heap.size, 3, none⟩ = some (.int .i64 d) ∧ w'.cell? ⟨w.heap.size + 1, 0, none⟩ = some (.int .i64 a') ∧ w'.cell? ⟨w.heap.size + 1, 1, none⟩ = some (.int .i64 b') ∧ w'.cell? ⟨w.heap.size + 1, 2, none⟩ = some (.int .i64 c') ∧ w'.cell? ⟨w.heap.size + 1, 3, none⟩ = some (.int .i64 d')) := by
  obtain ⟨hB, hz, h0, h1, h2, h3, h4, h5, h6, h7⟩ := h
  have hs := hb.size
  have k0 : ∀ o, w'.cell? ⟨w.heap.size, o, none⟩ = W.cell? ⟨w.heap.size, o, none⟩ := fun o => hb.cell (p := ⟨w.heap.size, o, none⟩) (show w.heap.size < W.heap.size by omega)
  have k1 : ∀ o, w'.cell? ⟨w.heap.size + 1, o, none⟩ = W.cell? ⟨w.heap.size + 1, o, none⟩ := fun o => hb.cell (p := ⟨w.heap.size + 1, o, none⟩) hz
  exact ⟨hB.trans (hb.mono hB.size), by omega, (k0 0).trans h0, (k0 1).trans h1, (k0 2).trans h2, (k0 3).trans h3, (k1 0).trans h4, (k1 1).trans h5, (k1 2).trans h6, (k1 3).trans h7⟩
theorem start8 (w : World) (a b c d a' b' c' d' : Int) : let W := ((w.alloc (.cells #[.int .i64 a, .int .i64 b, .int .i64 c, .int .i64 d] 46)).alloc (.cells #[.int .i64 a', .int .i64 b', .int .i64 c', .int .i64 d'] 46)).drew
    (Below w.heap.size w W ∧ w.heap.size + 1 < W.heap.size ∧ W.cell? ⟨w.heap.size, 0, none⟩ = some (.int .i64 a) ∧ W.cell? ⟨w.heap.size, 1, none⟩ = some (.int .i64 b) ∧ W.cell? ⟨w.heap.size, 2, none⟩ = some (.int .i64 c) ∧ W.cell? ⟨w.heap.size, 3, none⟩ = some (.int .i64 d) ∧ W.cell? ⟨w.heap.size + 1, 0, none⟩ = some (.int .i64 a') ∧ W.cell? ⟨w.heap.size + 1, 1, none⟩ = some (.int .i64 b') ∧ W.cell? ⟨w.heap.size + 1, 2, none⟩ = some (.int .i64 c') ∧ W.cell? ⟨w.heap.size + 1, 3, none⟩ = some (.int .i64 d')) := by
  have e0 : ((w.alloc (.cells #[.int .i64 a, .int .i64 b, .int .i64 c, .int .i64 d] 46)).alloc (.cells #[.int .i64 a', .int .i64 b', .int .i64 c', .int .i64 d'] 46)).heap[w.heap.size]? = some (.cells #[.int .i64 a, .int .i64 b, .int .i64 c, .int .i64 d] 46 (0, 0)) :=
    (Below.heap_alloc _ _ _ (by simp)).trans (heap_alloc_new w _)
  have e1 : ((w.alloc (.cells #[.int .i64 a, .int .i64 b, .int .i64 c, .int .i64 d] 46)).alloc (.cells #[.int .i64 a', .int .i64 b', .int .i64 c', .int .i64 d'] 46)).heap[w.heap.size + 1]? = some (.cells #[.int .i64 a', .int .i64 b', .int .i64 c', .int .i64 d'] 46 (0, 0)) := by
    have h := heap_alloc_new (w.alloc (.cells #[.int .i64 a, .int .i64 b, .int .i64 c, .int .i64 d] 46)) (.cells #[.int .i64 a', .int .i64 b', .int .i64 c', .int .i64 d'] 46)
    have e : (w.alloc (.cells #[.int .i64 a, .int .i64 b, .int .i64 c, .int .i64 d] 46)).heap.size = w.heap.size + 1 := by simp
    rw [e] at h
    exact h
  exact ⟨(below_alloc2 w _ _).drew, by simp, cell_of_block e0 0, cell_of_block e0 1, cell_of_block e0 2, cell_of_block e0 3, cell_of_block e1 0, cell_of_block e1 1, cell_of_block e1 2, cell_of_block e1 3⟩
theorem far {w : World} {g b o i : Nat} {v : Value} (h : b ≠ g) : (w.setCell ⟨g, i, none⟩ v).cell? ⟨b, o, none⟩ = w.cell? ⟨b, o, none⟩ := World.cell?_setCell_far w ⟨g, i, none⟩ ⟨b, o, none⟩ v (fun e => h e.symm)
/-- Four stores into a block of the call's own. -/
theorem set8 {w W : World} {a b c d a' b' c' d' : Int} {g : Nat} {v0 v1 v2 v3 : Value} (h : (Below w.heap.size w W ∧ w.heap.size + 1 < W.heap.size ∧ W.cell? ⟨w.heap.size, 0, none⟩ = some (.int .i64 a) ∧ W.cell? ⟨w.heap.size, 1, none⟩ = some (.int .i64 b) ∧ W.cell? ⟨w.heap.size, 2, none⟩ = some (.int .i64 c) ∧ W.cell? ⟨w.heap.size, 3, none⟩ = some (.int .i64 d) ∧ W.cell? ⟨w.heap.size + 1, 0, none⟩ = some (.int .i64 a') ∧ W.cell? ⟨w.heap.size + 1, 1, none⟩ = some (.int .i64 b') ∧ W.cell? ⟨w.heap.size + 1, 2, none⟩ = some (.int .i64 c') ∧ W.cell? ⟨w.heap.size + 1, 3, none⟩ = some (.int .i64 d'))) (hg : w.heap.size + 1 < g) :
    let w' := (((W.setCell ⟨g, 0, none⟩ v0).setCell ⟨g, 1, none⟩ v1).setCell ⟨g, 2, none⟩ v2).setCell ⟨g, 3, none⟩ v3
    (Below w.heap.size w w' ∧ w.heap.size + 1 < w'.heap.size ∧ w'.cell? ⟨w.heap.size, 0, none⟩ = some (.int .i64 a) ∧ w'.cell? ⟨w.heap.size, 1, none⟩ = some (.int .i64 b) ∧ w'.cell? ⟨w.heap.size, 2, none⟩ = some (.int .i64 c) ∧ w'.cell? ⟨w.heap.size, 3, none⟩ = some (.int .i64 d) ∧ w'.cell? ⟨w.heap.size + 1, 0, none⟩ = some (.int .i64 a') ∧ w'.cell? ⟨w.heap.size + 1, 1, none⟩ = some (.int .i64 b') ∧ w'.cell? ⟨w.heap.size + 1, 2, none⟩ = some (.int .i64 c') ∧ w'.cell? ⟨w.heap.size + 1, 3, none⟩ = some (.int .i64 d')) := by
  obtain ⟨hB, hz, h0, h1, h2, h3, h4, h5, h6, h7⟩ := h
  have n0 : w.heap.size ≠ g := by omega
  have n1 : w.heap.size + 1 ≠ g := by omega
  refine ⟨(((hB.setCell (show w.heap.size ≤ g by omega) _).setCell (show w.heap.size ≤ g by omega) _).setCell (show w.heap.size ≤ g by omega) _).setCell (show w.heap.size ≤ g by omega) _, by simpa [World.setCell] using hz, ?_, ?_, ?_, ?_, ?_, ?_, ?_, ?_⟩
  all_goals
    rw [far (by assumption), far (by assumption), far (by assumption), far (by assumption)]
    assumption

theorem mk12 {w W : World} {a b c d a' b' c' d' x1 x2 x3 x4 : Int} {g : Nat} (h : (Below w.heap.size w W ∧ w.heap.size + 1 < W.heap.size ∧ W.cell? ⟨w.heap.size, 0, none⟩ = some (.int .i64 a) ∧ W.cell? ⟨w.heap.size, 1, none⟩ = some (.int .i64 b) ∧ W.cell? ⟨w.heap.size, 2, none⟩ = some (.int .i64 c) ∧ W.cell? ⟨w.heap.size, 3, none⟩ = some (.int .i64 d) ∧ W.cell? ⟨w.heap.size + 1, 0, none⟩ = some (.int .i64 a') ∧ W.cell? ⟨w.heap.size + 1, 1, none⟩ = some (.int .i64 b') ∧ W.cell? ⟨w.heap.size + 1, 2, none⟩ = some (.int .i64 c') ∧ W.cell? ⟨w.heap.size + 1, 3, none⟩ = some (.int .i64 d'))) (hg : w.heap.size + 1 < g) (hz' : g < W.heap.size) (g0 : W.cell? ⟨g, 0, none⟩ = some (.int .i64 x1)) (g1 : W.cell? ⟨g, 1, none⟩ = some (.int .i64 x2)) (g2 : W.cell? ⟨g, 2, none⟩ = some (.int .i64 x3)) (g3 : W.cell? ⟨g, 3, none⟩ = some (.int .i64 x4)) : (Below w.heap.size w W ∧ w.heap.size + 1 < g ∧ g < W.heap.size ∧ W.cell? ⟨w.heap.size, 0, none⟩ = some (.int .i64 a) ∧ W.cell? ⟨w.heap.size, 1, none⟩ = some (.int .i64 b) ∧ W.cell? ⟨w.heap.size, 2, none⟩ = some (.int .i64 c) ∧ W.cell? ⟨w.heap.size, 3, none⟩ = some (.int .i64 d) ∧ W.cell? ⟨w.heap.size + 1, 0, none⟩ = some (.int .i64 a') ∧ W.cell? ⟨w.heap.size + 1, 1, none⟩ = some (.int .i64 b') ∧ W.cell? ⟨w.heap.size + 1, 2, none⟩ = some (.int .i64 c') ∧ W.cell? ⟨w.heap.size + 1, 3, none⟩ = some (.int .i64 d') ∧ W.cell? ⟨g, 0, none⟩ = some (.int .i64 x1) ∧ W.cell? ⟨g, 1, none⟩ = some (.int .i64 x2) ∧ W.cell? ⟨g, 2, none⟩ = some (.int .i64 x3) ∧ W.cell? ⟨g, 3, none⟩ = some (.int .i64 x4)) := by
  obtain ⟨hB, hz, h0, h1, h2, h3, h4, h5, h6, h7⟩ := h
  exact ⟨hB, hg, hz', h0, h1, h2, h3, h4, h5, h6, h7, g0, g1, g2, g3⟩
theorem keep12 {w W w' : World} {a b c d a' b' c' d' x1 x2 x3 x4 : Int} {g : Nat} (hb : Below W.heap.size W w') (h : (Below w.heap.size w W ∧ w.heap.size + 1 < g ∧ g < W.heap.size ∧ W.cell? ⟨w.heap.size, 0, none⟩ = some (.int .i64 a) ∧ W.cell? ⟨w.heap.size, 1, none⟩ = some (.int .i64 b) ∧ W.cell? ⟨w.heap.size, 2, none⟩ = some (.int .i64 c) ∧ W.cell? ⟨w.heap.size, 3, none⟩ = some (.int .i64 d) ∧ W.cell? ⟨w.heap.size + 1, 0, none⟩ = some (.int .i64 a') ∧ W.cell? ⟨w.heap.size + 1, 1, none⟩ = some (.int .i64 b') ∧ W.cell? ⟨w.heap.size + 1, 2, none⟩ = some (.int .i64 c') ∧ W.cell? ⟨w.heap.size + 1, 3, none⟩ = some (.int .i64 d') ∧ W.cell? ⟨g, 0, none⟩ = some (.int .i64 x1) ∧ W.cell? ⟨g, 1, none⟩ = some (.int .i64 x2) ∧ W.cell? ⟨g, 2, none⟩ = some (.int .i64 x3) ∧ W.cell? ⟨g, 3, none⟩ = some (.int .i64 x4))) : (Below w.heap.size w w' ∧ w.heap.size + 1 < g ∧ g < w'.heap.size ∧ w'.cell? ⟨w.heap.size, 0, none⟩ = some (.int .i64 a) ∧ w'.cell? ⟨w.heap.size, 1, none⟩ = some (.int .i64 b) ∧ w'.cell? ⟨w.heap.size, 2, none⟩ = some (.int .i64 c) ∧ w'.cell? ⟨w.heap.size, 3, none⟩ = some (.int .i64 d) ∧ w'.cell? ⟨w.heap.size + 1, 0, none⟩ = some (.int .i64 a') ∧ w'.cell? ⟨w.heap.size + 1, 1, none⟩ = some (.int .i64 b') ∧ w'.cell? ⟨w.heap.size + 1, 2, none⟩ = some (.int .i64 c') ∧ w'.cell? ⟨w.heap.size + 1, 3, none⟩ = some (.int .i64 d') ∧ w'.cell? ⟨g, 0, none⟩ = some (.int .i64 x1) ∧ w'.cell? ⟨g, 1, none⟩ = some (.int .i64 x2) ∧ w'.cell? ⟨g, 2, none⟩ = some (.int .i64 x3) ∧ w'.cell? ⟨g, 3, none⟩ = some (.int .i64 x4)) := by
  obtain ⟨hB, hg, hz, h0, h1, h2, h3, h4, h5, h6, h7, g0, g1, g2, g3⟩ := h
  have hs := hb.size
  have k0 : ∀ o, w'.cell? ⟨w.heap.size, o, none⟩ = W.cell? ⟨w.heap.size, o, none⟩ := fun o => hb.cell (p := ⟨w.heap.size, o, none⟩) (show w.heap.size < W.heap.size by omega)
  have k1 : ∀ o, w'.cell? ⟨w.heap.size + 1, o, none⟩ = W.cell? ⟨w.heap.size + 1, o, none⟩ := fun o => hb.cell (p := ⟨w.heap.size + 1, o, none⟩) (show w.heap.size + 1 < W.heap.size by omega)
  have k2 : ∀ o, w'.cell? ⟨g, o, none⟩ = W.cell? ⟨g, o, none⟩ := fun o => hb.cell (p := ⟨g, o, none⟩) hz
  exact ⟨hB.trans (hb.mono hB.size), hg, by omega, (k0 0).trans h0, (k0 1).trans h1, (k0 2).trans h2, (k0 3).trans h3, (k1 0).trans h4, (k1 1).trans h5, (k1 2).trans h6, (k1 3).trans h7, (k2 0).trans g0, (k2 1).trans g1, (k2 2).trans g2, (k2 3).trans g3⟩
theorem set12 {w W : World} {a b c d a' b' c' d' x1 x2 x3 x4 : Int} {g k : Nat} {v0 v1 v2 v3 : Value} (h : (Below w.heap.size w W ∧ w.heap.size + 1 < g ∧ g < W.heap.size ∧ W.cell? ⟨w.heap.size, 0, none⟩ = some (.int .i64 a) ∧ W.cell? ⟨w.heap.size, 1, none⟩ = some (.int .i64 b) ∧ W.cell? ⟨w.heap.size, 2, none⟩ = some (.int .i64 c) ∧ W.cell? ⟨w.heap.size, 3, none⟩ = some (.int .i64 d) ∧ W.cell? ⟨w.heap.size + 1, 0, none⟩ = some (.int .i64 a') ∧ W.cell? ⟨w.heap.size + 1, 1, none⟩ = some (.int .i64 b') ∧ W.cell? ⟨w.heap.size + 1, 2, none⟩ = some (.int .i64 c') ∧ W.cell? ⟨w.heap.size + 1, 3, none⟩ = some (.int .i64 d') ∧ W.cell? ⟨g, 0, none⟩ = some (.int .i64 x1) ∧ W.cell? ⟨g, 1, none⟩ = some (.int .i64 x2) ∧ W.cell? ⟨g, 2, none⟩ = some (.int .i64 x3) ∧ W.cell? ⟨g, 3, none⟩ = some (.int .i64 x4))) (hk : g < k) :
    let w' := (((W.setCell ⟨k, 0, none⟩ v0).setCell ⟨k, 1, none⟩ v1).setCell ⟨k, 2, none⟩ v2).setCell ⟨k, 3, none⟩ v3
    (Below w.heap.size w w' ∧ w.heap.size + 1 < g ∧ g < w'.heap.size ∧ w'.cell? ⟨w.heap.size, 0, none⟩ = some (.int .i64 a) ∧ w'.cell? ⟨w.heap.size, 1, none⟩ = some (.int .i64 b) ∧ w'.cell? ⟨w.heap.size, 2, none⟩ = some (.int .i64 c) ∧ w'.cell? ⟨w.heap.size, 3, none⟩ = some (.int .i64 d) ∧ w'.cell? ⟨w.heap.size + 1, 0, none⟩ = some (.int .i64 a') ∧ w'.cell? ⟨w.heap.size + 1, 1, none⟩ = some (.int .i64 b') ∧ w'.cell? ⟨w.heap.size + 1, 2, none⟩ = some (.int .i64 c') ∧ w'.cell? ⟨w.heap.size + 1, 3, none⟩ = some (.int .i64 d') ∧ w'.cell? ⟨g, 0, none⟩ = some (.int .i64 x1) ∧ w'.cell? ⟨g, 1, none⟩ = some (.int .i64 x2) ∧ w'.cell? ⟨g, 2, none⟩ = some (.int .i64 x3) ∧ w'.cell? ⟨g, 3, none⟩ = some (.int .i64 x4)) := by
  obtain ⟨hB, hg, hz, h0, h1, h2, h3, h4, h5, h6, h7, g0, g1, g2, g3⟩ := h
  have n0 : w.heap.size ≠ k := by omega
  have n1 : w.heap.size + 1 ≠ k := by omega
  have n2 : g ≠ k := by omega
  refine ⟨(((hB.setCell (show w.heap.size ≤ k by omega) _).setCell (show w.heap.size ≤ k by omega) _).setCell (show w.heap.size ≤ k by omega) _).setCell (show w.heap.size ≤ k by omega) _, hg, by simpa [World.setCell] using hz, ?_, ?_, ?_, ?_, ?_, ?_, ?_, ?_, ?_, ?_, ?_, ?_⟩
  all_goals
    rw [far (by assumption), far (by assumption), far (by assumption), far (by assumption)]
    assumption

theorem drew12 {w W : World} {a b c d a' b' c' d' x1 x2 x3 x4 : Int} {g : Nat} (h : (Below w.heap.size w W ∧ w.heap.size + 1 < g ∧ g < W.heap.size ∧ W.cell? ⟨w.heap.size, 0, none⟩ = some (.int .i64 a) ∧ W.cell? ⟨w.heap.size, 1, none⟩ = some (.int .i64 b) ∧ W.cell? ⟨w.heap.size, 2, none⟩ = some (.int .i64 c) ∧ W.cell? ⟨w.heap.size, 3, none⟩ = some (.int .i64 d) ∧ W.cell? ⟨w.heap.size + 1, 0, none⟩ = some (.int .i64 a') ∧ W.cell? ⟨w.heap.size + 1, 1, none⟩ = some (.int .i64 b') ∧ W.cell? ⟨w.heap.size + 1, 2, none⟩ = some (.int .i64 c') ∧ W.cell? ⟨w.heap.size + 1, 3, none⟩ = some (.int .i64 d') ∧ W.cell? ⟨g, 0, none⟩ = some (.int .i64 x1) ∧ W.cell? ⟨g, 1, none⟩ = some (.int .i64 x2) ∧ W.cell? ⟨g, 2, none⟩ = some (.int .i64 x3) ∧ W.cell? ⟨g, 3, none⟩ = some (.int .i64 x4))) : (Below w.heap.size w W.drew ∧ w.heap.size + 1 < g ∧ g < W.drew.heap.size ∧ W.drew.cell? ⟨w.heap.size, 0, none⟩ = some (.int .i64 a) ∧ W.drew.cell? ⟨w.heap.size, 1, none⟩ = some (.int .i64 b) ∧ W.drew.cell? ⟨w.heap.size, 2, none⟩ = some (.int .i64 c) ∧ W.drew.cell? ⟨w.heap.size, 3, none⟩ = some (.int .i64 d) ∧ W.drew.cell? ⟨w.heap.size + 1, 0, none⟩ = some (.int .i64 a') ∧ W.drew.cell? ⟨w.heap.size + 1, 1, none⟩ = some (.int .i64 b') ∧ W.drew.cell? ⟨w.heap.size + 1, 2, none⟩ = some (.int .i64 c') ∧ W.drew.cell? ⟨w.heap.size + 1, 3, none⟩ = some (.int .i64 d') ∧ W.drew.cell? ⟨g, 0, none⟩ = some (.int .i64 x1) ∧ W.drew.cell? ⟨g, 1, none⟩ = some (.int .i64 x2) ∧ W.drew.cell? ⟨g, 2, none⟩ = some (.int .i64 x3) ∧ W.drew.cell? ⟨g, 3, none⟩ = some (.int .i64 x4)) := ⟨h.1.drew, h.2⟩

set_option maxRecDepth 100000 in
set_option maxHeartbeats 2000000 in
theorem walk (a b c d a' b' c' d' : Int) (w : World) :
    Calls Try.prog 9 #[box a b c d, box a' b' c' d'] w fun e w' => e = .returned (.bool true) ∧ Below w.heap.size w w' := by
  obtain ⟨x1, x2, x3, x4, x5, HS, HI⟩ : ∃ x1 x2 x3 x4 x5 : Int, Hid (∀ W, Calls Try.prog 34 #[box a b c d, box a' b' c' d'] W fun e w' => e = .returned (.tuple #[box x1 x2 x3 x4, .int .i64 x5]) ∧ Below W.heap.size W w') ∧
      Hid (∀ W, Calls Try.prog 35 #[box a b c d, box a' b' c' d'] W fun e w' => e = .returned (.tuple #[box x1 x2 x3 x4, .int .i64 x5]) ∧ Below W.heap.size W w') := by
    by_cases h : vBox a b c d = true ∧ vBox a' b' c' d' = true
    · exact ⟨_, _, _, _, _, Lib.hid fun W => specJoin_ok a b c d a' b' c' d' W h.1 h.2, Lib.hid fun W => implJoin_ok a b c d a' b' c' d' W h.1 h.2⟩
    · exact ⟨_, _, _, _, _, Lib.hid fun W => specJoin_bad a b c d a' b' c' d' W h, Lib.hid fun W => implJoin_bad a b c d a' b' c' d' W h⟩
  go_enter Try.func9, Try.ntmps9
  go_upto_region 1 with fail
  go_cut [5, 6] (fun s5 s6 wx => ∃ g : Nat, s5 = .pointer (some ⟨g, 0, none⟩) ∧ s6 = .int .i64 x5 ∧ (Below w.heap.size w wx ∧ w.heap.size + 1 < g ∧ g < wx.heap.size ∧ wx.cell? ⟨w.heap.size, 0, none⟩ = some (.int .i64 a) ∧ wx.cell? ⟨w.heap.size, 1, none⟩ = some (.int .i64 b) ∧ wx.cell? ⟨w.heap.size, 2, none⟩ = some (.int .i64 c) ∧ wx.cell? ⟨w.heap.size, 3, none⟩ = some (.int .i64 d) ∧ wx.cell? ⟨w.heap.size + 1, 0, none⟩ = some (.int .i64 a') ∧ wx.cell? ⟨w.heap.size + 1, 1, none⟩ = some (.int .i64 b') ∧ wx.cell? ⟨w.heap.size + 1, 2, none⟩ = some (.int .i64 c') ∧ wx.cell? ⟨w.heap.size + 1, 3, none⟩ = some (.int .i64 d') ∧ wx.cell? ⟨g, 0, none⟩ = some (.int .i64 x1) ∧ wx.cell? ⟨g, 1, none⟩ = some (.int .i64 x2) ∧ wx.cell? ⟨g, 2, none⟩ = some (.int .i64 x3) ∧ wx.cell? ⟨g, 3, none⟩ = some (.int .i64 x4)))
  case first =>
    go_region_held3 (fun w' => (Below w.heap.size w w' ∧ w.heap.size + 1 < w'.heap.size ∧ w'.cell? ⟨w.heap.size, 0, none⟩ = some (.int .i64 a) ∧ w'.cell? ⟨w.heap.size, 1, none⟩ = some (.int .i64 b) ∧ w'.cell? ⟨w.heap.size, 2, none⟩ = some (.int .i64 c) ∧ w'.cell? ⟨w.heap.size, 3, none⟩ = some (.int .i64 d) ∧ w'.cell? ⟨w.heap.size + 1, 0, none⟩ = some (.int .i64 a') ∧ w'.cell? ⟨w.heap.size + 1, 1, none⟩ = some (.int .i64 b') ∧ w'.cell? ⟨w.heap.size + 1, 2, none⟩ = some (.int .i64 c') ∧ w'.cell? ⟨w.heap.size + 1, 3, none⟩ = some (.int .i64 d'))) (first | assumption | exact start8 w a b c d a' b' c' d' | exact keep8 (below_alloc1 _ _) (by assumption) | exact set8 (by assumption) (by omega) | go_keep)
      (first | (go_at_call 27; refine (toBox_calls _ _ _ _ _).mono ?_; rintro e w' ⟨rfl, hb⟩; have hk := keep8 hb (by assumption); obtain ⟨hc, hf⟩ := old hb; have hz := hb.size; (try simp at hz); (try have hz3 := Nat.lt_of_succ_le hz); (try have hz2 : w.heap.size + 1 + 1 < w'.heap.size := (by omega))) | (go_at_call 34; refine (HS.out _).mono ?_; rintro e w' ⟨rfl, hb⟩; have hk := keep8 hb (by assumption); obtain ⟨hc, hf⟩ := old hb; have hz := hb.size; (try simp at hz); (try have hz3 := Nat.lt_of_succ_le hz); (try have hz2 : w.heap.size + 1 + 1 < w'.heap.size := (by omega))))
    all_goals
      go_wp2_with fail
      go_meet
      refine ⟨_, rfl, rfl, mk12 (by assumption) ?_ ?_ ?_ ?_ ?_ ?_⟩
      all_goals first | omega | (simp; omega) | (simp [World.setCell]; omega) | go_simp
  case rest =>
    obtain ⟨g, rfl, rfl, hcut⟩ := hcut
    go_upto_region 2 with fail
    go_cut [7, 8] (fun s7 s8 wx => ∃ k : Nat, s7 = .pointer (some ⟨k, 0, none⟩) ∧ s8 = .int .i64 x5 ∧ (Below w.heap.size w wx ∧ w.heap.size + 1 < g ∧ g < wx.heap.size ∧ wx.cell? ⟨w.heap.size, 0, none⟩ = some (.int .i64 a) ∧ wx.cell? ⟨w.heap.size, 1, none⟩ = some (.int .i64 b) ∧ wx.cell? ⟨w.heap.size, 2, none⟩ = some (.int .i64 c) ∧ wx.cell? ⟨w.heap.size, 3, none⟩ = some (.int .i64 d) ∧ wx.cell? ⟨w.heap.size + 1, 0, none⟩ = some (.int .i64 a') ∧ wx.cell? ⟨w.heap.size + 1, 1, none⟩ = some (.int .i64 b') ∧ wx.cell? ⟨w.heap.size + 1, 2, none⟩ = some (.int .i64 c') ∧ wx.cell? ⟨w.heap.size + 1, 3, none⟩ = some (.int .i64 d') ∧ wx.cell? ⟨g, 0, none⟩ = some (.int .i64 x1) ∧ wx.cell? ⟨g, 1, none⟩ = some (.int .i64 x2) ∧ wx.cell? ⟨g, 2, none⟩ = some (.int .i64 x3) ∧ wx.cell? ⟨g, 3, none⟩ = some (.int .i64 x4)) ∧ wx.cell? ⟨k, 0, none⟩ = some (.int .i64 x1) ∧ wx.cell? ⟨k, 1, none⟩ = some (.int .i64 x2) ∧ wx.cell? ⟨k, 2, none⟩ = some (.int .i64 x3) ∧ wx.cell? ⟨k, 3, none⟩ = some (.int .i64 x4))
    case first =>
      go_region_held3 (fun w' => (Below w.heap.size w w' ∧ w.heap.size + 1 < g ∧ g < w'.heap.size ∧ w'.cell? ⟨w.heap.size, 0, none⟩ = some (.int .i64 a) ∧ w'.cell? ⟨w.heap.size, 1, none⟩ = some (.int .i64 b) ∧ w'.cell? ⟨w.heap.size, 2, none⟩ = some (.int .i64 c) ∧ w'.cell? ⟨w.heap.size, 3, none⟩ = some (.int .i64 d) ∧ w'.cell? ⟨w.heap.size + 1, 0, none⟩ = some (.int .i64 a') ∧ w'.cell? ⟨w.heap.size + 1, 1, none⟩ = some (.int .i64 b') ∧ w'.cell? ⟨w.heap.size + 1, 2, none⟩ = some (.int .i64 c') ∧ w'.cell? ⟨w.heap.size + 1, 3, none⟩ = some (.int .i64 d') ∧ w'.cell? ⟨g, 0, none⟩ = some (.int .i64 x1) ∧ w'.cell? ⟨g, 1, none⟩ = some (.int .i64 x2) ∧ w'.cell? ⟨g, 2, none⟩ = some (.int .i64 x3) ∧ w'.cell? ⟨g, 3, none⟩ = some (.int .i64 x4))) (first | assumption | exact drew12 hcut | exact keep12 (below_alloc1 _ _) (by assumption) | exact set12 (by assumption) (by omega) | go_keep)
        (first | (go_at_call 27; refine (toBox_calls _ _ _ _ _).mono ?_; rintro e w' ⟨rfl, hb⟩; have hk := keep12 hb (by assumption); obtain ⟨hc, hf⟩ := old hb; have hz := hb.size; (try simp at hz); (try have hz3 := Nat.lt_of_succ_le hz); (try have hz2 : wc.heap.size < w'.heap.size := (by omega))) | (go_at_call 35; refine (HI.out _).mono ?_; rintro e w' ⟨rfl, hb⟩; have hk := keep12 hb (by assumption); obtain ⟨hc, hf⟩ := old hb; have hz := hb.size; (try simp at hz); (try have hz3 := Nat.lt_of_succ_le hz); (try have hz2 : wc.heap.size < w'.heap.size := (by omega))))
      all_goals
        go_wp2_with fail
        go_meet
        refine ⟨_, rfl, rfl, by assumption, ?_, ?_, ?_, ?_⟩
        all_goals go_simp
    case rest =>
      obtain ⟨k, rfl, rfl, hcut2, k0, k1, k2, k3⟩ := hcut
      obtain ⟨hB, hg, hz, h0, h1, h2, h3, h4, h5, h6, h7, g0, g1, g2, g3⟩ := hcut2
      have HB := Lib.hid hB
      clear hB
      go_wp2_with fail
      refine (eqBox_same x1 x2 x3 x4 _).mono ?_
      rintro e w' ⟨rfl, hb⟩
      have HB2 := Lib.hid (HB.out.trans (hb.mono HB.out.size))
      clear hb
      go_wp2
      go_ret
      exact ⟨rfl, HB2.out⟩
end Go.Proofs.Ytklfmlbokedbdaa.fnExactJoinBoxes
