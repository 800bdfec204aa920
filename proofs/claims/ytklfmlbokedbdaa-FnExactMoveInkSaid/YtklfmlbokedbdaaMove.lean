/-
  Proved: the document's function that moves ink, and the program's function that changes all points, leave the moved ink in blocks of its own (contracts of callees of the law on MoveInk).
  Conditions: the ink is valid and lies in a row of its own.
-/
import Derived.Test.YtklfmlbokedbdaaCut
namespace Go.Proofs.Ytklfmlbokedbdaa.owned
open Go.ChangeShapes Go.WideShapes Go.ChangeAt Go.RowKit Go.Joins
open Go.Proofs.Ytklfmlbokedbdaa.join Go.Proofs.Ytklfmlbokedbdaa.strokes Go.Proofs.Ytklfmlbokedbdaa.valid Go.Proofs.Ytklfmlbokedbdaa.inks Go.Proofs.Ytklfmlbokedbdaa.inkOk
open Go.Proofs.Ytklfmlbokedbdaa.count (vI_len)
set_option linter.unusedVariables false

def mv (x y : Int) (p : P3) : P3 := (wrap64 (p.1 + x), wrap64 (p.2.1 + y), p.2.2)
def mvS (x y : Int) (q : List P3) : List P3 := q.map (mv x y)
theorem mvS_len (x y : Int) (q : List P3) : (mvS x y q).length = q.length := by simp [mvS]
theorem mvS_at {x y : Int} {q : List P3} {i : Nat} {p : P3} (h : q[i]? = some p) : (mvS x y q)[i]? = some (mv x y p) := by simp [mvS, h]

/-- What a round of the moving loop finds: the first j points have been moved. -/
structure Moving (w : World) (g : Nat) (x y : Int) (q : List P3) (j : Nat) (w' : World) : Prop where
  only : Only g (g + 1) w w'
  row : ∃ cur : Array Value, w'.heap[g]? = some (.cells cur 71 (0, 0)) ∧
    ∀ (i : Nat) (p : P3), q[i]? = some p → cur[i * 3]? = some (.int .i64 (if i < j then (mv x y p).1 else p.1)) ∧ cur[i * 3 + 1]? = some (.int .i64 (if i < j then (mv x y p).2.1 else p.2.1)) ∧ cur[i * 3 + 2]? = some (.int .i64 p.2.2)
section
variable {w : World} {g : Nat} {x y : Int} {q : List P3} {j : Nat} {w' w2 : World}
theorem Moving.lt (h : Moving w g x y q j w') : g < w'.heap.size := by
  obtain ⟨cur, hc, _⟩ := h.row
  exact lt_of_cells hc
theorem Moving.start (h : OwnPts w g q) : Moving w g x y q 0 w := by
  obtain ⟨cur, hc⟩ := h.2
  refine ⟨Only.refl _ _ _, cur, hc, fun i p hi => ?_⟩
  obtain ⟨h0, h1, h2⟩ := h.1 i p hi
  rw [cell_of_block hc] at h0 h1 h2
  simpa using ⟨h0, h1, h2⟩
theorem Moving.kept (h : Moving w g x y q j w') (hb : Below w'.heap.size w' w2) : Moving w g x y q j w2 := by
  have hl := h.lt
  obtain ⟨cur, hc, hp⟩ := h.row
  exact ⟨h.only.trans (Only.of_below hb), cur, (hb.block _ hl).trans hc, hp⟩
theorem Moving.at_ (h : Moving w g x y q j w') {p : P3} (hp : q[j]? = some p) :
    w'.cell? ⟨g, j * 3, none⟩ = some (.int .i64 p.1) ∧ w'.cell? ⟨g, j * 3 + 1, none⟩ = some (.int .i64 p.2.1) ∧ w'.cell? ⟨g, j * 3 + 2, none⟩ = some (.int .i64 p.2.2) ∧ ∀ o, w'.frozen? ⟨g, o, none⟩ = false := by
  obtain ⟨cur, hc, hall⟩ := h.row
  obtain ⟨h0, h1, h2⟩ := hall j p hp
  simp only [Nat.lt_irrefl, if_false] at h0 h1
  exact ⟨by rw [cell_of_block hc]; exact h0, by rw [cell_of_block hc]; exact h1, by rw [cell_of_block hc]; exact h2, unfrozen_of_block hc⟩
theorem Moving.step (h : Moving w g x y q j w2) {p : P3} (hp : q[j]? = some p) {a b : Int} (ha : a = (mv x y p).1) (hb : b = (mv x y p).2.1) :
    Moving w g x y q (j + 1) ((w2.setCell ⟨g, j * 3, none⟩ (.int .i64 a)).setCell ⟨g, j * 3 + 1, none⟩ (.int .i64 b)) := by
  subst ha hb
  obtain ⟨cur, hc, hall⟩ := h.row
  have s1 := block_setCell (i := j * 3) hc (.int .i64 (mv x y p).1)
  have s2 := block_setCell (i := j * 3 + 1) s1 (.int .i64 (mv x y p).2.1)
  refine ⟨(h.only.setCell (Nat.le_refl _) (by omega) _).setCell (Nat.le_refl _) (by omega) _, _, s2, ?_⟩
  intro i p' hi
  by_cases e : i = j
  · subst e
    obtain rfl : p = p' := by rw [hp] at hi; injection hi
    obtain ⟨h0, h1, h2⟩ := hall i p hp
    have l0 := (Array.getElem?_eq_some_iff.1 h0).1
    have l1 := (Array.getElem?_eq_some_iff.1 h1).1
    refine ⟨?_, ?_, ?_⟩
    · rw [Array.getElem?_setIfInBounds_ne (by omega)]
      simp [l0]
    · simp [l1]
    · rw [Array.getElem?_setIfInBounds_ne (by omega), Array.getElem?_setIfInBounds_ne (by omega)]
      exact h2
  · obtain ⟨h0, h1, h2⟩ := hall i p' hi
    rw [Array.getElem?_setIfInBounds_ne (by omega), Array.getElem?_setIfInBounds_ne (by omega), Array.getElem?_setIfInBounds_ne (by omega), Array.getElem?_setIfInBounds_ne (by omega), Array.getElem?_setIfInBounds_ne (by omega), Array.getElem?_setIfInBounds_ne (by omega)]
    have e2 : (i < j + 1) = (i < j) := by simp; omega
    simp only [e2]
    exact ⟨h0, h1, h2⟩
theorem Moving.step3 (h : Moving w g x y q j w2) {p : P3} (hp : q[j]? = some p) {a b c : Int} (ha : a = (mv x y p).1) (hb : b = (mv x y p).2.1) (hc : c = p.2.2) :
    Moving w g x y q (j + 1) (((w2.setCell ⟨g, j * 3, none⟩ (.int .i64 a)).setCell ⟨g, j * 3 + 1, none⟩ (.int .i64 b)).setCell ⟨g, j * 3 + 2, none⟩ (.int .i64 c)) := by
  subst hc
  have h1 := h.step hp ha hb
  obtain ⟨cur, hc, hall⟩ := h1.row
  have s3 := block_setCell (i := j * 3 + 2) hc (.int .i64 p.2.2)
  refine ⟨h1.only.setCell (Nat.le_refl _) (by omega) _, _, s3, fun i p' hi => ?_⟩
  obtain ⟨h0, h1, h2⟩ := hall i p' hi
  rw [Array.getElem?_setIfInBounds_ne (by omega), Array.getElem?_setIfInBounds_ne (by omega)]
  refine ⟨h0, h1, ?_⟩
  by_cases e : i = j
  · subst e
    obtain rfl : p = p' := by rw [hp] at hi; injection hi
    have l2 := (Array.getElem?_eq_some_iff.1 h2).1
    simp [l2]
  · rw [Array.getElem?_setIfInBounds_ne (by omega)]
    exact h2
theorem Moving.pts (h : Moving w g x y q j w') (hj : q.length ≤ j) : OwnPts w' g (mvS x y q) := by
  obtain ⟨cur, hc, hall⟩ := h.row
  refine ⟨fun i p hi => ?_, cur, hc⟩
  have hl : i < q.length := by have := (List.getElem?_eq_some_iff.1 hi).1; rw [mvS_len] at this; exact this
  have hq := List.getElem?_eq_getElem hl
  rw [mvS_at hq] at hi
  injection hi with hi
  subst hi
  obtain ⟨h0, h1, h2⟩ := hall i _ hq
  rw [if_pos (by omega)] at h0 h1
  rw [cell_of_block hc, cell_of_block hc, cell_of_block hc]
  exact ⟨h0, h1, h2⟩
end
def mvF (x y : Int) (F : Nat → List P3) (k i : Nat) : List P3 := if i < k then mvS x y (F i) else F i
theorem mvF_len (x y : Int) (F : Nat → List P3) (k i : Nat) : (mvF x y F k i).length = (F i).length := by unfold mvF; split <;> simp [mvS_len]
/-- One more stroke has been moved. -/
theorem Own.moved {lo hi : Nat} {w w' : World} {G : Nat} {gs : Nat → Nat} {n k : Nat} {F : Nat → List P3} {x y : Int} (h : Own lo hi w G gs n (mvF x y F k)) (hk : k < n) (hm : Moving w (gs k) x y (F k) (F k).length w') : Own lo hi w' G gs n (mvF x y F (k + 1)) := by
  refine (h.turn hk hm.only (hm.pts (Nat.le_refl _)) (by rw [mvS_len, mvF_len])).cast fun i hi => ?_
  by_cases e : i = k
  · subst e
    simp [mvF]
  · unfold mvF
    have e2 : (i < k + 1) = (i < k) := by simp; omega
    simp only [e, e2, if_false]

set_option maxHeartbeats 1000000 in
theorem plus_calls (x y t x' y' t' : Int) (w : World) :
    Calls Try.prog 77 #[pt x y t, pt x' y' t'] w fun e w' => e = .returned (pt (wrap64 (x + x')) (wrap64 (y + y')) (wrap64 (t + t'))) ∧ Below w.heap.size w w' := by
  go_enter Try.func77, Try.ntmps77
  go_wp2
  exact bodyPost_ret (v := pt (wrap64 (x + x')) (wrap64 (y + y')) (wrap64 (t + t'))) (by simp [results, Try.results77, go_sem]) rfl ⟨rfl, below_alloc3 _ _ _ _⟩
end Go.Proofs.Ytklfmlbokedbdaa.owned
