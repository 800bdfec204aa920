/-
  Proved: what a list of rows of three numbers becomes when one of its rows is replaced (plain lemmas).
  Conditions: none.
-/
import Derived.Test.YtimkochgnjggdaaBoxed
namespace Go.Proofs.Ytimkochgnjggdaa.put3
open Go.ChangeShapes Go.WideShapes Go.ChangeAt Go.RowKit Go.Joins
open Go.Proofs.Ytimkochgnjggdaa.core Go.Proofs.Ytimkochgnjggdaa.rown Go.Proofs.Ytimkochgnjggdaa.stk Go.Proofs.Ytimkochgnjggdaa.boxed
set_option linter.unusedVariables false
set_option linter.unusedSimpArgs false
theorem rws_one (f : Nat → P3) (n : Nat) : ∀ u ∈ rws (row3 f) n, u.oneCell' = true := by
  induction n with
  | zero => intro u hu; simp [rws] at hu
  | succ n ih =>
    intro u hu
    rw [rws_succ] at hu
    rcases List.mem_append.1 hu with h | h
    · exact ih u h
    · unfold row3 c3 at h
      simp at h
      rcases h with rfl | rfl | rfl <;> rfl
theorem own_set1 {w : World} {base E k n g c p : Nat} {xs : List Value} (h : w.ownsRow base E k (.slice (some ⟨g, 0, none⟩) n c) n xs) (u : Value) (hp : p < xs.length) : (w.setCell ⟨g, p, none⟩ u).ownsRow base E k (.slice (some ⟨g, 0, none⟩) n c) n (xs.set p u) := by
  obtain ⟨hl, h⟩ := h
  refine ⟨by simpa using hl, ?_⟩
  rcases h with ⟨h, _⟩ | ⟨g', cap, cur, hv, h1, h2, h3, h4, h5, h6⟩
  · cases h
  · injection hv with hv hn hc
    injection hv with hv
    injection hv with hg _
    subst hg
    refine .inr ⟨g, cap, cur.setIfInBounds p u, by rw [hc], h1, block_setCell h2 u, h3, h4, by simpa using h5, ?_⟩
    rw [← h6]
    have : p < n * k := by rw [← hl]; exact hp
    apply List.ext_getElem?
    intro j
    rw [List.getElem?_take, List.getElem?_set, List.getElem?_take]
    simp only [Array.toList_setIfInBounds, List.getElem?_set, List.length_take]
    by_cases hj : p = j
    · subst hj
      have h8 : n * k ≤ cap * k := Nat.mul_le_mul_right k h3
      have h7 : p < cur.size := by omega
      have h9 : p < min (n * k) cur.size := by omega
      simp [this, h7, h9]
    · simp [hj]
theorem free_row {w : World} {base E k n g c : Nat} {xs : List Value} (h : w.ownsRow base E k (.slice (some ⟨g, 0, none⟩) n c) n xs) : ∀ j, w.frozen? ⟨g, j, none⟩ = false := by
  obtain ⟨_, cur, hb⟩ := ownsRow_block h (g := g) rfl
  exact unfrozen_of_block hb
def put (f : Nat → P3) (i : Nat) (p : P3) : Nat → P3 := fun j => if j = i then p else f j
theorem set3 (f : Nat → P3) (n i : Nat) (hi : i < n) (p : P3) : (((rws (row3 f) n).set (i * 3) (.int .i64 p.1)).set (i * 3 + 1) (.int .i64 p.2.1)).set (i * 3 + 2) (.int .i64 p.2.2) = rws (row3 (put f i p)) n := by
  have hl := rws_len (row3_len f) n
  have hl2 := rws_len (row3_len (put f i p)) n
  apply List.ext_getElem?
  intro j
  rcases Nat.lt_or_ge j (n * 3) with h | h
  · obtain ⟨a, r, hr, rfl⟩ : ∃ a r, r < 3 ∧ j = a * 3 + r := ⟨j / 3, j % 3, by omega, by omega⟩
    have ha : a < n := by omega
    rw [rws_get (row3_len (put f i p)) a r hr n ha]
    simp only [List.getElem?_set, List.length_set, hl]
    rw [rws_get (row3_len f) a r hr n ha]
    by_cases e : a = i
    · subst e
      have e1 : row3 (put f a p) a = c3 p := by unfold row3 put; rw [if_pos rfl]
      rw [e1]
      rcases (by omega : r = 0 ∨ r = 1 ∨ r = 2) with rfl | rfl | rfl
      · rw [if_neg (by omega), if_neg (by omega), if_pos (by omega), if_pos (by omega)]; rfl
      · rw [if_neg (by omega), if_pos (by omega), if_pos (by omega)]; rfl
      · rw [if_pos (by omega), if_pos (by omega)]; rfl
    · have e1 : row3 (put f i p) a = row3 f a := by unfold row3 put; rw [if_neg e]
      rw [e1, if_neg (by omega), if_neg (by omega), if_neg (by omega)]
  · rw [List.getElem?_eq_none (by simp only [List.length_set]; omega), List.getElem?_eq_none (by omega)]
theorem own_put {w : World} {base E n g c i : Nat} {f : Nat → P3} (h : w.ownsRow base E 3 (.slice (some ⟨g, 0, none⟩) n c) n (rws (row3 f) n)) (hi : i < n) (p : P3) :
    (((w.setCell ⟨g, i * 3, none⟩ (.int .i64 p.1)).setCell ⟨g, i * 3 + 1, none⟩ (.int .i64 p.2.1)).setCell ⟨g, i * 3 + 2, none⟩ (.int .i64 p.2.2)).ownsRow base E 3 (.slice (some ⟨g, 0, none⟩) n c) n (rws (row3 (put f i p)) n) := by
  have hl := rws_len (row3_len f) n
  have := own_set1 (own_set1 (own_set1 h (.int .i64 p.1) (p := i * 3) (by omega)) (.int .i64 p.2.1) (p := i * 3 + 1) (by simp only [List.length_set]; omega)) (.int .i64 p.2.2) (p := i * 3 + 2) (by simp only [List.length_set]; omega)
  rwa [set3 f n i hi p] at this
theorem own_cast {w : World} {base E n : Nat} {v : Value} {f f' : Nat → P3} (h : w.ownsRow base E 3 v n (rws (row3 f) n)) (he : ∀ j, j < n → f j = f' j) : w.ownsRow base E 3 v n (rws (row3 f') n) := by
  rw [← rws_congr (r := row3 f) (r' := row3 f') n fun i hi => by unfold row3; rw [he i hi]]
  exact h

/-- A store into a box of another type leaves the list as it is. -/
theorem own_far {w : World} {base E k n b B : Nat} {v u : Value} {xs : List Value} {cs : Array Value} {fr : Nat × Nat} (h : w.ownsRow base E k v n xs) (hb : w.heap[b]? = some (.cells cs B fr)) (hne : B ≠ E) (j : Nat) : (w.setCell ⟨b, j, none⟩ u).ownsRow base E k v n xs := by
  refine ownsRow_same h fun g hg => ?_
  refine Below.heap_setCell _ _ _ _ ?_
  intro e
  simp only at e
  subst e
  obtain ⟨_, cur, hc⟩ := ownsRow_block h hg
  rw [hb] at hc
  injection hc with hc
  injection hc with h1 h2 h3
  exact hne h2
theorem bx_low {W0 W : World} {b B base E k n g c : Nat} {xs : List Value} (h : BX W0 W b B base E k (.slice (some ⟨g, 0, none⟩) n c) n xs) : W0.heap.size ≤ g ∧ g ≠ b ∧ ∃ cur, W.heap[g]? = some (.cells cur E (0, 0)) := by
  obtain ⟨h1, cur, h2⟩ := ownsRow_block h.own (g := g) rfl
  refine ⟨Nat.le_trans h.hbase h1, ?_, cur, h2⟩
  rintro rfl
  rw [h.blk] at h2
  injection h2 with h2
  injection h2 with h3 h4 h5
  exact h.ne h4
theorem far_set {W : World} {g b' E B' : Nat} {cs cur : Array Value} {fr fr' : Nat × Nat} (hg : W.heap[g]? = some (.cells cur E fr')) (hb : W.heap[b']? = some (.cells cs B' fr)) (hne : B' ≠ E) (j : Nat) (u : Value) : (W.setCell ⟨g, j, none⟩ u).heap[b']? = some (.cells cs B' fr) := by
  rw [Below.heap_setCell _ _ _ _ ?_]
  · exact hb
  · intro e
    simp only at e
    subst e
    rw [hg] at hb
    injection hb with hb
    injection hb with h1 h2 h3
    exact hne h2.symm
theorem far_set3 {W : World} {g b' E B' i j k : Nat} {x y z : Value} {cs cur : Array Value} {fr : Nat × Nat} (hg : W.heap[g]? = some (.cells cur E (0, 0))) (hb : W.heap[b']? = some (.cells cs B' fr)) (hne : B' ≠ E) : (((W.setCell ⟨g, i, none⟩ x).setCell ⟨g, j, none⟩ y).setCell ⟨g, k, none⟩ z).heap[b']? = some (.cells cs B' fr) :=
  far_set (block_setCell (block_setCell hg x) y) (far_set (block_setCell hg x) (far_set hg hb hne i x) hne j y) hne k z
theorem far_set2 {W : World} {g b' E B' i j : Nat} {x y : Value} {cs cur : Array Value} {fr : Nat × Nat} (hg : W.heap[g]? = some (.cells cur E (0, 0))) (hb : W.heap[b']? = some (.cells cs B' fr)) (hne : B' ≠ E) : ((W.setCell ⟨g, i, none⟩ x).setCell ⟨g, j, none⟩ y).heap[b']? = some (.cells cs B' fr) :=
  far_set (block_setCell hg x) (far_set hg hb hne i x) hne j y
theorem bx_put1 {W0 W : World} {b B base E k n g c p : Nat} {xs : List Value} (h : BX W0 W b B base E k (.slice (some ⟨g, 0, none⟩) n c) n xs) (u : Value) (hp : p < xs.length) : BX W0 (W.setCell ⟨g, p, none⟩ u) b B base E k (.slice (some ⟨g, 0, none⟩) n c) n (xs.set p u) := by
  obtain ⟨h1, h2, cur, h3⟩ := bx_low h
  refine ⟨far_set h3 h.blk h.ne p u, own_set1 h.own u hp, h.below.setCell h1 u, h.hb, h.hbase, ?_, h.ne⟩
  have := h.hbs
  simpa [World.setCell] using this
theorem bx_cast {W0 W : World} {b B base E k n : Nat} {v : Value} {xs xs' : List Value} (h : BX W0 W b B base E k v n xs) (e : xs = xs') : BX W0 W b B base E k v n xs' := e ▸ h
theorem bx_put3 {W0 W : World} {b B base E n g c i : Nat} {f : Nat → P3} (h : BX W0 W b B base E 3 (.slice (some ⟨g, 0, none⟩) n c) n (rws (row3 f) n)) (hi : i < n) (p : P3) :
    BX W0 (((W.setCell ⟨g, i * 3, none⟩ (.int .i64 p.1)).setCell ⟨g, i * 3 + 1, none⟩ (.int .i64 p.2.1)).setCell ⟨g, i * 3 + 2, none⟩ (.int .i64 p.2.2)) b B base E 3 (.slice (some ⟨g, 0, none⟩) n c) n (rws (row3 (put f i p)) n) := by
  have hl := rws_len (row3_len f) n
  refine bx_cast (bx_put1 (bx_put1 (bx_put1 h (.int .i64 p.1) (p := i * 3) (by omega)) (.int .i64 p.2.1) (p := i * 3 + 1) (by simp only [List.length_set]; omega)) (.int .i64 p.2.2) (p := i * 3 + 2) (by simp only [List.length_set]; omega)) (set3 f n i hi p)
theorem set_same {l : List Value} {i : Nat} {v : Value} (h : l[i]? = some v) : l.set i v = l := by
  apply List.ext_getElem?
  intro j
  rw [List.getElem?_set]
  by_cases e : i = j
  · subst e
    rw [if_pos rfl, if_pos (List.getElem?_eq_some_iff.1 h).1, h]
  · rw [if_neg e]
theorem set2 (f : Nat → P3) (n i : Nat) (hi : i < n) (x y : Int) : ((rws (row3 f) n).set (i * 3) (.int .i64 x)).set (i * 3 + 1) (.int .i64 y) = rws (row3 (put f i (x, y, (f i).2.2))) n := by
  rw [← set3 f n i hi (x, y, (f i).2.2)]
  refine (set_same ?_).symm
  rw [List.getElem?_set, if_neg (by omega), List.getElem?_set, if_neg (by omega), rws_get (row3_len f) i 2 (by omega) n hi]
  rfl
end Go.Proofs.Ytimkochgnjggdaa.put3
