/-
  Proved: both functions that copy a stroke leave its points in a block of its own (contracts of callees of the laws on functions that return ink).
  Conditions: the stroke has points, which lie in a row of their own.
-/
import Derived.Test.YtklfmlbokedbdaaCopies
import Derived.Deep.AppendLies
import Derived.OwnWalk
import Derived.Laws.Cover3
namespace Go.Proofs.Ytklfmlbokedbdaa.owned
open Go.ChangeShapes Go.WideShapes Go.ChangeAt Go.RowKit Go.Joins
open Go.Proofs.Ytklfmlbokedbdaa.join Go.Proofs.Ytklfmlbokedbdaa.strokes Go.Proofs.Ytklfmlbokedbdaa.valid Go.Proofs.Ytklfmlbokedbdaa.inks
open Go.Proofs.Ytklfmlbokedbdaa.fnExactValidStroke (add_none)
set_option linter.unusedVariables false

def cellsP (pts : List P3) : List Value := pts.flatMap fun p => [.int .i64 p.1, .int .i64 p.2.1, .int .i64 p.2.2]
theorem cellsP_len (pts : List P3) : (cellsP pts).length = pts.length * 3 := by
  induction pts with
  | nil => rfl
  | cons p ps ih =>
    show (_ :: _ :: _ :: cellsP ps).length = _
    simp [ih]
    omega
theorem cellsP_at {pts : List P3} {p : P3} : ∀ {i : Nat}, pts[i]? = some p → (cellsP pts)[i * 3]? = some (.int .i64 p.1) ∧ (cellsP pts)[i * 3 + 1]? = some (.int .i64 p.2.1) ∧ (cellsP pts)[i * 3 + 2]? = some (.int .i64 p.2.2) := by
  induction pts with
  | nil => intro i h; simp at h
  | cons q qs ih =>
    intro i h
    have e : cellsP (q :: qs) = .int .i64 q.1 :: .int .i64 q.2.1 :: .int .i64 q.2.2 :: cellsP qs := rfl
    match i, h with
    | 0, h => simp at h; subst h; rw [e]; simp
    | i + 1, h =>
      rw [e]
      obtain ⟨h0, h1, h2⟩ := ih (i := i) (by simpa using h)
      rw [show (i + 1) * 3 = i * 3 + 3 by omega]
      exact ⟨by simpa using h0, by simpa using h1, by simpa using h2⟩
theorem cellsP_one (pts : List P3) : ∀ u ∈ cellsP pts, u.oneCell' = true := by
  intro u hu
  simp only [cellsP, List.mem_flatMap] at hu
  obtain ⟨p, _, hu⟩ := hu
  simp at hu
  rcases hu with rfl | rfl | rfl <;> rfl
theorem cellsP_reads {w : World} {g : Nat} {pts : List P3} (h : Pts w g pts) (j : Nat) (u : Value) (hj : (cellsP pts)[j]? = some u) : w.cell? ((⟨g, 0, none⟩ : Addr).add j) = some u := by
  rw [add_none rfl j]
  have hl := (List.getElem?_eq_some_iff.1 hj).1
  rw [cellsP_len] at hl
  have hi : j / 3 < pts.length := by omega
  have hp := List.getElem?_eq_getElem hi
  obtain ⟨a0, a1, a2⟩ := cellsP_at hp
  obtain ⟨b0, b1, b2⟩ := h _ _ hp
  have hr : j % 3 = 0 ∨ j % 3 = 1 ∨ j % 3 = 2 := by omega
  rcases hr with hr | hr | hr
  · have e : j / 3 * 3 = j := by omega
    rw [e] at a0 b0
    rw [a0] at hj
    simpa [← hj] using b0
  · have e : j / 3 * 3 + 1 = j := by omega
    rw [e] at a1 b1
    rw [a1] at hj
    simpa [← hj] using b1
  · have e : j / 3 * 3 + 2 = j := by omega
    rw [e] at a2 b2
    rw [a2] at hj
    simpa [← hj] using b2
theorem ownPts_of_row {w : World} {base g n cap : Nat} {pts : List P3} (h : w.ownsRow base 71 3 (.slice (some ⟨g, 0, none⟩) n cap) n (cellsP pts)) : OwnPts w g pts ∧ base ≤ g := by
  obtain ⟨hl, h⟩ := h
  rcases h with ⟨h, _⟩ | ⟨g', cap', cur, hv, hb, hh, _, _, hs, ht⟩
  · cases h
  · injection hv with hv
    injection hv with hv
    injection hv with hv
    subst hv
    refine ⟨⟨fun i p hi => ?_, cur, hh⟩, hb⟩
    obtain ⟨a0, a1, a2⟩ := cellsP_at hi
    rw [← ht] at a0 a1 a2
    have key : ∀ j u, (cur.toList.take (n * 3))[j]? = some u → w.cell? ⟨g, j, none⟩ = some u := by
      intro j u hu
      rw [cell_of_block hh]
      rw [List.getElem?_take] at hu
      split at hu
      · simpa using hu
      · cases hu
    exact ⟨key _ _ a0, key _ _ a1, key _ _ a2⟩

theorem empty_row (w : World) (o : Obj) : ((w.alloc o).alloc (.cells #[] 71)).ownsRow w.heap.size 71 3 (.slice (some ⟨w.heap.size + 1, 0, none⟩) 0 0) 0 [] := by
  refine ⟨by simp, .inr ⟨w.heap.size + 1, 0, #[], rfl, by omega, ?_, Nat.le_refl _, by simp [maxLen], by simp, by simp⟩⟩
  have h := heap_alloc_new (w.alloc o) (.cells #[] 71)
  have e : (w.alloc o).heap.size = w.heap.size + 1 := by simp
  rw [e] at h
  exact h

theorem empty_row1 (w : World) : (w.alloc (.cells #[] 71)).ownsRow w.heap.size 71 3 (.slice (some ⟨w.heap.size, 0, none⟩) 0 0) 0 [] :=
  ⟨by simp, .inr ⟨w.heap.size, 0, #[], rfl, Nat.le_refl _, heap_alloc_new _ _, Nat.le_refl _, by simp [maxLen], by simp, by simp⟩⟩
theorem grown_below {w w' : World} {o : Obj} {n c : Nat} (hgr : (w.alloc o).grownBy w' (Value.slice (some ⟨w.heap.size, 0, none⟩) n c).ownBlock) : Below w.heap.size w w' := by
  have hz := hgr.size
  simp at hz
  exact ⟨hgr.os, hgr.tape, hgr.output, by omega, fun k hk => by rw [hgr.block k (by simp; omega) (by simp [Value.ownBlock]; omega), Below.heap_alloc _ _ _ hk]⟩
/-- What the append leaves of the result's cell. -/
theorem grown_res {w w' : World} {o : Obj} {v : Value} {g : Nat} (hv : v.ownBlock = some (w.heap.size + 1)) (hgr : ((w.alloc (.cells #[.slice none 0 0] 29)).alloc o).grownBy w' v.ownBlock) (hat : v.ownBlock = some g ∨ g = ((w.alloc (.cells #[.slice none 0 0] 29)).alloc o).heap.size) :
    w'.cell? ⟨w.heap.size, 0, none⟩ = some (.slice none 0 0) ∧ (∀ i, w'.frozen? ⟨w.heap.size, i, none⟩ = false) ∧ w.heap.size < w'.heap.size ∧ Below w.heap.size w w' ∧ w.heap.size < g := by
  rw [hv] at hgr hat
  have hz := hgr.size
  simp at hz
  have h1 : w'.heap[w.heap.size]? = some (.cells #[.slice none 0 0] 29 (0, 0)) := by
    rw [hgr.block _ (by simp; omega) (by simp), Below.heap_alloc _ _ _ (by simp)]
    exact heap_alloc_new w _
  refine ⟨by rw [cell_of_block h1]; rfl, unfrozen_of_block h1, by omega, ⟨hgr.os, hgr.tape, hgr.output, by omega, fun k hk => ?_⟩, ?_⟩
  · rw [hgr.block k (by simp; omega) (by simp; omega), Below.heap_alloc _ _ _ (by simp; omega), Below.heap_alloc _ _ _ hk]
  · rcases hat with h | h
    · injection h with h; omega
    · simp at h; omega

set_option maxRecDepth 100000 in
set_option maxHeartbeats 2000000 in
theorem l02OwnStroke_calls {c o : Nat} (b g n : Nat) (pts : List P3) (w : World) (hn : pts.length = n) (h1 : 1 ≤ n) (hcap : n ≤ 1048576) (hg : g < w.heap.size) (hbz : b < w.heap.size) (hs : w.cell? ⟨b, o, none⟩ = some (.slice (some ⟨g, 0, none⟩) n c)) (hp : Pts w g pts) :
    Calls Try.prog 68 #[.pointer (some ⟨b, o, none⟩)] w fun e w' => ∃ g' c', e = .returned (.agg #[.slice (some ⟨g', 0, none⟩) n c']) ∧ w.heap.size ≤ g' ∧ OwnPts w' g' pts ∧ Below w.heap.size w w' := by
  obtain ⟨i0, hi0, hz0, hz1, hz2⟩ := info_parts infoPoint
  have HN := Lib.hid hn
  have HP := Lib.hid hp
  have h0 : 0 < n := h1
  clear hn hp
  go_enter Try.func68, Try.ntmps68
  go_wp2_with (first
    | (at_builtin
       refine wpList_append_lies _ rfl (.tmp 3) (.tmp 7) _ rfl w.heap.size 71 i0 _ 3 24 Try.underlying27 hi0 hz0 hz1 hz2 rfl (by omega) (.slice (some ⟨w.heap.size + 1, 0, none⟩) 0 0) 0 [] (by first | rfl | simp) (empty_row w _) ⟨g, 0, none⟩ n c (cellsP pts) (by first | rfl | simp) (by rw [cellsP_len, HN.out]) (cellsP_reads (HP.out.below (below_alloc2 _ _ _) hg)) (cellsP_one pts) h0 (by simp only [maxLen]; omega) (by omega) (by simp; omega) _ rfl ?_
       intro g' cap w' hown hgr hat hlt
       obtain ⟨r0, rf, rz, rb, rg⟩ := grown_res rfl hgr hat
       have HB := Lib.hid rb
       have HO := Lib.hid (ownPts_of_row (by simpa using hown)).1
       clear hown hgr hat rb))
  exact bodyPost_ret (v := .agg #[.slice (some ⟨g', 0, none⟩) n cap]) (by simp [results, Try.results68, go_sem, r0]) rfl
    ⟨g', cap, rfl, by omega, HO.out.same (Below.heap_setCell _ _ _ _ (by simp; omega)), HB.out.setCell (by simp) _⟩

theorem some_not_nil (a : Addr) (n c : Nat) (w : World) : (binOp .eql 27 (.slice (some a) n c) (.slice none 0 0)).run Try.prog w = .ok (.bool false) w := by
  show ((do pure (.bool (← Op.equal 27 (.slice (some a) n c) (.slice none 0 0))) : Sem Value)).run Try.prog w = _
  simp [run_equal_slice_nil w 27 71 (some a) n c Try.underlying27]

set_option maxRecDepth 100000 in
set_option maxHeartbeats 2000000 in
theorem clone_calls {c : Nat} (g n : Nat) (pts : List P3) (w : World) (hn : pts.length = n) (h1 : 1 ≤ n) (hcap : n ≤ 1048576) (hg : g < w.heap.size) (hp : Pts w g pts) :
    Calls Try.prog 86 #[.slice (some ⟨g, 0, none⟩) n c] w fun e w' => ∃ g' c', e = .returned (.slice (some ⟨g', 0, none⟩) n c') ∧ w.heap.size ≤ g' ∧ OwnPts w' g' pts ∧ Below w.heap.size w w' := by
  obtain ⟨i0, hi0, hz0, hz1, hz2⟩ := info_parts infoPoint
  have HN := Lib.hid hn
  have HP := Lib.hid hp
  have h0 : 0 < n := h1
  have hE := some_not_nil ⟨g, 0, none⟩ n c
  clear hn hp
  go_enter Try.func86, Try.ntmps86
  go_wp2_with (first
    | (at_builtin
       refine wpList_append_lies _ rfl (.tmp 5) (.tmp 6) _ rfl w.heap.size 71 i0 _ 3 24 Try.underlying27 hi0 hz0 hz1 hz2 rfl (by omega) (.slice (some ⟨w.heap.size, 0, none⟩) 0 0) 0 [] (by first | rfl | simp) (empty_row1 w) ⟨g, 0, none⟩ n c (cellsP pts) (by first | rfl | simp) (by rw [cellsP_len, HN.out]) (cellsP_reads (HP.out.below (below_alloc1 _ _) hg)) (cellsP_one pts) h0 (by simp only [maxLen]; omega) (by omega) (by simp) _ rfl ?_
       intro g' cap w' hown hgr hat hlt
       have HB := Lib.hid (grown_below hgr)
       have HO := Lib.hid (ownPts_of_row (by simpa using hown))
       clear hown hgr hat))
  exact bodyPost_ret (v := .slice (some ⟨g', 0, none⟩) n cap) (by simp [results, Try.results86, go_sem]) rfl ⟨g', cap, rfl, HO.out.2, HO.out.1, HB.out⟩

set_option maxHeartbeats 1000000 in
theorem copyStroke_calls {c : Nat} (g n : Nat) (pts : List P3) (w : World) (hn : pts.length = n) (h1 : 1 ≤ n) (hcap : n ≤ 1048576) (hg : g < w.heap.size) (hp : Pts w g pts) :
    Calls Try.prog 70 #[.agg #[.slice (some ⟨g, 0, none⟩) n c]] w fun e w' => ∃ g' c', e = .returned (.agg #[.slice (some ⟨g', 0, none⟩) n c']) ∧ w.heap.size ≤ g' ∧ OwnPts w' g' pts ∧ Below w.heap.size w w' := by
  have HP := Lib.hid (hp.below (below_alloc2 w (.cells #[.slice (some ⟨g, 0, none⟩) n c] 29) (.cells #[.slice none 0 0] 29)) hg)
  clear hp
  go_enter Try.func70, Try.ntmps70
  go_wp2_with fail
  refine (clone_calls g n pts _ hn h1 hcap (by simp; omega) HP.out).mono ?_
  rintro e w1 ⟨g', c', rfl, hg0, ho, hb⟩
  have HO := Lib.hid ho
  simp at hg0
  have hz := hb.size
  simp at hz
  obtain ⟨hc1, hf1⟩ : (∀ i, w1.cell? ⟨w.heap.size + 1, i, none⟩ = ((w.alloc (.cells #[.slice (some ⟨g, 0, none⟩) n c] 29)).alloc (.cells #[.slice none 0 0] 29)).cell? ⟨w.heap.size + 1, i, none⟩) ∧ (∀ i, w1.frozen? ⟨w.heap.size + 1, i, none⟩ = ((w.alloc (.cells #[.slice (some ⟨g, 0, none⟩) n c] 29)).alloc (.cells #[.slice none 0 0] 29)).frozen? ⟨w.heap.size + 1, i, none⟩) :=
    ⟨fun i => hb.cell (p := ⟨w.heap.size + 1, i, none⟩) (by simp), fun i => hb.frozen (p := ⟨w.heap.size + 1, i, none⟩) (by simp)⟩
  have lz : w.heap.size + 1 < w1.heap.size := by omega
  have HB := Lib.hid ((below_alloc2 w _ _).trans (hb.mono (below_alloc2 w _ _).size))
  clear hb ho
  go_wp2
  exact bodyPost_ret (v := .agg #[.slice (some ⟨g', 0, none⟩) n c']) (by simp [results, Try.results70, go_sem, hc1]) rfl
    ⟨g', c', rfl, by omega, HO.out.same (Below.heap_setCell _ _ _ _ (by simp; omega)), HB.out.setCell (by simp) _⟩
end Go.Proofs.Ytklfmlbokedbdaa.owned
