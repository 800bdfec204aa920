/-
  Proved: what the functions that join boxes return (contracts of the callees of the law on JoinBoxes).
  Conditions: none.
-/
import Derived.Test.YtklfmlbokedbdaaGrown
import Derived.Deep.RegionHeld3
namespace Go.Proofs.Ytklfmlbokedbdaa.join
open Go.ChangeShapes Go.WideShapes Go.ChangeAt Go.RowKit Go.Joins
open Go.Proofs.Ytklfmlbokedbdaa.boxes
set_option linter.unusedVariables false

set_option maxRecDepth 100000 in
set_option maxHeartbeats 2000000 in
theorem join_calls (a b c d a' b' c' d' : Int) (w : World) :
    Calls Try.prog 65 #[box a b c d, box a' b' c' d'] w fun e w' => e = .returned (box (min a a') (min b b') (max c c') (max d d')) ∧ Below w.heap.size w w' := by
  go_enter Try.func65, Try.ntmps65
  go_wp2
  go_region_held3 (fun w' => w'.cell? ⟨w.heap.size, 0, none⟩ = some (.int .i64 a) ∧ w'.cell? ⟨w.heap.size, 1, none⟩ = some (.int .i64 b) ∧ w'.cell? ⟨w.heap.size, 2, none⟩ = some (.int .i64 c) ∧ w'.cell? ⟨w.heap.size, 3, none⟩ = some (.int .i64 d) ∧ w'.cell? ⟨w.heap.size + 1, 0, none⟩ = some (.int .i64 a') ∧ w'.cell? ⟨w.heap.size + 1, 1, none⟩ = some (.int .i64 b') ∧ w'.cell? ⟨w.heap.size + 1, 2, none⟩ = some (.int .i64 c') ∧ w'.cell? ⟨w.heap.size + 1, 3, none⟩ = some (.int .i64 d')) (go_keep)
    (first | (go_at_call 84; refine (min_calls _ _ _).mono ?_; rintro e w' ⟨rfl, rfl⟩) | (go_at_call 85; refine (max_calls _ _ _).mono ?_; rintro e w' ⟨rfl, rfl⟩))
  rename_i hh
  clear hh
  go_wp2
  exact bodyPost_ret (v := box (min a a') (min b b') (max c c') (max d d')) (by simp [results, Try.results65, go_sem]) rfl ⟨rfl, (below_alloc3 _ _ _ _).drew⟩


theorem two_pts (w : World) (a b c d : Int) : Pts (w.alloc (.cells #[.int .i64 a, .int .i64 b, .int .i64 0, .int .i64 c, .int .i64 d, .int .i64 0] 71)) w.heap.size [(a, b, 0), (c, d, 0)] := by
  intro i p hi
  have hb := heap_alloc_new w (.cells #[.int .i64 a, .int .i64 b, .int .i64 0, .int .i64 c, .int .i64 d, .int .i64 0] 71)
  rw [cell_of_block hb, cell_of_block hb, cell_of_block hb]
  match i, hi with
  | 0, hi => simp at hi; subst hi; exact ⟨rfl, rfl, rfl⟩
  | 1, hi => simp at hi; subst hi; exact ⟨rfl, rfl, rfl⟩
  | n + 2, hi => simp at hi
/-- All that was there before reads as it did. -/
theorem old {W w1 : World} (hb : Below W.heap.size W w1) : (∀ b o, b < W.heap.size → w1.cell? ⟨b, o, none⟩ = W.cell? ⟨b, o, none⟩) ∧ (∀ b o, b < W.heap.size → w1.frozen? ⟨b, o, none⟩ = W.frozen? ⟨b, o, none⟩) :=
  ⟨fun b o h => hb.cell (p := ⟨b, o, none⟩) h, fun b o h => hb.frozen (p := ⟨b, o, none⟩) h⟩

set_option maxHeartbeats 2000000 in
theorem specJoin_ok (a b c d a' b' c' d' : Int) (w : World) (h1 : vBox a b c d = true) (h2 : vBox a' b' c' d' = true) :
    Calls Try.prog 34 #[box a b c d, box a' b' c' d'] w fun e w' => e = .returned (.tuple #[box (min a a') (min b b') (max c c') (max d d'), .int .i64 0]) ∧ Below w.heap.size w w' := by
  have H1 := Lib.hid h1
  have H2 := Lib.hid h2
  clear h1 h2
  go_enter Try.func34, Try.ntmps34
  go_wp2_with fail
  refine (spec_box a b c d _).mono ?_
  rintro e w1 ⟨rfl, hb1⟩
  rw [H1.out]
  obtain ⟨hc1, hf1⟩ := old hb1
  go_wp2_with fail
  refine (spec_box a' b' c' d' _).mono ?_
  rintro e w2 ⟨rfl, hb2⟩
  rw [H2.out]
  have hb12 := hb1.trans (hb2.mono hb1.size)
  clear hc1 hf1
  obtain ⟨hc2, hf2⟩ := old hb12
  go_wp2_with fail
  refine (join_calls a b c d a' b' c' d' _).mono ?_
  rintro e w3 ⟨rfl, hb3⟩
  have hb13 := hb12.trans (hb3.mono hb12.size)
  clear hc2 hf2
  obtain ⟨hc3, hf3⟩ := old hb13
  have hz3 := hb13.size
  simp at hz3
  have lz : w.heap.size + 1 + 1 < w3.heap.size := by omega
  have HB := Lib.hid ((below_alloc3 w _ _ _).trans (hb13.mono (below_alloc3 w _ _ _).size))
  clear hb1 hb2 hb3 hb12 hb13
  go_wp2
  exact bodyPost_ret (v := .tuple #[box (min a a') (min b b') (max c c') (max d d'), .int .i64 0]) (by simp [results, Try.results34, go_sem, hc3]) rfl
    ⟨rfl, (((HB.out.setCell (by simp; omega) _).setCell (by simp; omega) _).setCell (by simp; omega) _).setCell (by simp; omega) _⟩

set_option maxHeartbeats 2000000 in
theorem specJoin_bad (a b c d a' b' c' d' : Int) (w : World) (h : ¬ (vBox a b c d = true ∧ vBox a' b' c' d' = true)) :
    Calls Try.prog 34 #[box a b c d, box a' b' c' d'] w fun e w' => e = .returned (.tuple #[box 0 0 0 0, .int .i64 1]) ∧ Below w.heap.size w w' := by
  cases h1 : vBox a b c d with
  | false =>
    have H1 := Lib.hid h1
    clear h1 h
    go_enter Try.func34, Try.ntmps34
    go_wp2_with fail
    refine (spec_box a b c d _).mono ?_
    rintro e w1 ⟨rfl, hb1⟩
    rw [H1.out]
    obtain ⟨hc1, hf1⟩ := old hb1
    have hz1 := hb1.size
    simp at hz1
    have lz : w.heap.size + 1 + 1 < w1.heap.size := by omega
    have HB := Lib.hid ((below_alloc3 w _ _ _).trans (hb1.mono (below_alloc3 w _ _ _).size))
    clear hb1
    go_wp2
    exact bodyPost_ret (v := .tuple #[box 0 0 0 0, .int .i64 1]) (by simp [results, Try.results34, go_sem, hc1]) rfl
      ⟨rfl, (((HB.out.setCell (by simp; omega) _).setCell (by simp; omega) _).setCell (by simp; omega) _).setCell (by simp; omega) _⟩
  | true =>
    have h2 : vBox a' b' c' d' = false := by
      cases h2 : vBox a' b' c' d' with
      | false => rfl
      | true => exact absurd ⟨h1, h2⟩ h
    have H1 := Lib.hid h1
    have H2 := Lib.hid h2
    clear h1 h2 h
    go_enter Try.func34, Try.ntmps34
    go_wp2_with fail
    refine (spec_box a b c d _).mono ?_
    rintro e w1 ⟨rfl, hb1⟩
    rw [H1.out]
    obtain ⟨hc1, hf1⟩ := old hb1
    go_wp2_with fail
    refine (spec_box a' b' c' d' _).mono ?_
    rintro e w2 ⟨rfl, hb2⟩
    rw [H2.out]
    have hb12 := hb1.trans (hb2.mono hb1.size)
    clear hc1 hf1
    obtain ⟨hc2, hf2⟩ := old hb12
    have hz2 := hb12.size
    simp at hz2
    have lz : w.heap.size + 1 + 1 < w2.heap.size := by omega
    have HB := Lib.hid ((below_alloc3 w _ _ _).trans (hb12.mono (below_alloc3 w _ _ _).size))
    clear hb1 hb2 hb12
    go_wp2
    exact bodyPost_ret (v := .tuple #[box 0 0 0 0, .int .i64 1]) (by simp [results, Try.results34, go_sem, hc2]) rfl
      ⟨rfl, (((HB.out.setCell (by simp; omega) _).setCell (by simp; omega) _).setCell (by simp; omega) _).setCell (by simp; omega) _⟩

set_option maxHeartbeats 2000000 in
theorem implJoin_ok (a b c d a' b' c' d' : Int) (w : World) (h1 : vBox a b c d = true) (h2 : vBox a' b' c' d' = true) :
    Calls Try.prog 35 #[box a b c d, box a' b' c' d'] w fun e w' => e = .returned (.tuple #[box (min a a') (min b b') (max c c') (max d d'), .int .i64 0]) ∧ Below w.heap.size w w' := by
  have H1 := Lib.hid h1
  have H2 := Lib.hid h2
  clear h1 h2
  go_enter Try.func35, Try.ntmps35
  go_wp2_with fail
  refine (impl_valid a b c d _).mono ?_
  rintro e w1 ⟨rfl, hb1⟩
  rw [H1.out]
  obtain ⟨hc1, hf1⟩ := old hb1
  go_wp2_with fail
  refine (impl_valid a' b' c' d' _).mono ?_
  rintro e w2 ⟨rfl, hb2⟩
  rw [H2.out]
  have hb12 := hb1.trans (hb2.mono hb1.size)
  clear hc1 hf1
  obtain ⟨hc2, hf2⟩ := old hb12
  have hz2 := hb12.size
  simp at hz2
  have hv := H2.out
  unfold vBox at hv
  have hv' := of_decide_eq_true hv
  have E1 := Lib.hid (show gX1 a [(a', b', 0), (c', d', 0)] = min a a' by simp [gX1]; omega)
  have E2 := Lib.hid (show gY1 b [(a', b', 0), (c', d', 0)] = min b b' by simp [gY1]; omega)
  have E3 := Lib.hid (show gX2 c [(a', b', 0), (c', d', 0)] = max c c' by simp [gX2]; omega)
  have E4 := Lib.hid (show gY2 d [(a', b', 0), (c', d', 0)] = max d d' by simp [gY2]; omega)
  clear hv hv'
  go_wp2_with fail
  refine (grown_calls a b c d w2.heap.size 2 2 [(a', b', 0), (c', d', 0)] _ rfl (by omega) (two_pts _ _ _ _ _) (by simp)).mono ?_
  rintro e w3 ⟨rfl, hb3⟩
  rw [E1.out, E2.out, E3.out, E4.out]
  have hb13 := (hb12.alloc hb12.size _).trans (hb3.mono (by simp; omega))
  clear hc2 hf2
  obtain ⟨hc3, hf3⟩ := old hb13
  have hz3 := hb13.size
  simp at hz3
  have lz : w.heap.size + 1 + 1 < w3.heap.size := by omega
  have HB := Lib.hid ((below_alloc3 w _ _ _).trans (hb13.mono (below_alloc3 w _ _ _).size))
  clear hb1 hb2 hb3 hb12 hb13
  go_wp2
  exact bodyPost_ret (v := .tuple #[box (min a a') (min b b') (max c c') (max d d'), .int .i64 0]) (by simp [results, Try.results35, go_sem, hc3]) rfl
    ⟨rfl, (((HB.out.setCell (by simp; omega) _).setCell (by simp; omega) _).setCell (by simp; omega) _).setCell (by simp; omega) _⟩

set_option maxHeartbeats 2000000 in
theorem implJoin_bad (a b c d a' b' c' d' : Int) (w : World) (h : ¬ (vBox a b c d = true ∧ vBox a' b' c' d' = true)) :
    Calls Try.prog 35 #[box a b c d, box a' b' c' d'] w fun e w' => e = .returned (.tuple #[box 0 0 0 0, .int .i64 1]) ∧ Below w.heap.size w w' := by
  cases h1 : vBox a b c d with
  | false =>
    have H1 := Lib.hid h1
    clear h1 h
    go_enter Try.func35, Try.ntmps35
    go_wp2_with fail
    refine (impl_valid a b c d _).mono ?_
    rintro e w1 ⟨rfl, hb1⟩
    rw [H1.out]
    obtain ⟨hc1, hf1⟩ := old hb1
    have hz1 := hb1.size
    simp at hz1
    have lz : w.heap.size + 1 + 1 < w1.heap.size := by omega
    have HB := Lib.hid ((below_alloc3 w _ _ _).trans (hb1.mono (below_alloc3 w _ _ _).size))
    clear hb1
    go_wp2
    exact bodyPost_ret (v := .tuple #[box 0 0 0 0, .int .i64 1]) (by simp [results, Try.results35, go_sem, hc1]) rfl
      ⟨rfl, (((HB.out.setCell (by simp; omega) _).setCell (by simp; omega) _).setCell (by simp; omega) _).setCell (by simp; omega) _⟩
  | true =>
    have h2 : vBox a' b' c' d' = false := by
      cases h2 : vBox a' b' c' d' with
      | false => rfl
      | true => exact absurd ⟨h1, h2⟩ h
    have H1 := Lib.hid h1
    have H2 := Lib.hid h2
    clear h1 h2 h
    go_enter Try.func35, Try.ntmps35
    go_wp2_with fail
    refine (impl_valid a b c d _).mono ?_
    rintro e w1 ⟨rfl, hb1⟩
    rw [H1.out]
    obtain ⟨hc1, hf1⟩ := old hb1
    go_wp2_with fail
    refine (impl_valid a' b' c' d' _).mono ?_
    rintro e w2 ⟨rfl, hb2⟩
    rw [H2.out]
    have hb12 := hb1.trans (hb2.mono hb1.size)
    clear hc1 hf1
    obtain ⟨hc2, hf2⟩ := old hb12
    have hz2 := hb12.size
    simp at hz2
    have lz : w.heap.size + 1 + 1 < w2.heap.size := by omega
    have HB := Lib.hid ((below_alloc3 w _ _ _).trans (hb12.mono (below_alloc3 w _ _ _).size))
    clear hb1 hb2 hb12
    go_wp2
    exact bodyPost_ret (v := .tuple #[box 0 0 0 0, .int .i64 1]) (by simp [results, Try.results35, go_sem, hc2]) rfl
      ⟨rfl, (((HB.out.setCell (by simp; omega) _).setCell (by simp; omega) _).setCell (by simp; omega) _).setCell (by simp; omega) _⟩

end Go.Proofs.Ytklfmlbokedbdaa.join
