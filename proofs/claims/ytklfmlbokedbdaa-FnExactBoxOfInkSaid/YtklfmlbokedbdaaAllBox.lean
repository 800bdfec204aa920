/-
  Proved: the document's function that tells the box of all strokes of ink, by the points of the ink (a contract of a callee of the law on BoxOfInk).
  Conditions: the ink is valid, and its strokes lie in a row of their own.
-/
import Derived.Test.YtklfmlbokedbdaaCount
import Derived.Test.YtklfmlbokedbdaaBoxOk
import Derived.Deep.RegionWith
namespace Go.Proofs.Ytklfmlbokedbdaa.allBox
open Go.ChangeShapes Go.WideShapes Go.ChangeAt Go.RowKit Go.Joins
open Go.Proofs.Ytklfmlbokedbdaa.join Go.Proofs.Ytklfmlbokedbdaa.strokes Go.Proofs.Ytklfmlbokedbdaa.valid Go.Proofs.Ytklfmlbokedbdaa.inks Go.Proofs.Ytklfmlbokedbdaa.inkOk Go.Proofs.Ytklfmlbokedbdaa.boxes
open Go.Proofs.Ytklfmlbokedbdaa.count (vI_len)
open Go.Proofs.Ytklfmlbokedbdaa.boxOf (l02BoxOf_calls boxAt_calls head0 old)
set_option linter.unusedVariables false

/-- The box so far at block K, the result's cells at block R. -/
structure BoxAt (w : World) (R K : Nat) (a b c d : Int) (w' : World) : Prop where
  below : Below w.heap.size w w'
  r0 : w.heap.size ≤ R
  rk : R < K
  kz : K < w'.heap.size
  blk : w'.heap[K]? = some (.cells #[.int .i64 a, .int .i64 b, .int .i64 c, .int .i64 d] 48 (0, 0))
  res : w'.heap[R]? = some (.cells #[.int .i64 0, .int .i64 0, .int .i64 0, .int .i64 0] 48 (0, 0))
section
variable {w : World} {R K : Nat} {a b c d : Int} {w' w2 : World}
theorem BoxAt.cell (h : BoxAt w R K a b c d w') (i : Nat) : w'.cell? ⟨K, i, none⟩ = (#[.int .i64 a, .int .i64 b, .int .i64 c, .int .i64 d] : Array Value)[i]? := cell_of_block h.blk i
theorem BoxAt.fr (h : BoxAt w R K a b c d w') (i : Nat) : w'.frozen? ⟨K, i, none⟩ = false := unfrozen_of_block h.blk i
theorem BoxAt.cell' (h : BoxAt w R K a b c d w') (i : Nat) : w'.cell? ⟨R, i, none⟩ = (#[.int .i64 0, .int .i64 0, .int .i64 0, .int .i64 0] : Array Value)[i]? := cell_of_block h.res i
theorem BoxAt.fr' (h : BoxAt w R K a b c d w') (i : Nat) : w'.frozen? ⟨R, i, none⟩ = false := unfrozen_of_block h.res i
theorem BoxAt.kept (h : BoxAt w R K a b c d w') (hb : Below w'.heap.size w' w2) : BoxAt w R K a b c d w2 := by
  have := h.kz
  have := h.rk
  have := hb.size
  exact ⟨h.below.trans (hb.mono h.below.size), h.r0, h.rk, by omega, (hb.block _ (by omega)).trans h.blk, (hb.block _ (by omega)).trans h.res⟩
theorem BoxAt.drew (h : BoxAt w R K a b c d w') : BoxAt w R K a b c d w'.drew := ⟨h.below.drew, h.r0, h.rk, h.kz, h.blk, h.res⟩
theorem BoxAt.start (h1 : Below w.heap.size w w') (hR : w.heap.size ≤ R) (hRz : R < w'.heap.size) (hr : w'.heap[R]? = some (.cells #[.int .i64 0, .int .i64 0, .int .i64 0, .int .i64 0] 48 (0, 0))) :
    BoxAt w R w'.heap.size a b c d (w'.alloc (.cells #[.int .i64 a, .int .i64 b, .int .i64 c, .int .i64 d] 48)) :=
  ⟨h1.alloc h1.size _, hR, hRz, by simp, heap_alloc_new _ _, by rw [Below.heap_alloc _ _ _ (by omega)]; exact hr⟩
theorem BoxAt.step (h : BoxAt w R K a b c d w') (x1 y1 x2 y2 : Int) :
    BoxAt w R K x1 y1 x2 y2 ((((w'.setCell ⟨K, 0, none⟩ (.int .i64 x1)).setCell ⟨K, 1, none⟩ (.int .i64 y1)).setCell ⟨K, 2, none⟩ (.int .i64 x2)).setCell ⟨K, 3, none⟩ (.int .i64 y2)) := by
  obtain ⟨hb, h0, hk, hz, h, hr⟩ := h
  have s1 := block_setCell (i := 0) h (.int .i64 x1)
  have s2 := block_setCell (i := 1) s1 (.int .i64 y1)
  have s3 := block_setCell (i := 2) s2 (.int .i64 x2)
  have s4 := block_setCell (i := 3) s3 (.int .i64 y2)
  have hle : w.heap.size ≤ K := by omega
  refine ⟨(((hb.setCell hle _).setCell hle _).setCell hle _).setCell hle _, h0, hk, by simpa [World.setCell] using hz, ?_, ?_⟩
  · rw [s4]; rfl
  · rw [Below.heap_setCell _ _ _ _ (by simp; omega), Below.heap_setCell _ _ _ _ (by simp; omega), Below.heap_setCell _ _ _ _ (by simp; omega), Below.heap_setCell _ _ _ _ (by simp; omega), hr]
theorem BoxAt.cast {a' b' c' d' : Int} (h : BoxAt w R K a b c d w') (e0 : a' = a) (e1 : b' = b) (e2 : c' = c) (e3 : d' = d) : BoxAt w R K a' b' c' d' w' := by
  subst e0 e1 e2 e3; exact h
end

theorem fold_min (f : P3 → Int) (pts : List P3) : ∀ a b : Int, pts.foldl (fun m p => min m (f p)) (min a b) = min a (pts.foldl (fun m p => min m (f p)) b) := by
  induction pts with
  | nil => intro a b; rfl
  | cons p ps ih => intro a b; simp only [List.foldl_cons]; rw [Int.min_assoc, ih]
theorem fold_max (f : P3 → Int) (pts : List P3) : ∀ a b : Int, pts.foldl (fun m p => max m (f p)) (max a b) = max a (pts.foldl (fun m p => max m (f p)) b) := by
  induction pts with
  | nil => intro a b; rfl
  | cons p ps ih => intro a b; simp only [List.foldl_cons]; rw [Int.max_assoc, ih]
theorem one_min (f : P3 → Int) (pts : List P3) (p : P3) (a : Int) (h : pts[0]? = some p) : min a (pts.foldl (fun m p => min m (f p)) (f p)) = pts.foldl (fun m p => min m (f p)) a := by
  match pts, h with
  | q :: qs, h =>
    simp at h
    subst h
    simp only [List.foldl_cons, Int.min_self]
    rw [fold_min]
theorem one_max (f : P3 → Int) (pts : List P3) (p : P3) (a : Int) (h : pts[0]? = some p) : max a (pts.foldl (fun m p => max m (f p)) (f p)) = pts.foldl (fun m p => max m (f p)) a := by
  match pts, h with
  | q :: qs, h =>
    simp at h
    subst h
    simp only [List.foldl_cons, Int.max_self]
    rw [fold_max]
theorem flat_succ {ink : List (List P3)} {k : Nat} {pts : List P3} (h : ink[k]? = some pts) : (ink.take (k + 1)).flatten = (ink.take k).flatten ++ pts := by
  rw [List.take_add_one, h]
  simp
theorem flat_one {ink : List (List P3)} {pts : List P3} (h : ink[0]? = some pts) : (ink.take 1).flatten = pts := by
  have := flat_succ h
  simpa using this

set_option maxRecDepth 100000 in
set_option maxHeartbeats 4000000 in
theorem l02All_calls {o C : Nat} (b G n : Nat) (ink : List (List P3)) (pt0 : List P3) (p : P3) (w : World) (hn : ink.length = n) (h16 : n ≤ 16) (hlen : ∀ (k : Nat) (pts : List P3), ink[k]? = some pts → 1 ≤ pts.length ∧ pts.length ≤ 60) (hg : G < w.heap.size) (hbz : b < w.heap.size) (hs : w.cell? ⟨b, o, none⟩ = some (.slice (some ⟨G, 0, none⟩) n C)) (hp : RowsFrom 0 w G ink)
    (h0 : ink[0]? = some pt0) (h00 : pt0[0]? = some p) :
    Calls Try.prog 64 #[.pointer (some ⟨b, o, none⟩)] w fun e w' => e = .returned (box (gX1 p.1 ink.flatten) (gY1 p.2.1 ink.flatten) (gX2 p.1 ink.flatten) (gY2 p.2.1 ink.flatten)) ∧ Below w.heap.size w w' := by
  have HN := Lib.hid hn
  have HP := Lib.hid hp
  have HL := Lib.hid hlen
  have HS := Lib.hid hs
  have H0 := Lib.hid h0
  have H00 := Lib.hid h00
  have hn1 : 1 ≤ n := by have := (List.getElem?_eq_some_iff.1 h0).1; omega
  have hn0 : 0 < n := hn1
  have hn1' : (0 : Int) < (n : Int) := by omega
  clear hn hp hlen h0 h00
  obtain ⟨g0, c0, -, hg0, p0, hpt0⟩ := HP.out 0 pt0 H0.out
  have hl0 := HL.out 0 pt0 H0.out
  go_enter Try.func64, Try.ntmps64
  go_wp2_with fail
  refine (l02BoxOf_calls (c := c0) (o := 0) G g0 pt0.length pt0 p _ rfl (by omega) (by simp; omega) (by simp; omega) ((World.cell?_alloc_lt _ _ _ hg).trans p0) (hpt0.below (below_alloc1 _ _) hg0) H00.out).mono ?_
  rintro e w1 ⟨rfl, hb1⟩
  have HB1 := Lib.hid hb1
  clear hb1 p0 hpt0 hs
  go_wp2
  go_loopw [4] (fun i w' => ∃ k : Nat, 1 ≤ k ∧ k ≤ n ∧ i = .int .i64 k ∧ Hid (BoxAt w w.heap.size w1.heap.size (gX1 p.1 (ink.take k).flatten) (gY1 p.2.1 (ink.take k).flatten) (gX2 p.1 (ink.take k).flatten) (gY2 p.2.1 (ink.take k).flatten) w')) (fun i _ => n - (intOf i).toNat)
  case atStart =>
    have hz : w.heap.size < w1.heap.size := by have := HB1.out.size; simp at this; omega
    refine ⟨1, Nat.le_refl _, hn1, rfl, Lib.hid (BoxAt.cast (BoxAt.start ((below_alloc1 w _).trans (HB1.out.mono (below_alloc1 w _).size)) (Nat.le_refl _) hz ((HB1.out.block _ (by simp)).trans (heap_alloc_new _ _))) ?_ ?_ ?_ ?_)⟩
    all_goals rw [flat_one H0.out]
  case round =>
    obtain ⟨k, hk1, hk, rfl, HG⟩ := hrel
    have hs := (HG.out.below.cell hbz).trans HS.out
    by_cases hlt : k < n
    · have hkl : k < ink.length := by rw [HN.out]; exact hlt
      have hkp := List.getElem?_eq_getElem hkl
      obtain ⟨g, c, -, hgl, p0, hpt⟩ := HP.out k ink[k] hkp
      have hl := HL.out k ink[k] hkp
      generalize ink[k] = pts at hkp p0 hpt hl
      have HK := Lib.hid hkp
      clear hkp
      obtain ⟨q, hq⟩ := head0 hl.1
      have HQ := Lib.hid hq
      clear hq
      generalize ea : gX1 p.1 (ink.take k).flatten = a0 at *
      generalize eb : gY1 p.2.1 (ink.take k).flatten = b0 at *
      generalize ec : gX2 p.1 (ink.take k).flatten = c0 at *
      generalize ed : gY2 p.2.1 (ink.take k).flatten = d0 at *
      have EA := Lib.hid ea
      have EB := Lib.hid eb
      have EC := Lib.hid ec
      have ED := Lib.hid ed
      clear ea eb ec ed
      have hG : G < wr.heap.size := Nat.lt_of_lt_of_le hg HG.out.below.size
      have hbz' : b < wr.heap.size := Nat.lt_of_lt_of_le hbz HG.out.below.size
      have hgz : g < wr.heap.size := Nat.lt_of_lt_of_le hgl HG.out.below.size
      have HPT := Lib.hid (hpt.below HG.out.below hgl)
      have HR := Lib.hid ((HG.out.below.cell (p := ⟨G, k, none⟩) hg).trans p0)
      have g0 : wr.cell? ⟨w1.heap.size, 0, none⟩ = some (.int .i64 a0) := HG.out.cell 0
      have g1 : wr.cell? ⟨w1.heap.size, 1, none⟩ = some (.int .i64 b0) := HG.out.cell 1
      have g2 : wr.cell? ⟨w1.heap.size, 2, none⟩ = some (.int .i64 c0) := HG.out.cell 2
      have g3 : wr.cell? ⟨w1.heap.size, 3, none⟩ = some (.int .i64 d0) := HG.out.cell 3
      have lz : w1.heap.size < wr.heap.size := HG.out.kz
      have hli : (k : Int) < (n : Int) := by omega
      have hl1 : pts.length ≤ 1048576 := by omega
      clear p0 hpt hl
      go_wp2
      have HG0 := Lib.hid HG.out
      clear HG
      go_region_with (first | (go_at_call 61; refine (l02BoxOf_calls (c := c) (o := k) G g pts.length pts q _ rfl hl1 (by exact hgz) (by exact hG) (by exact HR.out) (by exact HPT.out) HQ.out).mono ?_; rintro e w2 ⟨rfl, hb2⟩; have HG2 := Lib.hid (HG0.out.drew.kept hb2); have k0 : w2.cell? ⟨w1.heap.size, 0, none⟩ = some (.int .i64 a0) := HG2.out.cell 0; have k1 : w2.cell? ⟨w1.heap.size, 1, none⟩ = some (.int .i64 b0) := HG2.out.cell 1; have k2 : w2.cell? ⟨w1.heap.size, 2, none⟩ = some (.int .i64 c0) := HG2.out.cell 2; have k3 : w2.cell? ⟨w1.heap.size, 3, none⟩ = some (.int .i64 d0) := HG2.out.cell 3; clear hb2) | (go_at_call 65; refine (join_calls a0 b0 c0 d0 _ _ _ _ _).mono ?_; rintro e w3 ⟨rfl, hb3⟩; have HG3 := Lib.hid (HG2.out.kept hb3); have j0 : w3.cell? ⟨w1.heap.size, 0, none⟩ = some (.int .i64 a0) := HG3.out.cell 0; have j1 : w3.cell? ⟨w1.heap.size, 1, none⟩ = some (.int .i64 b0) := HG3.out.cell 1; have j2 : w3.cell? ⟨w1.heap.size, 2, none⟩ = some (.int .i64 c0) := HG3.out.cell 2; have j3 : w3.cell? ⟨w1.heap.size, 3, none⟩ = some (.int .i64 d0) := HG3.out.cell 3; have jf := HG3.out.fr; have jz := HG3.out.kz; clear hb3))
      all_goals
        go_wp2
        go_roundw
        case rel =>
          refine ⟨k + 1, by omega, by omega, by go_num, Lib.hid (BoxAt.cast (HG3.out.step _ _ _ _) ?_ ?_ ?_ ?_)⟩
          · rw [flat_succ HK.out]; unfold gX1; rw [List.foldl_append, one_min (fun p => p.1) pts q _ HQ.out]; show _ = List.foldl _ a0 pts; rw [← EA.out]; rfl
          · rw [flat_succ HK.out]; unfold gY1; rw [List.foldl_append, one_min (fun p => p.2.1) pts q _ HQ.out]; show _ = List.foldl _ b0 pts; rw [← EB.out]; rfl
          · rw [flat_succ HK.out]; unfold gX2; rw [List.foldl_append, one_max (fun p => p.1) pts q _ HQ.out]; show _ = List.foldl _ c0 pts; rw [← EC.out]; rfl
          · rw [flat_succ HK.out]; unfold gY2; rw [List.foldl_append, one_max (fun p => p.2.1) pts q _ HQ.out]; show _ = List.foldl _ d0 pts; rw [← ED.out]; rfl
        case measure => simp [intOf]; omega
    · have HT : Hid (ink.take k = ink) := Lib.hid (List.take_of_length_le (by rw [HN.out]; omega))
      rw [HT.out] at HG
      generalize ea : gX1 p.1 ink.flatten = a0 at HG
      generalize eb : gY1 p.2.1 ink.flatten = b0 at HG
      generalize ec : gX2 p.1 ink.flatten = c0 at HG
      generalize ed : gY2 p.2.1 ink.flatten = d0 at HG
      have EA := Lib.hid ea
      have EB := Lib.hid eb
      have EC := Lib.hid ec
      have ED := Lib.hid ed
      clear ea eb ec ed
      have g0 : wr.cell? ⟨w1.heap.size, 0, none⟩ = some (.int .i64 a0) := HG.out.cell 0
      have g1 : wr.cell? ⟨w1.heap.size, 1, none⟩ = some (.int .i64 b0) := HG.out.cell 1
      have g2 : wr.cell? ⟨w1.heap.size, 2, none⟩ = some (.int .i64 c0) := HG.out.cell 2
      have g3 : wr.cell? ⟨w1.heap.size, 3, none⟩ = some (.int .i64 d0) := HG.out.cell 3
      have r0 : wr.cell? ⟨w.heap.size, 0, none⟩ = some (.int .i64 0) := HG.out.cell' 0
      have r1 : wr.cell? ⟨w.heap.size, 1, none⟩ = some (.int .i64 0) := HG.out.cell' 1
      have r2 : wr.cell? ⟨w.heap.size, 2, none⟩ = some (.int .i64 0) := HG.out.cell' 2
      have r3 : wr.cell? ⟨w.heap.size, 3, none⟩ = some (.int .i64 0) := HG.out.cell' 3
      have hfr := HG.out.fr'
      have lz : w1.heap.size < wr.heap.size := HG.out.kz
      have lz1 : w.heap.size < wr.heap.size := by have := HG.out.rk; omega
      go_wp2
      exact bodyPost_ret (v := box a0 b0 c0 d0) (by simp [results, Try.results64, go_sem, r0, r1, r2, r3]) rfl ⟨by rw [EA.out, EB.out, EC.out, ED.out], (((HG.out.below.setCell (by simp) _).setCell (by simp) _).setCell (by simp) _).setCell (by simp) _⟩
end Go.Proofs.Ytklfmlbokedbdaa.allBox
