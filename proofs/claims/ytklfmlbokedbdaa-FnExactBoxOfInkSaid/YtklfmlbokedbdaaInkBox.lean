/-
  Proved: both functions that tell the box of ink answer as the document's definition (contracts of the callees of the law on BoxOfInk).
  Conditions: the ink's strokes lie in a row of their own.
-/
import Derived.Test.YtklfmlbokedbdaaAllBox
namespace Go.Proofs.Ytklfmlbokedbdaa.inkBox
open Go.ChangeShapes Go.WideShapes Go.ChangeAt Go.RowKit Go.Joins
open Go.Proofs.Ytklfmlbokedbdaa.join Go.Proofs.Ytklfmlbokedbdaa.strokes Go.Proofs.Ytklfmlbokedbdaa.valid Go.Proofs.Ytklfmlbokedbdaa.inks Go.Proofs.Ytklfmlbokedbdaa.inkOk Go.Proofs.Ytklfmlbokedbdaa.boxes Go.Proofs.Ytklfmlbokedbdaa.allBox
open Go.Proofs.Ytklfmlbokedbdaa.count (vI_len)
open Go.Proofs.Ytklfmlbokedbdaa.boxOf (boxAt_calls head0)
set_option linter.unusedVariables false

abbrev inkV (G n : Nat) : Value := .agg #[.slice (some ⟨G, 0, none⟩) n n]

set_option maxHeartbeats 2000000 in
theorem specInk_bad (G n : Nat) (ink : List (List P3)) (w : World) (hn : ink.length = n) (hcap : n ≤ 1048576) (hsm : ∀ pts ∈ ink, pts.length ≤ 1048576) (hg : G < w.heap.size) (hp : RowsFrom 0 w G ink) (hv : vI ink = false) :
    Calls Try.prog 32 #[inkV G n] w fun e w' => e = .returned (.tuple #[box 0 0 0 0, .int .i64 1]) ∧ Below w.heap.size w w' := by
  have HN := Lib.hid hn
  have HP := Lib.hid (hp.below (below_alloc2 w (.cells #[.slice (some ⟨G, 0, none⟩) n n] 40) (.cells #[.int .i64 0, .int .i64 0, .int .i64 0, .int .i64 0] 48)) hg)
  have HV := Lib.hid hv
  have HM := Lib.hid hsm
  clear hn hp hv hsm
  go_enter Try.func32, Try.ntmps32
  go_wp2_with fail
  refine (l02Ok_calls (C := n) (o := 0) w.heap.size G n ink _ HN.out hcap HM.out (by simp; omega) (by simp; omega) (by simp) HP.out).mono ?_
  rintro e w1 ⟨rfl, hb1⟩
  rw [HV.out]
  obtain ⟨hc1, hf1⟩ := old hb1
  have hz1 := hb1.size
  simp at hz1
  have lz : w.heap.size + 1 < w1.heap.size := by omega
  have HB := Lib.hid ((below_alloc2 w _ _).trans (hb1.mono (below_alloc2 w _ _).size))
  clear hb1
  go_wp2
  exact bodyPost_ret (v := .tuple #[box 0 0 0 0, .int .i64 1]) (by simp [results, Try.results32, go_sem, hc1]) rfl
    ⟨rfl, (((HB.out.setCell (by simp) _).setCell (by simp) _).setCell (by simp) _).setCell (by simp) _⟩

set_option maxHeartbeats 2000000 in
theorem specInk_none (G : Nat) (ink : List (List P3)) (w : World) (hn : ink.length = 0) (hsm : ∀ pts ∈ ink, pts.length ≤ 1048576) (hg : G < w.heap.size) (hp : RowsFrom 0 w G ink) (hv : vI ink = true) :
    Calls Try.prog 32 #[inkV G 0] w fun e w' => e = .returned (.tuple #[box 0 0 0 0, .int .i64 6]) ∧ Below w.heap.size w w' := by
  have HN := Lib.hid hn
  have HP := Lib.hid (hp.below (below_alloc2 w (.cells #[.slice (some ⟨G, 0, none⟩) 0 0] 40) (.cells #[.int .i64 0, .int .i64 0, .int .i64 0, .int .i64 0] 48)) hg)
  have HV := Lib.hid hv
  have HM := Lib.hid hsm
  clear hn hp hv hsm
  go_enter Try.func32, Try.ntmps32
  go_wp2_with fail
  refine (l02Ok_calls (C := 0) (o := 0) w.heap.size G 0 ink _ HN.out (by omega) HM.out (by simp; omega) (by simp; omega) (by simp) HP.out).mono ?_
  rintro e w1 ⟨rfl, hb1⟩
  rw [HV.out]
  obtain ⟨hc1, hf1⟩ := old hb1
  have hz1 := hb1.size
  simp at hz1
  have lz0 : w.heap.size < w1.heap.size := by omega
  have lz : w.heap.size + 1 < w1.heap.size := by omega
  have HB := Lib.hid ((below_alloc2 w _ _).trans (hb1.mono (below_alloc2 w _ _).size))
  clear hb1
  go_wp2
  exact bodyPost_ret (v := .tuple #[box 0 0 0 0, .int .i64 6]) (by simp [results, Try.results32, go_sem, hc1]) rfl
    ⟨rfl, (((HB.out.setCell (by simp) _).setCell (by simp) _).setCell (by simp) _).setCell (by simp) _⟩

set_option maxHeartbeats 2000000 in
theorem specInk_ok (G n : Nat) (ink : List (List P3)) (pt0 : List P3) (p : P3) (x1 x2 x3 x4 : Int) (w : World) (hn : ink.length = n) (h16 : n ≤ 16) (hn0 : 0 < n) (hsm : ∀ pts ∈ ink, pts.length ≤ 1048576) (hlen : ∀ (k : Nat) (pts : List P3), ink[k]? = some pts → 1 ≤ pts.length ∧ pts.length ≤ 60) (hg : G < w.heap.size) (hp : RowsFrom 0 w G ink) (hv : vI ink = true)
    (h0 : ink[0]? = some pt0) (h00 : pt0[0]? = some p)
    (e1 : gX1 p.1 ink.flatten = x1) (e2 : gY1 p.2.1 ink.flatten = x2) (e3 : gX2 p.1 ink.flatten = x3) (e4 : gY2 p.2.1 ink.flatten = x4) :
    Calls Try.prog 32 #[inkV G n] w fun e w' => e = .returned (.tuple #[box x1 x2 x3 x4, .int .i64 0]) ∧ Below w.heap.size w w' := by
  have HN := Lib.hid hn
  have HP := Lib.hid (hp.below (below_alloc2 w (.cells #[.slice (some ⟨G, 0, none⟩) n n] 40) (.cells #[.int .i64 0, .int .i64 0, .int .i64 0, .int .i64 0] 48)) hg)
  have HV := Lib.hid hv
  have HM := Lib.hid hsm
  have HL := Lib.hid hlen
  have H0 := Lib.hid h0
  have H00 := Lib.hid h00
  have HE := Lib.hid (And.intro e1 (And.intro e2 (And.intro e3 e4)))
  clear hn hp hv hsm hlen h0 h00 e1 e2 e3 e4
  have hn' : ¬ ((n : Int) = 0) := by omega
  have hn2 : ¬ n = 0 := by omega
  go_enter Try.func32, Try.ntmps32
  go_wp2_with fail
  refine (l02Ok_calls (C := n) (o := 0) w.heap.size G n ink _ HN.out (by omega) HM.out (by simp; omega) (by simp; omega) (by simp) HP.out).mono ?_
  rintro e w1 ⟨rfl, hb1⟩
  rw [HV.out]
  obtain ⟨hc1, hf1⟩ := old hb1
  have hz1 := hb1.size
  simp at hz1
  have lz0 : w.heap.size < w1.heap.size := by omega
  go_wp2_with fail
  refine (l02All_calls (C := n) (o := 0) w.heap.size G n ink pt0 p _ HN.out h16 HL.out (by omega) (by omega) ((hc1 _ _ (by simp; omega)).trans (by simp)) (HP.out.below hb1 (by simp; omega)) H0.out H00.out).mono ?_
  rintro e w2 ⟨rfl, hb2⟩
  rw [HE.out.1, HE.out.2.1, HE.out.2.2.1, HE.out.2.2.2]
  have hb12 := hb1.trans (hb2.mono hb1.size)
  clear hc1 hf1
  obtain ⟨hc2, hf2⟩ := old hb12
  have hz2 := hb12.size
  simp at hz2
  have lz : w.heap.size + 1 < w2.heap.size := by omega
  have HB := Lib.hid ((below_alloc2 w _ _).trans (hb12.mono (below_alloc2 w _ _).size))
  clear hb1 hb2 hb12
  go_wp2
  exact bodyPost_ret (v := .tuple #[box x1 x2 x3 x4, .int .i64 0]) (by simp [results, Try.results32, go_sem, hc2]) rfl
    ⟨rfl, (((HB.out.setCell (by simp) _).setCell (by simp) _).setCell (by simp) _).setCell (by simp) _⟩

set_option maxHeartbeats 2000000 in
theorem implInk_bad (G n : Nat) (ink : List (List P3)) (w : World) (hn : ink.length = n) (hcap : n ≤ 1048576) (hsm : ∀ pts ∈ ink, pts.length ≤ 1048576) (hg : G < w.heap.size) (hp : RowsFrom 0 w G ink) (hv : vI ink = false) :
    Calls Try.prog 33 #[inkV G n] w fun e w' => e = .returned (.tuple #[box 0 0 0 0, .int .i64 1]) ∧ Below w.heap.size w w' := by
  have HN := Lib.hid hn
  have HP := Lib.hid (hp.below (below_alloc2 w (.cells #[.slice (some ⟨G, 0, none⟩) n n] 40) (.cells #[.int .i64 0, .int .i64 0, .int .i64 0, .int .i64 0] 48)) hg)
  have HV := Lib.hid hv
  have HM := Lib.hid hsm
  clear hn hp hv hsm
  go_enter Try.func33, Try.ntmps33
  go_wp2_with fail
  refine (implValidInk_calls G n ink _ HN.out hcap HM.out (by simp; omega) HP.out).mono ?_
  rintro e w1 ⟨rfl, hb1⟩
  rw [HV.out]
  obtain ⟨hc1, hf1⟩ := old hb1
  have hz1 := hb1.size
  simp at hz1
  have lz : w.heap.size + 1 < w1.heap.size := by omega
  have HB := Lib.hid ((below_alloc2 w _ _).trans (hb1.mono (below_alloc2 w _ _).size))
  clear hb1
  go_wp2
  exact bodyPost_ret (v := .tuple #[box 0 0 0 0, .int .i64 1]) (by simp [results, Try.results33, go_sem, hc1]) rfl
    ⟨rfl, (((HB.out.setCell (by simp) _).setCell (by simp) _).setCell (by simp) _).setCell (by simp) _⟩

set_option maxHeartbeats 2000000 in
theorem implInk_none (G : Nat) (ink : List (List P3)) (w : World) (hn : ink.length = 0) (hsm : ∀ pts ∈ ink, pts.length ≤ 1048576) (hg : G < w.heap.size) (hp : RowsFrom 0 w G ink) (hv : vI ink = true) :
    Calls Try.prog 33 #[inkV G 0] w fun e w' => e = .returned (.tuple #[box 0 0 0 0, .int .i64 6]) ∧ Below w.heap.size w w' := by
  have HN := Lib.hid hn
  have HP := Lib.hid (hp.below (below_alloc2 w (.cells #[.slice (some ⟨G, 0, none⟩) 0 0] 40) (.cells #[.int .i64 0, .int .i64 0, .int .i64 0, .int .i64 0] 48)) hg)
  have HV := Lib.hid hv
  have HM := Lib.hid hsm
  clear hn hp hv hsm
  go_enter Try.func33, Try.ntmps33
  go_wp2_with fail
  refine (implValidInk_calls G 0 ink _ HN.out (by omega) HM.out (by simp; omega) HP.out).mono ?_
  rintro e w1 ⟨rfl, hb1⟩
  rw [HV.out]
  obtain ⟨hc1, hf1⟩ := old hb1
  have hz1 := hb1.size
  simp at hz1
  have lz0 : w.heap.size < w1.heap.size := by omega
  have lz : w.heap.size + 1 < w1.heap.size := by omega
  have HB := Lib.hid ((below_alloc2 w _ _).trans (hb1.mono (below_alloc2 w _ _).size))
  clear hb1
  go_wp2
  exact bodyPost_ret (v := .tuple #[box 0 0 0 0, .int .i64 6]) (by simp [results, Try.results33, go_sem, hc1]) rfl
    ⟨rfl, (((HB.out.setCell (by simp) _).setCell (by simp) _).setCell (by simp) _).setCell (by simp) _⟩

set_option maxRecDepth 100000 in
set_option maxHeartbeats 4000000 in
theorem implInk_ok (G n : Nat) (ink : List (List P3)) (pt0 : List P3) (p : P3) (x1 x2 x3 x4 : Int) (w : World) (hn : ink.length = n) (h16 : n ≤ 16) (hn0 : 0 < n) (hsm : ∀ pts ∈ ink, pts.length ≤ 1048576) (hlen : ∀ (k : Nat) (pts : List P3), ink[k]? = some pts → 1 ≤ pts.length ∧ pts.length ≤ 60) (hg : G < w.heap.size) (hp : RowsFrom 0 w G ink) (hv : vI ink = true)
    (h0 : ink[0]? = some pt0) (h00 : pt0[0]? = some p)
    (e1 : gX1 p.1 ink.flatten = x1) (e2 : gY1 p.2.1 ink.flatten = x2) (e3 : gX2 p.1 ink.flatten = x3) (e4 : gY2 p.2.1 ink.flatten = x4) :
    Calls Try.prog 33 #[inkV G n] w fun e w' => e = .returned (.tuple #[box x1 x2 x3 x4, .int .i64 0]) ∧ Below w.heap.size w w' := by
  have HN := Lib.hid hn
  have HP := Lib.hid (hp.below (below_alloc2 w (.cells #[.slice (some ⟨G, 0, none⟩) n n] 40) (.cells #[.int .i64 0, .int .i64 0, .int .i64 0, .int .i64 0] 48)) hg)
  have HV := Lib.hid hv
  have HM := Lib.hid hsm
  have HL := Lib.hid hlen
  have H0 := Lib.hid h0
  have H00 := Lib.hid h00
  have HE := Lib.hid (And.intro e1 (And.intro e2 (And.intro e3 e4)))
  clear hn hp hv hsm hlen h0 h00 e1 e2 e3 e4
  have hn' : ¬ ((n : Int) = 0) := by omega
  have hn2 : ¬ n = 0 := by omega
  have hn3 : (0 : Int) < (n : Int) := by omega
  go_enter Try.func33, Try.ntmps33
  go_wp2_with fail
  refine (implValidInk_calls G n ink _ HN.out (by omega) HM.out (by simp; omega) HP.out).mono ?_
  rintro e w1 ⟨rfl, hb1⟩
  rw [HV.out]
  have hz1 := hb1.size
  simp at hz1
  have lz0 : w.heap.size < w1.heap.size := by omega
  have lz : w.heap.size + 1 < w1.heap.size := by omega
  have hi1 := (hb1.cell (p := ⟨w.heap.size, 0, none⟩) (by simp; omega)).trans (show _ = some (Value.slice (some ⟨G, 0, none⟩) n n) by simp)
  have HR := Lib.hid (show w1.heap[w.heap.size + 1]? = some (.cells #[.int .i64 0, .int .i64 0, .int .i64 0, .int .i64 0] 48 (0, 0)) from (hb1.block _ (by simp)).trans (by
    have h := heap_alloc_new (w.alloc (.cells #[.slice (some ⟨G, 0, none⟩) n n] 40)) (.cells #[.int .i64 0, .int .i64 0, .int .i64 0, .int .i64 0] 48)
    have e : (w.alloc (.cells #[.slice (some ⟨G, 0, none⟩) n n] 40)).heap.size = w.heap.size + 1 := by simp
    rw [e] at h
    exact h))
  have HP1 := Lib.hid (HP.out.below hb1 (by simp; omega))
  have hG1 : G < w1.heap.size := by omega
  have HB := Lib.hid ((below_alloc2 w _ _).trans (hb1.mono (below_alloc2 w _ _).size))
  clear hb1 HP
  obtain ⟨g0, c0, -, hg0, r0, hpt0⟩ := HP1.out 0 pt0 H0.out
  have hl0 := (HL.out 0 pt0 H0.out).1
  have hl0' : 0 < pt0.length := hl0
  have hl1 : (0 : Int) < (pt0.length : Int) := by omega
  obtain ⟨q0, q1, q2⟩ := hpt0 0 p H00.out
  simp only [Nat.zero_mul, Nat.zero_add] at q0 q1 q2
  clear hpt0
  go_wp2_with fail
  refine (boxAt_calls _ _ _ _).mono ?_
  rintro e w2 ⟨rfl, hb2⟩
  have hz2 := hb2.size
  have HP2 := Lib.hid (HP1.out.below hb2 hG1)
  have HR2 := Lib.hid ((hb2.block _ lz).trans HR.out)
  have hi2 := (hb2.cell (p := ⟨w.heap.size, 0, none⟩) lz0).trans hi1
  have HB2 := Lib.hid (HB.out.trans (hb2.mono HB.out.size))
  have hG2 : G < w2.heap.size := by omega
  have lz2 : w.heap.size < w2.heap.size := by omega
  clear hb2 q0 q1 q2 r0 HP1 HR HB hi1
  go_wp2
  go_loopw [27] (fun i w' => ∃ k : Nat, k ≤ n ∧ i = .int .i64 k ∧ Hid (Below w2.heap.size w2 w') ∧ Hid (BoxAt w (w.heap.size + 1) w2.heap.size (gX1 p.1 (ink.take k).flatten) (gY1 p.2.1 (ink.take k).flatten) (gX2 p.1 (ink.take k).flatten) (gY2 p.2.1 (ink.take k).flatten) w')) (fun i _ => n - (intOf i).toNat)
  case atStart =>
    exact ⟨0, Nat.zero_le _, rfl, Lib.hid (below_alloc1 _ _), Lib.hid (BoxAt.start HB2.out (by omega) (by omega) HR2.out)⟩
  case round =>
    obtain ⟨k, hk, rfl, HW, HG⟩ := hrel
    by_cases hlt : k < n
    · have hkl : k < ink.length := by rw [HN.out]; exact hlt
      have hkp := List.getElem?_eq_getElem hkl
      obtain ⟨g, c, -, hgl, p0, hpt⟩ := HP2.out k ink[k] hkp
      have hl := HL.out k ink[k] hkp
      generalize ink[k] = pts at hkp p0 hpt hl
      have HK := Lib.hid hkp
      clear hkp
      generalize ea : gX1 p.1 (ink.take k).flatten = a0 at *
      generalize eb : gY1 p.2.1 (ink.take k).flatten = b0 at *
      generalize ec : gX2 p.1 (ink.take k).flatten = c0 at *
      generalize ed : gY2 p.2.1 (ink.take k).flatten = d0 at *
      have EA := Lib.hid ea
      have EB := Lib.hid eb
      have EC := Lib.hid ec
      have ED := Lib.hid ed
      clear ea eb ec ed
      have hgz : g < wr.heap.size := Nat.lt_of_lt_of_le hgl HW.out.size
      have HPT := Lib.hid (hpt.below HW.out hgl)
      have hr := (HW.out.cell (p := ⟨G, k, none⟩) hG2).trans p0
      have g0 : wr.cell? ⟨w2.heap.size, 0, none⟩ = some (.int .i64 a0) := HG.out.cell 0
      have g1 : wr.cell? ⟨w2.heap.size, 1, none⟩ = some (.int .i64 b0) := HG.out.cell 1
      have g2 : wr.cell? ⟨w2.heap.size, 2, none⟩ = some (.int .i64 c0) := HG.out.cell 2
      have g3 : wr.cell? ⟨w2.heap.size, 3, none⟩ = some (.int .i64 d0) := HG.out.cell 3
      have lzr : w2.heap.size < wr.heap.size := HG.out.kz
      have hli : (k : Int) < (n : Int) := by omega
      have hl1 : pts.length ≤ 9000000000000000000 := by omega
      clear p0 hpt hl
      go_wp2_with fail
      refine (grown_calls a0 b0 c0 d0 g pts.length c pts _ rfl hl1 (HPT.out.below (below_alloc1 _ _) hgz) (by simp; omega)).mono ?_
      rintro e w3 ⟨rfl, hb3⟩
      have HG3 := Lib.hid ((HG.out.kept (below_alloc1 wr _)).kept hb3)
      have HW3 := Lib.hid ((HW.out.alloc HW.out.size _).trans (hb3.mono (Nat.le_trans HW.out.size (below_alloc1 wr _).size)))
      clear hb3 hr g0 g1 g2 g3
      have j0 : w3.cell? ⟨w2.heap.size, 0, none⟩ = some (.int .i64 a0) := HG3.out.cell 0
      have j1 : w3.cell? ⟨w2.heap.size, 1, none⟩ = some (.int .i64 b0) := HG3.out.cell 1
      have j2 : w3.cell? ⟨w2.heap.size, 2, none⟩ = some (.int .i64 c0) := HG3.out.cell 2
      have j3 : w3.cell? ⟨w2.heap.size, 3, none⟩ = some (.int .i64 d0) := HG3.out.cell 3
      have jf := HG3.out.fr
      have jz := HG3.out.kz
      go_wp2
      go_roundw
      case rel =>
        refine ⟨k + 1, by omega, by go_num, Lib.hid ((((HW3.out.setCell (Nat.le_refl _) _).setCell (Nat.le_refl _) _).setCell (Nat.le_refl _) _).setCell (Nat.le_refl _) _), Lib.hid (BoxAt.cast (HG3.out.step _ _ _ _) ?_ ?_ ?_ ?_)⟩
        · rw [flat_succ HK.out]; unfold gX1; rw [List.foldl_append]; rw [← EA.out]; rfl
        · rw [flat_succ HK.out]; unfold gY1; rw [List.foldl_append]; rw [← EB.out]; rfl
        · rw [flat_succ HK.out]; unfold gX2; rw [List.foldl_append]; rw [← EC.out]; rfl
        · rw [flat_succ HK.out]; unfold gY2; rw [List.foldl_append]; rw [← ED.out]; rfl
      case measure => simp [intOf]; omega
    · have HT : Hid (ink.take k = ink) := Lib.hid (List.take_of_length_le (by rw [HN.out]; omega))
      rw [HT.out, HE.out.1, HE.out.2.1, HE.out.2.2.1, HE.out.2.2.2] at HG
      have g0 : wr.cell? ⟨w2.heap.size, 0, none⟩ = some (.int .i64 x1) := HG.out.cell 0
      have g1 : wr.cell? ⟨w2.heap.size, 1, none⟩ = some (.int .i64 x2) := HG.out.cell 1
      have g2 : wr.cell? ⟨w2.heap.size, 2, none⟩ = some (.int .i64 x3) := HG.out.cell 2
      have g3 : wr.cell? ⟨w2.heap.size, 3, none⟩ = some (.int .i64 x4) := HG.out.cell 3
      have r0 : wr.cell? ⟨w.heap.size + 1, 0, none⟩ = some (.int .i64 0) := HG.out.cell' 0
      have r1 : wr.cell? ⟨w.heap.size + 1, 1, none⟩ = some (.int .i64 0) := HG.out.cell' 1
      have r2 : wr.cell? ⟨w.heap.size + 1, 2, none⟩ = some (.int .i64 0) := HG.out.cell' 2
      have r3 : wr.cell? ⟨w.heap.size + 1, 3, none⟩ = some (.int .i64 0) := HG.out.cell' 3
      have hfr := HG.out.fr'
      have lzr : w2.heap.size < wr.heap.size := HG.out.kz
      have lz1 : w.heap.size + 1 < wr.heap.size := by have := HG.out.rk; omega
      go_wp2
      exact bodyPost_ret (v := .tuple #[box x1 x2 x3 x4, .int .i64 0]) (by simp [results, Try.results33, go_sem, r0, r1, r2, r3]) rfl ⟨rfl, (((HG.out.below.setCell (by simp) _).setCell (by simp) _).setCell (by simp) _).setCell (by simp) _⟩
end Go.Proofs.Ytklfmlbokedbdaa.inkBox
