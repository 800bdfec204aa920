/-
  Proved: both functions that tell the box of a stroke answer as the document's definition (contracts of the callees of the laws on boxes of strokes and ink).
  Conditions: the stroke's points lie in a row of their own.
-/
import Derived.Test.YtklfmlbokedbdaaValid
import Derived.Test.YtklfmlbokedbdaaJoin
namespace Go.Proofs.Ytklfmlbokedbdaa.boxOf
open Go.ChangeShapes Go.WideShapes Go.ChangeAt Go.RowKit Go.Joins
open Go.Proofs.Ytklfmlbokedbdaa.join Go.Proofs.Ytklfmlbokedbdaa.strokes Go.Proofs.Ytklfmlbokedbdaa.valid Go.Proofs.Ytklfmlbokedbdaa.boxes
set_option linter.unusedVariables false

set_option maxHeartbeats 1000000 in
theorem boxAt_calls (x y t : Int) (w : World) :
    Calls Try.prog 62 #[pt x y t] w fun e w' => e = .returned (box x y x y) ∧ Below w.heap.size w w' := by
  go_enter Try.func62, Try.ntmps62
  go_wp2
  exact bodyPost_ret (v := box x y x y) (by simp [results, Try.results62, go_sem]) rfl ⟨rfl, below_alloc2 _ _ _⟩

/-- What a round of l02BoxOf's loop finds: the result's cells, the first point, the box so far. -/
structure Boxing (w : World) (a b c d : Int) (w' : World) : Prop where
  below : Below w.heap.size w w'
  size : w.heap.size + 3 ≤ w'.heap.size
  blk : w'.heap[w.heap.size + 1 + 1]? = some (.cells #[.int .i64 a, .int .i64 b, .int .i64 c, .int .i64 d] 48 (0, 0))
  res : w'.heap[w.heap.size]? = some (.cells #[.int .i64 0, .int .i64 0, .int .i64 0, .int .i64 0] 48 (0, 0))
theorem Boxing.cell {w : World} {a b c d : Int} {w' : World} (h : Boxing w a b c d w') (i : Nat) : w'.cell? ⟨w.heap.size + 1 + 1, i, none⟩ = (#[.int .i64 a, .int .i64 b, .int .i64 c, .int .i64 d] : Array Value)[i]? := cell_of_block h.blk i
theorem Boxing.fr {w : World} {a b c d : Int} {w' : World} (h : Boxing w a b c d w') (i : Nat) : w'.frozen? ⟨w.heap.size + 1 + 1, i, none⟩ = false := unfrozen_of_block h.blk i
theorem Boxing.cell' {w : World} {a b c d : Int} {w' : World} (h : Boxing w a b c d w') (i : Nat) : w'.cell? ⟨w.heap.size, i, none⟩ = (#[.int .i64 0, .int .i64 0, .int .i64 0, .int .i64 0] : Array Value)[i]? := cell_of_block h.res i
theorem Boxing.fr' {w : World} {a b c d : Int} {w' : World} (h : Boxing w a b c d w') (i : Nat) : w'.frozen? ⟨w.heap.size, i, none⟩ = false := unfrozen_of_block h.res i
theorem Boxing.start (w : World) (a b c d : Int) (o : Obj) :
    Boxing w a b c d (((w.alloc (.cells #[.int .i64 0, .int .i64 0, .int .i64 0, .int .i64 0] 48)).alloc o).alloc (.cells #[.int .i64 a, .int .i64 b, .int .i64 c, .int .i64 d] 48)) := by
  refine ⟨below_alloc3 _ _ _ _, by simp, ?_, ?_⟩
  · have h := heap_alloc_new ((w.alloc (.cells #[.int .i64 0, .int .i64 0, .int .i64 0, .int .i64 0] 48)).alloc o) (.cells #[.int .i64 a, .int .i64 b, .int .i64 c, .int .i64 d] 48)
    have e : ((w.alloc (.cells #[.int .i64 0, .int .i64 0, .int .i64 0, .int .i64 0] 48)).alloc o).heap.size = w.heap.size + 1 + 1 := by simp
    rw [e] at h
    exact h
  · rw [Below.heap_alloc _ _ _ (by simp; omega), Below.heap_alloc _ _ _ (by simp)]
    exact heap_alloc_new w _
theorem Boxing.kept {w : World} {a b c d : Int} {w' w2 : World} (h : Boxing w a b c d w') (hb : Below w'.heap.size w' w2) : Boxing w a b c d w2 := by
  have := h.size
  have := hb.size
  exact ⟨h.below.trans (hb.mono h.below.size), by omega, (hb.block _ (by omega)).trans h.blk, (hb.block _ (by omega)).trans h.res⟩
theorem Boxing.step {w : World} {a b c d : Int} {wr : World} (h : Boxing w a b c d wr) (x1 y1 x2 y2 : Int) :
    Boxing w x1 y1 x2 y2 ((((wr.setCell ⟨w.heap.size + 1 + 1, 0, none⟩ (.int .i64 x1)).setCell ⟨w.heap.size + 1 + 1, 1, none⟩ (.int .i64 y1)).setCell ⟨w.heap.size + 1 + 1, 2, none⟩ (.int .i64 x2)).setCell ⟨w.heap.size + 1 + 1, 3, none⟩ (.int .i64 y2)) := by
  obtain ⟨hb, hz, h, hr⟩ := h
  have s1 := block_setCell (i := 0) h (.int .i64 x1)
  have s2 := block_setCell (i := 1) s1 (.int .i64 y1)
  have s3 := block_setCell (i := 2) s2 (.int .i64 x2)
  have s4 := block_setCell (i := 3) s3 (.int .i64 y2)
  have hle : w.heap.size ≤ w.heap.size + 1 + 1 := by omega
  refine ⟨(((hb.setCell hle _).setCell hle _).setCell hle _).setCell hle _, by simpa [World.setCell] using hz, ?_, ?_⟩
  · rw [s4]; rfl
  · rw [Below.heap_setCell _ _ _ _ (by simp; omega), Below.heap_setCell _ _ _ _ (by simp; omega), Below.heap_setCell _ _ _ _ (by simp; omega), Below.heap_setCell _ _ _ _ (by simp; omega), hr]
theorem Boxing.cast {w : World} {a b c d a' b' c' d' : Int} {wr : World} (h : Boxing w a b c d wr) (e0 : a' = a) (e1 : b' = b) (e2 : c' = c) (e3 : d' = d) : Boxing w a' b' c' d' wr := by
  subst e0 e1 e2 e3; exact h

theorem take1 {pts : List P3} {p : P3} (h : pts[0]? = some p) : pts.take 1 = [p] := by
  match pts, h with
  | q :: qs, h => simp at h; subst h; rfl

set_option maxRecDepth 100000 in
set_option maxHeartbeats 2000000 in
theorem l02BoxOf_calls {c o : Nat} (b g n : Nat) (pts : List P3) (p : P3) (w : World) (hn : pts.length = n) (hcap : n ≤ 1048576) (hg : g < w.heap.size) (hbz : b < w.heap.size) (hs : w.cell? ⟨b, o, none⟩ = some (.slice (some ⟨g, 0, none⟩) n c)) (hp : Pts w g pts) (h0 : pts[0]? = some p) :
    Calls Try.prog 61 #[.pointer (some ⟨b, o, none⟩)] w fun e w' => e = .returned (box (gX1 p.1 pts) (gY1 p.2.1 pts) (gX2 p.1 pts) (gY2 p.2.1 pts)) ∧ Below w.heap.size w w' := by
  have HN := Lib.hid hn
  have HP := Lib.hid hp
  have HS := Lib.hid hs
  have H0 := Lib.hid h0
  have hn1 : 1 ≤ n := by have := (List.getElem?_eq_some_iff.1 h0).1; omega
  have hn1' : (0 : Int) < (n : Int) := by omega
  obtain ⟨p0, p1, p2⟩ := hp 0 p h0
  simp only [Nat.zero_mul, Nat.zero_add] at p0 p1 p2
  clear hn hp h0
  go_enter Try.func61, Try.ntmps61
  go_wp2
  clear p0 p1 p2 hs hn1'
  go_loopw [5] (fun i w' => ∃ k : Nat, 1 ≤ k ∧ k ≤ n ∧ i = .int .i64 k ∧ Hid (Boxing w (gX1 p.1 (pts.take k)) (gY1 p.2.1 (pts.take k)) (gX2 p.1 (pts.take k)) (gY2 p.2.1 (pts.take k)) w')) (fun i _ => n - (intOf i).toNat)
  case atStart =>
    refine ⟨1, Nat.le_refl _, hn1, rfl, Lib.hid (Boxing.cast (Boxing.start w _ _ _ _ _) ?_ ?_ ?_ ?_)⟩
    · rw [take1 H0.out]; simp [gX1]
    · rw [take1 H0.out]; simp [gY1]
    · rw [take1 H0.out]; simp [gX2]
    · rw [take1 H0.out]; simp [gY2]
  case round =>
    obtain ⟨k, hk1, hk, rfl, HG⟩ := hrel
    have hs := (HG.out.below.cell hbz).trans HS.out
    by_cases hlt : k < n
    · have hkl : k < pts.length := by rw [HN.out]; exact hlt
      obtain ⟨p0, p1, p2⟩ := HP.out k pts[k] (List.getElem?_eq_getElem hkl)
      generalize hpk : pts[k] = q at p0 p1 p2
      have HK := Lib.hid hpk
      clear hpk
      generalize ea : gX1 p.1 (pts.take k) = a0 at *
      generalize eb : gY1 p.2.1 (pts.take k) = b0 at *
      generalize ec : gX2 p.1 (pts.take k) = c0 at *
      generalize ed : gY2 p.2.1 (pts.take k) = d0 at *
      have EA := Lib.hid ea
      have EB := Lib.hid eb
      have EC := Lib.hid ec
      have ED := Lib.hid ed
      clear ea eb ec ed
      have q0 := (HG.out.below.cell (p := ⟨g, k * 3, none⟩) hg).trans p0
      have q1 := (HG.out.below.cell (p := ⟨g, k * 3 + 1, none⟩) hg).trans p1
      have q2 := (HG.out.below.cell (p := ⟨g, k * 3 + 2, none⟩) hg).trans p2
      have g0 : wr.cell? ⟨w.heap.size + 1 + 1, 0, none⟩ = some (.int .i64 a0) := HG.out.cell 0
      have g1 : wr.cell? ⟨w.heap.size + 1 + 1, 1, none⟩ = some (.int .i64 b0) := HG.out.cell 1
      have g2 : wr.cell? ⟨w.heap.size + 1 + 1, 2, none⟩ = some (.int .i64 c0) := HG.out.cell 2
      have g3 : wr.cell? ⟨w.heap.size + 1 + 1, 3, none⟩ = some (.int .i64 d0) := HG.out.cell 3
      have lz : w.heap.size + 1 + 1 < wr.heap.size := by have := HG.out.size; omega
      clear p0 p1 p2
      go_wp2_with fail
      refine (join_calls a0 b0 c0 d0 q.1 q.2.1 q.1 q.2.1 _).mono ?_
      rintro e w2 ⟨rfl, hb2⟩
      have HG2 := Lib.hid ((HG.out.kept (below_alloc1 wr _)).kept hb2)
      clear hb2 q0 q1 q2 g0 g1 g2 g3 hs HG
      have g0 : w2.cell? ⟨w.heap.size + 1 + 1, 0, none⟩ = some (.int .i64 a0) := HG2.out.cell 0
      have g1 : w2.cell? ⟨w.heap.size + 1 + 1, 1, none⟩ = some (.int .i64 b0) := HG2.out.cell 1
      have g2 : w2.cell? ⟨w.heap.size + 1 + 1, 2, none⟩ = some (.int .i64 c0) := HG2.out.cell 2
      have g3 : w2.cell? ⟨w.heap.size + 1 + 1, 3, none⟩ = some (.int .i64 d0) := HG2.out.cell 3
      have hf := HG2.out.fr
      have lz2 : w.heap.size + 1 + 1 < w2.heap.size := by have := HG2.out.size; omega
      go_wp2
      go_roundw
      case rel =>
        refine ⟨k + 1, by omega, by omega, by go_num, Lib.hid (Boxing.cast (HG2.out.step _ _ _ _) ?_ ?_ ?_ ?_)⟩
        · rw [gX1_succ _ pts k hkl, EA.out, HK.out]
        · rw [gY1_succ _ pts k hkl, EB.out, HK.out]
        · rw [gX2_succ _ pts k hkl, EC.out, HK.out]
        · rw [gY2_succ _ pts k hkl, ED.out, HK.out]
      case measure => simp [intOf]; omega
    · have HT : Hid (pts.take k = pts) := Lib.hid (List.take_of_length_le (by rw [HN.out]; omega))
      rw [HT.out] at HG
      generalize ea : gX1 p.1 pts = a0 at HG
      generalize eb : gY1 p.2.1 pts = b0 at HG
      generalize ec : gX2 p.1 pts = c0 at HG
      generalize ed : gY2 p.2.1 pts = d0 at HG
      have EA := Lib.hid ea
      have EB := Lib.hid eb
      have EC := Lib.hid ec
      have ED := Lib.hid ed
      clear ea eb ec ed
      have g0 : wr.cell? ⟨w.heap.size + 1 + 1, 0, none⟩ = some (.int .i64 a0) := HG.out.cell 0
      have g1 : wr.cell? ⟨w.heap.size + 1 + 1, 1, none⟩ = some (.int .i64 b0) := HG.out.cell 1
      have g2 : wr.cell? ⟨w.heap.size + 1 + 1, 2, none⟩ = some (.int .i64 c0) := HG.out.cell 2
      have g3 : wr.cell? ⟨w.heap.size + 1 + 1, 3, none⟩ = some (.int .i64 d0) := HG.out.cell 3
      have r0 : wr.cell? ⟨w.heap.size, 0, none⟩ = some (.int .i64 0) := HG.out.cell' 0
      have r1 : wr.cell? ⟨w.heap.size, 1, none⟩ = some (.int .i64 0) := HG.out.cell' 1
      have r2 : wr.cell? ⟨w.heap.size, 2, none⟩ = some (.int .i64 0) := HG.out.cell' 2
      have r3 : wr.cell? ⟨w.heap.size, 3, none⟩ = some (.int .i64 0) := HG.out.cell' 3
      have hfr := HG.out.fr'
      have lz : w.heap.size + 1 + 1 < wr.heap.size := by have := HG.out.size; omega
      have lz1 : w.heap.size < wr.heap.size := by omega
      go_wp2
      exact bodyPost_ret (v := box a0 b0 c0 d0) (by simp [results, Try.results61, go_sem, r0, r1, r2, r3]) rfl ⟨by rw [EA.out, EB.out, EC.out, ED.out], (((HG.out.below.setCell (by simp) _).setCell (by simp) _).setCell (by simp) _).setCell (by simp) _⟩

theorem vS_pos {pts : List P3} (h : vS pts = true) : 1 ≤ pts.length ∧ pts.length ≤ 60 := by
  unfold vS at h
  have := @of_decide_eq_true _ (Classical.propDecidable _) h
  exact ⟨this.1, this.2.1⟩
theorem head0 {pts : List P3} (h : 1 ≤ pts.length) : ∃ p, pts[0]? = some p := ⟨_, List.getElem?_eq_getElem (by omega)⟩

theorem old {W w1 : World} (hb : Below W.heap.size W w1) : (∀ b o, b < W.heap.size → w1.cell? ⟨b, o, none⟩ = W.cell? ⟨b, o, none⟩) ∧ (∀ b o, b < W.heap.size → w1.frozen? ⟨b, o, none⟩ = W.frozen? ⟨b, o, none⟩) :=
  ⟨fun b o h => hb.cell (p := ⟨b, o, none⟩) h, fun b o h => hb.frozen (p := ⟨b, o, none⟩) h⟩

set_option maxHeartbeats 2000000 in
theorem specBox_bad (g n : Nat) (pts : List P3) (w : World) (hn : pts.length = n) (hcap : n ≤ 1048576) (hg : g < w.heap.size) (hp : Pts w g pts) (hv : vS pts = false) :
    Calls Try.prog 29 #[stroke g n] w fun e w' => e = .returned (.tuple #[box 0 0 0 0, .int .i64 1]) ∧ Below w.heap.size w w' := by
  have HN := Lib.hid hn
  have HP := Lib.hid (hp.below (below_alloc2 w (.cells #[.slice (some ⟨g, 0, none⟩) n n] 29) (.cells #[.int .i64 0, .int .i64 0, .int .i64 0, .int .i64 0] 48)) hg)
  have HV := Lib.hid hv
  clear hn hp hv
  go_enter Try.func29, Try.ntmps29
  go_wp2_with fail
  refine (l02Stroke_calls (c := n) (o := 0) w.heap.size g n pts _ HN.out hcap (by simp; omega) (by simp; omega) (by simp) HP.out).mono ?_
  rintro e w1 ⟨rfl, hb1⟩
  rw [HV.out]
  obtain ⟨hc1, hf1⟩ := old hb1
  have hz1 := hb1.size
  simp at hz1
  have lz : w.heap.size + 1 < w1.heap.size := by omega
  have HB := Lib.hid ((below_alloc2 w _ _).trans (hb1.mono (below_alloc2 w _ _).size))
  clear hb1
  go_wp2
  exact bodyPost_ret (v := .tuple #[box 0 0 0 0, .int .i64 1]) (by simp [results, Try.results29, go_sem, hc1]) rfl
    ⟨rfl, (((HB.out.setCell (by simp) _).setCell (by simp) _).setCell (by simp) _).setCell (by simp) _⟩

set_option maxHeartbeats 2000000 in
theorem specBox_ok (g n : Nat) (pts : List P3) (p : P3) (x1 x2 x3 x4 : Int) (w : World) (hn : pts.length = n) (hcap : n ≤ 1048576) (hg : g < w.heap.size) (hp : Pts w g pts) (hv : vS pts = true) (h0 : pts[0]? = some p)
    (e1 : gX1 p.1 pts = x1) (e2 : gY1 p.2.1 pts = x2) (e3 : gX2 p.1 pts = x3) (e4 : gY2 p.2.1 pts = x4) :
    Calls Try.prog 29 #[stroke g n] w fun e w' => e = .returned (.tuple #[box x1 x2 x3 x4, .int .i64 0]) ∧ Below w.heap.size w w' := by
  have HN := Lib.hid hn
  have HP := Lib.hid (hp.below (below_alloc2 w (.cells #[.slice (some ⟨g, 0, none⟩) n n] 29) (.cells #[.int .i64 0, .int .i64 0, .int .i64 0, .int .i64 0] 48)) hg)
  have HV := Lib.hid hv
  have H0 := Lib.hid h0
  have HE := Lib.hid (And.intro e1 (And.intro e2 (And.intro e3 e4)))
  clear hn hp hv h0 e1 e2 e3 e4
  go_enter Try.func29, Try.ntmps29
  go_wp2_with fail
  refine (l02Stroke_calls (c := n) (o := 0) w.heap.size g n pts _ HN.out hcap (by simp; omega) (by simp; omega) (by simp) HP.out).mono ?_
  rintro e w1 ⟨rfl, hb1⟩
  rw [HV.out]
  obtain ⟨hc1, hf1⟩ := old hb1
  have hz1 := hb1.size
  simp at hz1
  go_wp2_with fail
  refine (l02BoxOf_calls (c := n) (o := 0) w.heap.size g n pts p _ HN.out hcap (by omega) (by omega) ((hc1 _ _ (by simp; omega)).trans (by simp)) (HP.out.below hb1 (by simp; omega)) H0.out).mono ?_
  rintro e w2 ⟨rfl, hb2⟩
  rw [HE.out.1, HE.out.2.1, HE.out.2.2.1, HE.out.2.2.2]
  have hb12 := hb1.trans (hb2.mono hb1.size)
  clear hc1 hf1
  obtain ⟨hc2, hf2⟩ := old hb12
  have hz2 := hb12.size
  simp at hz2
  have lz : w.heap.size + 1 < w2.heap.size := by omega
  have HB := Lib.hid ((below_alloc2 w _ _).trans (hb12.mono (below_alloc2 w _ _).size))
  clear hb1 hb2 hb12
  go_wp2
  exact bodyPost_ret (v := .tuple #[box x1 x2 x3 x4, .int .i64 0]) (by simp [results, Try.results29, go_sem, hc2]) rfl
    ⟨rfl, (((HB.out.setCell (by simp) _).setCell (by simp) _).setCell (by simp) _).setCell (by simp) _⟩

set_option maxHeartbeats 2000000 in
theorem implBox_bad (g n : Nat) (pts : List P3) (w : World) (hn : pts.length = n) (hcap : n ≤ 1048576) (hg : g < w.heap.size) (hp : Pts w g pts) (hv : vS pts = false) :
    Calls Try.prog 30 #[stroke g n] w fun e w' => e = .returned (.tuple #[box 0 0 0 0, .int .i64 1]) ∧ Below w.heap.size w w' := by
  have HN := Lib.hid hn
  have HP := Lib.hid (hp.below (below_alloc2 w (.cells #[.slice (some ⟨g, 0, none⟩) n n] 29) (.cells #[.int .i64 0, .int .i64 0, .int .i64 0, .int .i64 0] 48)) hg)
  have HV := Lib.hid hv
  clear hn hp hv
  go_enter Try.func30, Try.ntmps30
  go_wp2_with fail
  refine (implValid_calls g n pts _ HN.out hcap (by simp; omega) HP.out).mono ?_
  rintro e w1 ⟨rfl, hb1⟩
  rw [HV.out]
  obtain ⟨hc1, hf1⟩ := old hb1
  have hz1 := hb1.size
  simp at hz1
  have lz : w.heap.size + 1 < w1.heap.size := by omega
  have HB := Lib.hid ((below_alloc2 w _ _).trans (hb1.mono (below_alloc2 w _ _).size))
  clear hb1
  go_wp2
  exact bodyPost_ret (v := .tuple #[box 0 0 0 0, .int .i64 1]) (by simp [results, Try.results30, go_sem, hc1]) rfl
    ⟨rfl, (((HB.out.setCell (by simp) _).setCell (by simp) _).setCell (by simp) _).setCell (by simp) _⟩

/-- What the drawn statement of impl.BoxOfStroke keeps. -/
structure InvB (w : World) (pts : List P3) (g n : Nat) (W : World) : Prop where
  below : Below w.heap.size w W
  z : w.heap.size + 1 < W.heap.size
  g0 : g < w.heap.size
  row : Pts W g pts
  res : ∃ v0 v1 v2 v3, W.heap[w.heap.size + 1]? = some (.cells #[v0, v1, v2, v3] 48 (0, 0))
abbrev SB (w : World) (p : P3) (pts : List P3) (g n : Nat) (W : World) : Prop :=
  W.cell? ⟨w.heap.size, 0, none⟩ = some (.slice (some ⟨g, 0, none⟩) n n) ∧ W.cell? ⟨g, 0, none⟩ = some (.int .i64 p.1) ∧ W.cell? ⟨g, 1, none⟩ = some (.int .i64 p.2.1) ∧ W.cell? ⟨g, 2, none⟩ = some (.int .i64 p.2.2) ∧ InvB w pts g n W
section
variable {w : World} {p : P3} {pts : List P3} {g n : Nat} {W w' : World}
theorem SB_kept (hb : Below W.heap.size W w') (h : SB w p pts g n W) : SB w p pts g n w' := by
  obtain ⟨h0, h1, h2, h3, hi⟩ := h
  have z := hi.z
  have gz : g < W.heap.size := Nat.lt_of_lt_of_le hi.g0 hi.below.size
  have := hb.size
  obtain ⟨v0, v1, v2, v3, hr⟩ := hi.res
  exact ⟨(hb.cell (p := ⟨w.heap.size, 0, none⟩) (show w.heap.size < W.heap.size by omega)).trans h0, (hb.cell (p := ⟨g, 0, none⟩) gz).trans h1, (hb.cell (p := ⟨g, 1, none⟩) gz).trans h2, (hb.cell (p := ⟨g, 2, none⟩) gz).trans h3,
    ⟨hi.below.trans (hb.mono hi.below.size), by omega, hi.g0, hi.row.below hb gz, v0, v1, v2, v3, (hb.block _ z).trans hr⟩⟩
theorem SB_drew (h : SB w p pts g n W) : SB w p pts g n W.drew :=
  ⟨h.1, h.2.1, h.2.2.1, h.2.2.2.1, ⟨h.2.2.2.2.below.drew, h.2.2.2.2.z, h.2.2.2.2.g0, h.2.2.2.2.row, h.2.2.2.2.res⟩⟩
theorem SB_row (h : SB w p pts g n W) : Pts W g pts := h.2.2.2.2.row
theorem SB_gz (h : SB w p pts g n W) : g < W.heap.size := Nat.lt_of_lt_of_le h.2.2.2.2.g0 h.2.2.2.2.below.size
theorem SB_below (h : SB w p pts g n W) : Below w.heap.size w W := h.2.2.2.2.below
theorem SB_res (h : SB w p pts g n W) : w.heap.size + 1 < W.heap.size ∧ ∃ v0 v1 v2 v3, W.cell? ⟨w.heap.size + 1, 0, none⟩ = some v0 ∧ W.cell? ⟨w.heap.size + 1, 1, none⟩ = some v1 ∧ W.cell? ⟨w.heap.size + 1, 2, none⟩ = some v2 ∧ W.cell? ⟨w.heap.size + 1, 3, none⟩ = some v3 ∧ ∀ i, W.frozen? ⟨w.heap.size + 1, i, none⟩ = false := by
  obtain ⟨v0, v1, v2, v3, hr⟩ := h.2.2.2.2.res
  exact ⟨h.2.2.2.2.z, v0, v1, v2, v3, cell_of_block hr 0, cell_of_block hr 1, cell_of_block hr 2, cell_of_block hr 3, unfrozen_of_block hr⟩
theorem far {w : World} {g b o i : Nat} {v : Value} (h : b ≠ g) : (w.setCell ⟨g, i, none⟩ v).cell? ⟨b, o, none⟩ = w.cell? ⟨b, o, none⟩ := World.cell?_setCell_far w ⟨g, i, none⟩ ⟨b, o, none⟩ v (Ne.symm h)
set_option maxHeartbeats 1000000 in
theorem SB_set {x0 x1 x2 x3 : Value} (h : SB w p pts g n W) : SB w p pts g n ((((W.setCell ⟨w.heap.size + 1, 0, none⟩ x0).setCell ⟨w.heap.size + 1, 1, none⟩ x1).setCell ⟨w.heap.size + 1, 2, none⟩ x2).setCell ⟨w.heap.size + 1, 3, none⟩ x3) := by
  obtain ⟨h0, h1, h2, h3, hi⟩ := h
  have g0 := hi.g0
  have z := hi.z
  obtain ⟨v0, v1, v2, v3, hr⟩ := hi.res
  have s1 := block_setCell (i := 0) hr x0
  have s2 := block_setCell (i := 1) s1 x1
  have s3 := block_setCell (i := 2) s2 x2
  have s4 := block_setCell (i := 3) s3 x3
  have n0 : w.heap.size ≠ w.heap.size + 1 := by omega
  have n1 : g ≠ w.heap.size + 1 := by omega
  have hle : w.heap.size ≤ w.heap.size + 1 := by omega
  refine ⟨?_, ?_, ?_, ?_, ⟨(((hi.below.setCell hle _).setCell hle _).setCell hle _).setCell hle _, by simpa [World.setCell] using z, g0, (((hi.row.far (Ne.symm n1) _).far (Ne.symm n1) _).far (Ne.symm n1) _).far (Ne.symm n1) _, x0, x1, x2, x3, by rw [s4]; rfl⟩⟩
  all_goals
    rw [far (by assumption), far (by assumption), far (by assumption), far (by assumption)]
    assumption
end

end Go.Proofs.Ytklfmlbokedbdaa.boxOf
