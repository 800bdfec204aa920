/-
  Proved: the box of a stroke, as the document's functions return it.
  Conditions: the stroke has a point, and not many.
-/
import Derived.Test.YtofgdgdmmlgmnaaBox
import Derived.Test.YtofgdgdmmlgmnaaStroke
import Derived.Test.YtofgdgdmmlgmnaaBoxed
namespace Go.Proofs.Ytofgdgdmmlgmnaa.bxs
open Go.ChangeShapes Go.WideShapes Go.ChangeAt Go.RowKit Go.Joins
open Go.Proofs.Ytofgdgdmmlgmnaa.core Go.Proofs.Ytofgdgdmmlgmnaa.stk Go.Proofs.Ytofgdgdmmlgmnaa.box
set_option linter.unusedVariables false
set_option linter.unusedSimpArgs false
theorem min2S (x y : Int) (w : World) : Calls Try.prog 82 #[.int .i64 x, .int .i64 y] w fun e w' => e = .returned (.int .i64 (min x y)) ∧ w = w' := by
  obtain ⟨z, hz⟩ : ∃ z, min x y = z := ⟨_, rfl⟩
  rw [hz]
  by_cases h : x < y
  · obtain rfl : x = z := by omega
    clear hz
    go_enter Try.func82, Try.ntmps82
    go_wp2
    go_ret
    exact ⟨rfl, rfl⟩
  · obtain rfl : y = z := by omega
    have d : decide (x < y) = false := decide_eq_false h
    clear hz
    go_enter Try.func82, Try.ntmps82
    go_wp2
    go_ret
    exact ⟨rfl, rfl⟩
theorem max2S (x y : Int) (w : World) : Calls Try.prog 94 #[.int .i64 x, .int .i64 y] w fun e w' => e = .returned (.int .i64 (max x y)) ∧ w = w' := by
  obtain ⟨z, hz⟩ : ∃ z, max x y = z := ⟨_, rfl⟩
  rw [hz]
  by_cases h : y < x
  · obtain rfl : x = z := by omega
    clear hz
    go_enter Try.func94, Try.ntmps94
    go_wp2
    go_ret
    exact ⟨rfl, rfl⟩
  · obtain rfl : y = z := by omega
    have d : decide (y < x) = false := decide_eq_false h
    clear hz
    go_enter Try.func94, Try.ntmps94
    go_wp2
    go_ret
    exact ⟨rfl, rfl⟩
set_option maxRecDepth 100000 in
set_option maxHeartbeats 2000000 in
theorem joinS (a b c d a' b' c' d' : Int) (w : World) :
    Calls Try.prog 109 #[box a b c d, box a' b' c' d'] w fun e w' => e = .returned (box (min a a') (min b b') (max c c') (max d d')) ∧ Below w.heap.size w w' := by
  go_enter Try.func109, Try.ntmps109
  go_wp2
  go_region_held3 (fun w' => w'.cell? ⟨w.heap.size, 0, none⟩ = some (.int .i64 a) ∧ w'.cell? ⟨w.heap.size, 1, none⟩ = some (.int .i64 b) ∧ w'.cell? ⟨w.heap.size, 2, none⟩ = some (.int .i64 c) ∧ w'.cell? ⟨w.heap.size, 3, none⟩ = some (.int .i64 d) ∧ w'.cell? ⟨w.heap.size + 1, 0, none⟩ = some (.int .i64 a') ∧ w'.cell? ⟨w.heap.size + 1, 1, none⟩ = some (.int .i64 b') ∧ w'.cell? ⟨w.heap.size + 1, 2, none⟩ = some (.int .i64 c') ∧ w'.cell? ⟨w.heap.size + 1, 3, none⟩ = some (.int .i64 d')) (go_keep)
    (first | (go_at_call 82; refine (min2S _ _ _).mono ?_; rintro e w' ⟨rfl, rfl⟩) | (go_at_call 94; refine (max2S _ _ _).mono ?_; rintro e w' ⟨rfl, rfl⟩))
  rename_i hh
  clear hh
  go_wp2
  exact bodyPost_ret (v := box (min a a') (min b b') (max c c') (max d d')) (by simp [results, Try.results109, go_sem]) rfl ⟨rfl, (below_alloc3 _ _ _ _).drew⟩
/-- What a round of the loop finds: the result's cells, the first point, the box so far. -/
structure Boxing (w : World) (a b c d : Int) (w' : World) : Prop where
  below : Below w.heap.size w w'
  size : w.heap.size + 3 ≤ w'.heap.size
  blk : w'.heap[w.heap.size + 1 + 1]? = some (.cells #[.int .i64 a, .int .i64 b, .int .i64 c, .int .i64 d] 90 (0, 0))
  res : w'.heap[w.heap.size]? = some (.cells #[.int .i64 0, .int .i64 0, .int .i64 0, .int .i64 0] 90 (0, 0))
theorem Boxing.cell {w : World} {a b c d : Int} {w' : World} (h : Boxing w a b c d w') (i : Nat) : w'.cell? ⟨w.heap.size + 1 + 1, i, none⟩ = (#[.int .i64 a, .int .i64 b, .int .i64 c, .int .i64 d] : Array Value)[i]? := cell_of_block h.blk i
theorem Boxing.fr {w : World} {a b c d : Int} {w' : World} (h : Boxing w a b c d w') (i : Nat) : w'.frozen? ⟨w.heap.size + 1 + 1, i, none⟩ = false := unfrozen_of_block h.blk i
theorem Boxing.cell' {w : World} {a b c d : Int} {w' : World} (h : Boxing w a b c d w') (i : Nat) : w'.cell? ⟨w.heap.size, i, none⟩ = (#[.int .i64 0, .int .i64 0, .int .i64 0, .int .i64 0] : Array Value)[i]? := cell_of_block h.res i
theorem Boxing.fr' {w : World} {a b c d : Int} {w' : World} (h : Boxing w a b c d w') (i : Nat) : w'.frozen? ⟨w.heap.size, i, none⟩ = false := unfrozen_of_block h.res i
theorem Boxing.start (w : World) (a b c d : Int) (o : Obj) :
    Boxing w a b c d (((w.alloc (.cells #[.int .i64 0, .int .i64 0, .int .i64 0, .int .i64 0] 90)).alloc o).alloc (.cells #[.int .i64 a, .int .i64 b, .int .i64 c, .int .i64 d] 90)) := by
  refine ⟨below_alloc3 _ _ _ _, by simp, ?_, ?_⟩
  · have h := heap_alloc_new ((w.alloc (.cells #[.int .i64 0, .int .i64 0, .int .i64 0, .int .i64 0] 90)).alloc o) (.cells #[.int .i64 a, .int .i64 b, .int .i64 c, .int .i64 d] 90)
    have e : ((w.alloc (.cells #[.int .i64 0, .int .i64 0, .int .i64 0, .int .i64 0] 90)).alloc o).heap.size = w.heap.size + 1 + 1 := by simp
    rw [e] at h
    exact h
  · rw [Below.heap_alloc _ _ _ (by simp; omega), Below.heap_alloc _ _ _ (by simp)]
    exact heap_alloc_new w _
theorem Boxing.kept {w : World} {a b c d : Int} {w' w2 : World} (h : Boxing w a b c d w') (hb : Below w'.heap.size w' w2) : Boxing w a b c d w2 := by
  have := h.size
  have := hb.size
  exact ⟨h.below.trans (hb.mono h.below.size), by omega, (hb.block _ (by omega)).trans h.blk, (hb.block _ (by omega)).trans h.res⟩
theorem Boxing.step {w : World} {a b c d : Int} {wr : World} (h : Boxing w a b c d wr) (x1 y1 x2 y2 : Int) :
    Boxing w x1 y1 x2 y2 ((((wr.setCell ⟨w.heap.size + 1 + 1, 0, none⟩ (.int .i64 x1)).setCell ⟨w.heap.size + 1 + 1, 1, none⟩ (.int .i64 y1)).setCell ⟨w.heap.size + 1 + 1, 2, none⟩ (.int .i64 x2)).setCell ⟨w.heap.size + 1 + 1, 3, none⟩ (.int .i64 y2)) := by
  obtain ⟨hb, hz, h, hr⟩ := h
  have s1 := block_setCell (i := 0) h (.int .i64 x1)
  have s2 := block_setCell (i := 1) s1 (.int .i64 y1)
  have s3 := block_setCell (i := 2) s2 (.int .i64 x2)
  have s4 := block_setCell (i := 3) s3 (.int .i64 y2)
  have hle : w.heap.size ≤ w.heap.size + 1 + 1 := by omega
  refine ⟨(((hb.setCell hle _).setCell hle _).setCell hle _).setCell hle _, by simpa [World.setCell] using hz, ?_, ?_⟩
  · rw [s4]; rfl
  · rw [Below.heap_setCell _ _ _ _ (by simp; omega), Below.heap_setCell _ _ _ _ (by simp; omega), Below.heap_setCell _ _ _ _ (by simp; omega), Below.heap_setCell _ _ _ _ (by simp; omega), hr]
theorem Boxing.cast {w : World} {a b c d a' b' c' d' : Int} {wr : World} (h : Boxing w a b c d wr) (e0 : a' = a) (e1 : b' = b) (e2 : c' = c) (e3 : d' = d) : Boxing w a' b' c' d' wr := by
  subst e0 e1 e2 e3; exact h
/-- The box of the first n points. -/
def bX1 (n : Nat) (pts : Nat → P3) : Int := gX1 (pts 0).1 pts n
def bY1 (n : Nat) (pts : Nat → P3) : Int := gY1 (pts 0).2.1 pts n
def bX2 (n : Nat) (pts : Nat → P3) : Int := gX2 (pts 0).1 pts n
def bY2 (n : Nat) (pts : Nat → P3) : Int := gY2 (pts 0).2.1 pts n
abbrev bx (n : Nat) (pts : Nat → P3) : Value := box (bX1 n pts) (bY1 n pts) (bX2 n pts) (bY2 n pts)
theorem b_one (pts : Nat → P3) : bX1 1 pts = (pts 0).1 ∧ bY1 1 pts = (pts 0).2.1 ∧ bX2 1 pts = (pts 0).1 ∧ bY2 1 pts = (pts 0).2.1 := by
  unfold bX1 bY1 bX2 bY2 gX1 gY1 gX2 gY2 gX1 gY1 gX2 gY2
  omega
theorem b_succ (n : Nat) (pts : Nat → P3) : bX1 (n + 1) pts = min (bX1 n pts) (pts n).1 ∧ bY1 (n + 1) pts = min (bY1 n pts) (pts n).2.1 ∧ bX2 (n + 1) pts = max (bX2 n pts) (pts n).1 ∧ bY2 (n + 1) pts = max (bY2 n pts) (pts n).2.1 := ⟨rfl, rfl, rfl, rfl⟩
theorem b_in (n : Nat) (pts : Nat → P3) (h : ∀ i, i < n + 1 → (0 ≤ (pts i).1 ∧ (pts i).1 ≤ 4095) ∧ 0 ≤ (pts i).2.1 ∧ (pts i).2.1 ≤ 4095) : ∀ k, k ≤ n + 1 → (0 ≤ bX1 k pts ∧ bX1 k pts ≤ bX2 k pts ∧ bX2 k pts ≤ 4095) ∧ 0 ≤ bY1 k pts ∧ bY1 k pts ≤ bY2 k pts ∧ bY2 k pts ≤ 4095
  | 0, _ => by
    have := h 0 (by omega)
    unfold bX1 bX2 bY1 bY2 gX1 gX2 gY1 gY2
    omega
  | k + 1, hk => by
    have ih := b_in n pts h k (by omega)
    have := h k (by omega)
    obtain ⟨e1, e2, e3, e4⟩ := b_succ k pts
    rw [e1, e2, e3, e4]
    omega
set_option maxRecDepth 100000 in
set_option maxHeartbeats 4000000 in
theorem boxOfS {c o : Nat} (A : Option Addr) (b n : Nat) (pts : Nat → P3) (w : World) (h1 : 1 ≤ n) (hcap : n ≤ 1048576) (hbz : b < w.heap.size) (hs : w.cell? ⟨b, o, none⟩ = some (.slice A n c)) (hp : PtsAt w A n pts) :
    Calls Try.prog 85 #[.pointer (some ⟨b, o, none⟩)] w fun e w' => e = .returned (bx n pts) ∧ Below w.heap.size w w' := by
  have HP := Lib.hid hp
  have HS := Lib.hid hs
  have hn1' : (0 : Int) < (n : Int) := by omega
  obtain ⟨g, o1, rfl, hg, p0, p1, p2⟩ := hp 0 (by omega)
  simp only [Nat.zero_mul, Nat.add_zero] at p0 p1 p2
  have HO := Lib.hid (b_one pts)
  obtain ⟨x, hx⟩ : ∃ x, (pts 0).1 = x := ⟨_, rfl⟩
  obtain ⟨y, hy⟩ : ∃ y, (pts 0).2.1 = y := ⟨_, rfl⟩
  rw [hx] at p0
  rw [hy] at p1
  rw [hx, hy] at HO
  clear hp hx hy
  go_enter Try.func85, Try.ntmps85
  go_wp2
  clear p0 p1 p2 hs hn1'
  go_loopw [5] (fun i w' => ∃ k : Nat, 1 ≤ k ∧ k ≤ n ∧ i = .int .i64 k ∧ Hid (Boxing w (bX1 k pts) (bY1 k pts) (bX2 k pts) (bY2 k pts) w')) (fun i _ => n - (intOf i).toNat)
  case atStart => exact ⟨1, Nat.le_refl _, h1, rfl, Lib.hid (Boxing.cast (Boxing.start w _ _ _ _ _) HO.out.1 HO.out.2.1 HO.out.2.2.1 HO.out.2.2.2)⟩
  case round =>
    obtain ⟨k, hk1, hk, rfl, HG⟩ := hrel
    have hs := (HG.out.below.cell (p := ⟨b, o, none⟩) hbz).trans HS.out
    have HST := Lib.hid (b_succ k pts)
    by_cases hlt : k < n
    · obtain ⟨g', o', e', hg', q0, q1, q2⟩ := HP.out k hlt
      obtain ⟨rfl, rfl⟩ : g' = g ∧ o' = o1 := by
        injection e' with e'
        injection e' with e3 e4
        exact ⟨e3.symm, e4.symm⟩
      replace q0 := (HG.out.below.cell (p := ⟨g', o' + k * 3, none⟩) hg').trans q0
      replace q1 := (HG.out.below.cell (p := ⟨g', o' + k * 3 + 1, none⟩) hg').trans q1
      replace q2 := (HG.out.below.cell (p := ⟨g', o' + k * 3 + 2, none⟩) hg').trans q2
      have hli : (k : Int) < (n : Int) := by omega
      obtain ⟨⟨u, v, t⟩, hq⟩ : ∃ z, pts k = z := ⟨_, rfl⟩
      rw [hq] at q0 q1 q2 HST
      dsimp only at q0 q1 q2
      obtain ⟨a0, ha⟩ : ∃ z, bX1 k pts = z := ⟨_, rfl⟩
      obtain ⟨b0, hb⟩ : ∃ z, bY1 k pts = z := ⟨_, rfl⟩
      obtain ⟨c0, hc⟩ : ∃ z, bX2 k pts = z := ⟨_, rfl⟩
      obtain ⟨d0, hd⟩ : ∃ z, bY2 k pts = z := ⟨_, rfl⟩
      rw [ha, hb, hc, hd] at HG HST
      have g0 : wr.cell? ⟨w.heap.size + 1 + 1, 0, none⟩ = some (.int .i64 a0) := HG.out.cell 0
      have g1 : wr.cell? ⟨w.heap.size + 1 + 1, 1, none⟩ = some (.int .i64 b0) := HG.out.cell 1
      have g2 : wr.cell? ⟨w.heap.size + 1 + 1, 2, none⟩ = some (.int .i64 c0) := HG.out.cell 2
      have g3 : wr.cell? ⟨w.heap.size + 1 + 1, 3, none⟩ = some (.int .i64 d0) := HG.out.cell 3
      have lz : w.heap.size + 1 + 1 < wr.heap.size := by have := HG.out.size; omega
      have HJ := Lib.hid (fun W => joinS a0 b0 c0 d0 u v u v W)
      clear ha hb hc hd hq e'
      go_wp2_with fail
      refine (HJ.out _).mono ?_
      rintro e w2 ⟨rfl, hb2⟩
      have HG2 := Lib.hid ((HG.out.kept (below_alloc1 wr _)).kept hb2)
      clear hb2 q0 q1 q2 g0 g1 g2 g3 hs HG
      have g0 : w2.cell? ⟨w.heap.size + 1 + 1, 0, none⟩ = some (.int .i64 a0) := HG2.out.cell 0
      have g1 : w2.cell? ⟨w.heap.size + 1 + 1, 1, none⟩ = some (.int .i64 b0) := HG2.out.cell 1
      have g2 : w2.cell? ⟨w.heap.size + 1 + 1, 2, none⟩ = some (.int .i64 c0) := HG2.out.cell 2
      have g3 : w2.cell? ⟨w.heap.size + 1 + 1, 3, none⟩ = some (.int .i64 d0) := HG2.out.cell 3
      have hf := HG2.out.fr
      have lz2 : w.heap.size + 1 + 1 < w2.heap.size := by have := HG2.out.size; omega
      go_wp2
      go_roundw
      case rel => exact ⟨k + 1, by omega, by omega, by go_num, Lib.hid (Boxing.cast (HG2.out.step _ _ _ _) HST.out.1 HST.out.2.1 HST.out.2.2.1 HST.out.2.2.2)⟩
      case measure => simp [intOf]; omega
    · obtain rfl : k = n := by omega
      obtain ⟨a0, ha⟩ : ∃ z, bX1 k pts = z := ⟨_, rfl⟩
      obtain ⟨b0, hb⟩ : ∃ z, bY1 k pts = z := ⟨_, rfl⟩
      obtain ⟨c0, hc⟩ : ∃ z, bX2 k pts = z := ⟨_, rfl⟩
      obtain ⟨d0, hd⟩ : ∃ z, bY2 k pts = z := ⟨_, rfl⟩
      rw [ha, hb, hc, hd] at HG
      have EA := Lib.hid (show bx k pts = box a0 b0 c0 d0 by unfold bx; rw [ha, hb, hc, hd])
      clear ha hb hc hd HST
      have g0 : wr.cell? ⟨w.heap.size + 1 + 1, 0, none⟩ = some (.int .i64 a0) := HG.out.cell 0
      have g1 : wr.cell? ⟨w.heap.size + 1 + 1, 1, none⟩ = some (.int .i64 b0) := HG.out.cell 1
      have g2 : wr.cell? ⟨w.heap.size + 1 + 1, 2, none⟩ = some (.int .i64 c0) := HG.out.cell 2
      have g3 : wr.cell? ⟨w.heap.size + 1 + 1, 3, none⟩ = some (.int .i64 d0) := HG.out.cell 3
      have r0 : wr.cell? ⟨w.heap.size, 0, none⟩ = some (.int .i64 0) := HG.out.cell' 0
      have r1 : wr.cell? ⟨w.heap.size, 1, none⟩ = some (.int .i64 0) := HG.out.cell' 1
      have r2 : wr.cell? ⟨w.heap.size, 2, none⟩ = some (.int .i64 0) := HG.out.cell' 2
      have r3 : wr.cell? ⟨w.heap.size, 3, none⟩ = some (.int .i64 0) := HG.out.cell' 3
      have hfr := HG.out.fr'
      have lz : w.heap.size + 1 + 1 < wr.heap.size := by have := HG.out.size; omega
      have lz1 : w.heap.size < wr.heap.size := by omega
      go_wp2
      exact bodyPost_ret (v := box a0 b0 c0 d0) (by simp [results, Try.results85, go_sem, r0, r1, r2, r3]) rfl ⟨by rw [EA.out], (((HG.out.below.setCell (by simp) _).setCell (by simp) _).setCell (by simp) _).setCell (by simp) _⟩
end Go.Proofs.Ytofgdgdmmlgmnaa.bxs
