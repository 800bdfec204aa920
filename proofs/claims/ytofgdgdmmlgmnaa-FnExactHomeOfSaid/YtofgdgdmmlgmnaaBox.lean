/-
  Proved: what the functions that make and compare the boxes of segments return.
  Conditions: none.
-/
import Derived.Test.YtofgdgdmmlgmnaaPts
import Derived.Test.YtofgdgdmmlgmnaaGeoX
import Derived.BigRegion
import Derived.Deep.RegionHeld3
import Derived.Deep.RegionWith
namespace Go.Proofs.Ytofgdgdmmlgmnaa.box
open Go.ChangeShapes Go.WideShapes Go.ChangeAt Go.RowKit Go.Joins
open Go.Proofs.Ytofgdgdmmlgmnaa.core Go.Proofs.Ytofgdgdmmlgmnaa.stk
set_option linter.unusedVariables false
set_option linter.unusedSimpArgs false

abbrev box (a b c d : Int) : Value := .agg #[.int .i64 a, .int .i64 b, .int .i64 c, .int .i64 d]
/-- The least box around a box and the first k points. -/
def gX1 (a : Int) (pts : Nat → P3) : Nat → Int | 0 => a | k + 1 => min (gX1 a pts k) (pts k).1
def gY1 (a : Int) (pts : Nat → P3) : Nat → Int | 0 => a | k + 1 => min (gY1 a pts k) (pts k).2.1
def gX2 (a : Int) (pts : Nat → P3) : Nat → Int | 0 => a | k + 1 => max (gX2 a pts k) (pts k).1
def gY2 (a : Int) (pts : Nat → P3) : Nat → Int | 0 => a | k + 1 => max (gY2 a pts k) (pts k).2.1
/-- What a round of grown's loop finds: the box so far in one block, the result's cells in the next one. -/
structure Growing (w : World) (a b c d : Int) (w' : World) : Prop where
  below : Below w.heap.size w w'
  size : w.heap.size + 2 ≤ w'.heap.size
  blk : w'.heap[w.heap.size]? = some (.cells #[.int .i64 a, .int .i64 b, .int .i64 c, .int .i64 d] 90 (0, 0))
  res : w'.heap[w.heap.size + 1]? = some (.cells #[.int .i64 0, .int .i64 0, .int .i64 0, .int .i64 0] 90 (0, 0))
theorem Growing.cell {w : World} {a b c d : Int} {w' : World} (h : Growing w a b c d w') (i : Nat) : w'.cell? ⟨w.heap.size, i, none⟩ = (#[.int .i64 a, .int .i64 b, .int .i64 c, .int .i64 d] : Array Value)[i]? := cell_of_block h.blk i
theorem Growing.fr {w : World} {a b c d : Int} {w' : World} (h : Growing w a b c d w') (i : Nat) : w'.frozen? ⟨w.heap.size, i, none⟩ = false := unfrozen_of_block h.blk i
theorem Growing.cell' {w : World} {a b c d : Int} {w' : World} (h : Growing w a b c d w') (i : Nat) : w'.cell? ⟨w.heap.size + 1, i, none⟩ = (#[.int .i64 0, .int .i64 0, .int .i64 0, .int .i64 0] : Array Value)[i]? := cell_of_block h.res i
theorem Growing.fr' {w : World} {a b c d : Int} {w' : World} (h : Growing w a b c d w') (i : Nat) : w'.frozen? ⟨w.heap.size + 1, i, none⟩ = false := unfrozen_of_block h.res i

theorem Growing.start (w : World) (a b c d : Int) :
    Growing w a b c d ((w.alloc (.cells #[.int .i64 a, .int .i64 b, .int .i64 c, .int .i64 d] 90)).alloc (.cells #[.int .i64 0, .int .i64 0, .int .i64 0, .int .i64 0] 90)) := by
  refine ⟨below_alloc2 _ _ _, by simp, (Below.heap_alloc _ _ _ (by simp)).trans (heap_alloc_new w _), ?_⟩
  have := heap_alloc_new (w.alloc (.cells #[.int .i64 a, .int .i64 b, .int .i64 c, .int .i64 d] 90)) (.cells #[.int .i64 0, .int .i64 0, .int .i64 0, .int .i64 0] 90)
  have e : (w.alloc (.cells #[.int .i64 a, .int .i64 b, .int .i64 c, .int .i64 d] 90)).heap.size = w.heap.size + 1 := by simp
  rw [e] at this
  exact this
theorem min_if (m x : Int) : (if x < m then x else m) = min m x := by split <;> omega
theorem max_if (m x : Int) : (if m < x then x else m) = max m x := by split <;> omega

theorem Growing.half {w : World} {a b c d : Int} {wr : World} (h : Growing w a b c d wr) (x1 x2 : Int) (o : Obj) :
    Growing w x1 b x2 d (((wr.setCell ⟨w.heap.size, 0, none⟩ (.int .i64 x1)).setCell ⟨w.heap.size, 2, none⟩ (.int .i64 x2)).alloc o).drew := by
  obtain ⟨hb, hz, h, hr⟩ := h
  have s1 := block_setCell (i := 0) h (.int .i64 x1)
  have s2 := block_setCell (i := 2) s1 (.int .i64 x2)
  refine ⟨?_, ?_, ?_, ?_⟩
  · exact (((hb.setCell (Nat.le_refl _) _).setCell (Nat.le_refl _) _).alloc (by simp [World.setCell]; omega) _).drew
  · show _ ≤ (World.alloc _ _).heap.size
    simp [World.setCell]; omega
  · show (World.alloc _ _).heap[w.heap.size]? = _
    rw [Below.heap_alloc _ _ _ (by simp [World.setCell]; omega), s2]
    rfl
  · show (World.alloc _ _).heap[w.heap.size + 1]? = _
    rw [Below.heap_alloc _ _ _ (by simp [World.setCell]; omega), Below.heap_setCell _ _ _ _ (by simp), Below.heap_setCell _ _ _ _ (by simp), hr]
theorem Growing.half2 {w : World} {a b c d : Int} {wr : World} (h : Growing w a b c d wr) (y1 y2 : Int) :
    Growing w a y1 c y2 ((wr.setCell ⟨w.heap.size, 1, none⟩ (.int .i64 y1)).setCell ⟨w.heap.size, 3, none⟩ (.int .i64 y2)).drew := by
  obtain ⟨hb, hz, h, hr⟩ := h
  have s1 := block_setCell (i := 1) h (.int .i64 y1)
  have s2 := block_setCell (i := 3) s1 (.int .i64 y2)
  refine ⟨?_, ?_, ?_, ?_⟩
  · exact ((hb.setCell (Nat.le_refl _) _).setCell (Nat.le_refl _) _).drew
  · show _ ≤ (World.setCell _ _ _).heap.size
    simpa [World.setCell] using hz
  · show (World.setCell _ _ _).heap[w.heap.size]? = _
    rw [s2]
    rfl
  · show (World.setCell _ _ _).heap[w.heap.size + 1]? = _
    rw [Below.heap_setCell _ _ _ _ (by simp), Below.heap_setCell _ _ _ _ (by simp), hr]
theorem pcell (W : World) (v0 v1 v2 : Value) (T : TypeId) : ((W.alloc (.cells #[v0, v1, v2] T)).drew).cell? ⟨W.heap.size, 1, none⟩ = some v1 := by
  show (World.alloc _ _).cell? _ = _
  simp
theorem Growing.cast {w : World} {a b c d a' b' c' d' : Int} {wr : World} (h : Growing w a b c d wr) (e0 : a' = a) (e1 : b' = b) (e2 : c' = c) (e3 : d' = d) : Growing w a' b' c' d' wr := by
  subst e0 e1 e2 e3; exact h

set_option maxRecDepth 100000 in
set_option maxHeartbeats 2000000 in
theorem grown_calls (a b c d : Int) (A : Option Addr) (n cap : Nat) (pts : Nat → P3) (w : World) (hcap : n ≤ 9000000000000000000) (hp : PtsAt w A n pts) :
    Calls Try.prog 89 #[box a b c d, .slice A n cap] w fun e w' => e = .returned (box (gX1 a pts n) (gY1 b pts n) (gX2 c pts n) (gY2 d pts n)) ∧ Below w.heap.size w w' := by
  have HP := Lib.hid hp
  clear hp
  go_enter Try.func89, Try.ntmps89
  go_wp2
  go_loopw [9] (fun i w' => ∃ k : Nat, k ≤ n ∧ i = .int .i64 k ∧ Growing w (gX1 a pts k) (gY1 b pts k) (gX2 c pts k) (gY2 d pts k) w') (fun i _ => n - (intOf i).toNat)
  case atStart =>
    exact ⟨0, Nat.zero_le _, rfl, Growing.start w a b c d⟩
  case round =>
    obtain ⟨k, hk, rfl, hG⟩ := hrel
    by_cases hlt : k < n
    · obtain ⟨g, o', rfl, hg, p0, p1, p2⟩ := HP.out k hlt
      obtain ⟨p, hpk⟩ : ∃ p, pts k = p := ⟨_, rfl⟩
      rw [hpk] at p0 p1 p2
      have HK := Lib.hid hpk
      clear hpk
      generalize ea : gX1 a pts k = a0 at *
      generalize eb : gY1 b pts k = b0 at *
      generalize ec : gX2 c pts k = c0 at *
      generalize ed : gY2 d pts k = d0 at *
      have EA := Lib.hid ea
      have EB := Lib.hid eb
      have EC := Lib.hid ec
      have ED := Lib.hid ed
      clear ea eb ec ed
      have HG := Lib.hid hG
      clear hG
      have q0 := (HG.out.below.cell (p := ⟨g, o' + k * 3, none⟩) hg).trans p0
      have q1 := (HG.out.below.cell (p := ⟨g, o' + k * 3 + 1, none⟩) hg).trans p1
      have q2 := (HG.out.below.cell (p := ⟨g, o' + k * 3 + 2, none⟩) hg).trans p2
      clear p0 p1 p2
      go_wp2
      clear q0 q1 q2
      have h0 : wr.cell? ⟨w.heap.size, 0, none⟩ = some (.int .i64 a0) := HG.out.cell 0
      have h2 : wr.cell? ⟨w.heap.size, 2, none⟩ = some (.int .i64 c0) := HG.out.cell 2
      have hf0 := HG.out.fr 0
      have hf2 := HG.out.fr 2
      have lz : w.heap.size < wr.heap.size := by have := HG.out.size; omega
      have HLT := Lib.hid (And.intro hlt hcap)
      clear hg hlt hcap hk
      go_region
      clear h0 h2 hf0 hf2
      generalize e1 : (if p.1 < a0 then p.1 else a0) = x1
      generalize e2 : (if c0 < p.1 then p.1 else c0) = x2
      have h1 : wr.cell? ⟨w.heap.size, 1, none⟩ = some (.int .i64 b0) := HG.out.cell 1
      have h3 : wr.cell? ⟨w.heap.size, 3, none⟩ = some (.int .i64 d0) := HG.out.cell 3
      have hf1 := HG.out.fr 1
      have hf3 := HG.out.fr 3
      have ALL := Lib.hid (And.intro e1 (And.intro e2 (And.intro EA.out (And.intro EB.out (And.intro EC.out (And.intro ED.out (And.intro HK.out (And.intro HP.out HG.out))))))))
      clear e1 e2 EA EB EC ED HK HP HG
      go_wp2
      generalize hW : (((wr.setCell ⟨w.heap.size, 0, none⟩ (.int .i64 x1)).setCell ⟨w.heap.size, 2, none⟩ (.int .i64 x2)).alloc (.cells #[.int .i64 p.1, .int .i64 p.2.1, .int .i64 p.2.2] 122)).drew = W1
      have HG1 : Hid (Growing w x1 b0 x2 d0 W1) := Lib.hid (by rw [← hW]; exact (ALL.out.2.2.2.2.2.2.2.2).half _ _ _)
      have k1 : W1.cell? ⟨w.heap.size, 1, none⟩ = some (.int .i64 b0) := HG1.out.cell 1
      have k3 : W1.cell? ⟨w.heap.size, 3, none⟩ = some (.int .i64 d0) := HG1.out.cell 3
      have kp : W1.cell? ⟨wr.heap.size, 1, none⟩ = some (.int .i64 p.2.1) := by
        have := pcell ((wr.setCell ⟨w.heap.size, 0, none⟩ (.int .i64 x1)).setCell ⟨w.heap.size, 2, none⟩ (.int .i64 x2)) (.int .i64 p.1) (.int .i64 p.2.1) (.int .i64 p.2.2) 122
        rw [show ((wr.setCell ⟨w.heap.size, 0, none⟩ (.int .i64 x1)).setCell ⟨w.heap.size, 2, none⟩ (.int .i64 x2)).heap.size = wr.heap.size by simp [World.setCell]] at this
        rw [← hW]
        exact this
      have kf1 := HG1.out.fr 1
      have kf3 := HG1.out.fr 3
      have hne : ¬ w.heap.size = wr.heap.size := by omega
      clear h1 h3 hf1 hf3 hW lz
      go_region
      clear k1 k3 kp kf1 kf3 hne
      obtain ⟨hlt, hcap⟩ := HLT.out
      clear HLT
      go_wp2
      go_roundw
      case rel =>
        obtain ⟨e1, e2, ea, eb, ec, ed, hpk, _, _⟩ := ALL.out
        refine ⟨k + 1, by omega, by go_num, Growing.cast (HG1.out.half2 _ _) ?_ ?_ ?_ ?_⟩
        · rw [gX1, ea, hpk, ← min_if, e1]
        · rw [gY1, eb, hpk, ← min_if]
        · rw [gX2, ec, hpk, ← max_if, e2]
        · rw [gY2, ed, hpk, ← max_if]
      case measure => simp [intOf]; omega
    · have HB := Lib.hid hG.below
      have h0 : wr.cell? ⟨w.heap.size, 0, none⟩ = some (.int .i64 (gX1 a pts k)) := hG.cell 0
      have h1 : wr.cell? ⟨w.heap.size, 1, none⟩ = some (.int .i64 (gY1 b pts k)) := hG.cell 1
      have h2 : wr.cell? ⟨w.heap.size, 2, none⟩ = some (.int .i64 (gX2 c pts k)) := hG.cell 2
      have h3 : wr.cell? ⟨w.heap.size, 3, none⟩ = some (.int .i64 (gY2 d pts k)) := hG.cell 3
      have r0 : wr.cell? ⟨w.heap.size + 1, 0, none⟩ = some (.int .i64 0) := hG.cell' 0
      have r1 : wr.cell? ⟨w.heap.size + 1, 1, none⟩ = some (.int .i64 0) := hG.cell' 1
      have r2 : wr.cell? ⟨w.heap.size + 1, 2, none⟩ = some (.int .i64 0) := hG.cell' 2
      have r3 : wr.cell? ⟨w.heap.size + 1, 3, none⟩ = some (.int .i64 0) := hG.cell' 3
      have hfr := hG.fr'
      have hz := hG.size
      clear hG
      have lz : w.heap.size < wr.heap.size := by omega
      have lz1 : w.heap.size + 1 < wr.heap.size := by omega
      obtain rfl : k = n := by omega
      go_wp2
      exact bodyPost_ret (v := box (gX1 a pts k) (gY1 b pts k) (gX2 c pts k) (gY2 d pts k)) (by simp [results, Try.results89, go_sem, r0, r1, r2, r3]) rfl ⟨rfl, (((HB.out.setCell (by simp) _).setCell (by simp) _).setCell (by simp) _).setCell (by simp) _⟩

set_option maxHeartbeats 1000000 in
theorem boxAt_calls (x y t : Int) (w : World) :
    Calls Try.prog 88 #[pt x y t] w fun e w' => e = .returned (box x y x y) ∧ Below w.heap.size w w' := by
  go_enter Try.func88, Try.ntmps88
  go_wp2
  exact bodyPost_ret (v := box x y x y) (by simp [results, Try.results88, go_sem]) rfl ⟨rfl, below_alloc2 _ _ _⟩
end Go.Proofs.Ytofgdgdmmlgmnaa.box
