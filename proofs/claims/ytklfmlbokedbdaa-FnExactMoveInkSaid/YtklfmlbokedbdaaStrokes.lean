/-
  Proved: what the functions that copy and compare strokes return (contracts of callees of the laws on strokes).
  Conditions: the points' coordinates are read out of the argument's memory.
-/
import Derived.Test.YtklfmlbokedbdaaPts
import Derived.Deep.RegionHeld3
namespace Go.Proofs.Ytklfmlbokedbdaa.strokes
open Go.ChangeShapes Go.WideShapes Go.ChangeAt Go.RowKit Go.Joins
open Go.Proofs.Ytklfmlbokedbdaa.join
set_option linter.unusedVariables false

abbrev pt (x y t : Int) : Value := .agg #[.int .i64 x, .int .i64 y, .int .i64 t]
/-- The points that a slice of the argument's memory reads as. -/
def ArgPts (w : World) (A : Option Addr) (pts : List P3) : Prop :=
  ∀ (i : Nat) (p : P3), pts[i]? = some p → ∃ b o : Nat, A = some ⟨b, o, none⟩ ∧ b < w.heap.size ∧ w.cell? ⟨b, o + i * 3, none⟩ = some (.int .i64 p.1) ∧ w.cell? ⟨b, o + i * 3 + 1, none⟩ = some (.int .i64 p.2.1) ∧ w.cell? ⟨b, o + i * 3 + 2, none⟩ = some (.int .i64 p.2.2)
theorem ArgPts.below {w w' : World} {A : Option Addr} {pts : List P3} (h : ArgPts w A pts) (hb : Below w.heap.size w w') : ArgPts w' A pts := fun i p hi => by
  obtain ⟨b, o, rfl, hlt, h1, h2, h3⟩ := h i p hi
  exact ⟨b, o, rfl, Nat.lt_of_lt_of_le hlt hb.size, (hb.cell hlt).trans h1, (hb.cell hlt).trans h2, (hb.cell hlt).trans h3⟩

theorem _root_.Go.Proofs.Ytklfmlbokedbdaa.join.Pts.far {w : World} {g : Nat} {pts : List P3} (h : Pts w g pts) {b i : Nat} (hb : b ≠ g) (v : Value) : Pts (w.setCell ⟨b, i, none⟩ v) g pts := fun j p hj => by
  obtain ⟨h1, h2, h3⟩ := h j p hj
  refine ⟨?_, ?_, ?_⟩
  · rw [World.cell?_setCell_far w ⟨b, i, none⟩ _ v hb]; exact h1
  · rw [World.cell?_setCell_far w ⟨b, i, none⟩ _ v hb]; exact h2
  · rw [World.cell?_setCell_far w ⟨b, i, none⟩ _ v hb]; exact h3

set_option maxHeartbeats 1000000 in
theorem toPoint_calls (x y t : Int) (w : World) :
    Calls Try.prog 80 #[pt x y t] w fun e w' => e = .returned (pt x y t) ∧ Below w.heap.size w w' := by
  go_enter Try.func80, Try.ntmps80
  go_wp2
  exact bodyPost_ret (v := pt x y t) (by simp [results, Try.results80, go_sem]) rfl ⟨rfl, below_alloc3 _ _ _ _⟩

/-- What a round of the copying loop finds: the new row has its first k points. -/
structure Copying (w : World) (n : Nat) (pts : List P3) (k : Nat) (w' : World) : Prop where
  below : Below w.heap.size w w'
  row : ∃ cur : Array Value, w'.heap[w.heap.size]? = some (.cells cur 71 (0, 0)) ∧ cur.size = n * 3 ∧
    ∀ (i : Nat) (p : P3), i < k → pts[i]? = some p → cur[i * 3]? = some (.int .i64 p.1) ∧ cur[i * 3 + 1]? = some (.int .i64 p.2.1) ∧ cur[i * 3 + 2]? = some (.int .i64 p.2.2)
theorem Copying.lt {w : World} {n : Nat} {pts : List P3} {k : Nat} {w' : World} (h : Copying w n pts k w') : w.heap.size < w'.heap.size := by
  obtain ⟨cur, hc, _⟩ := h.row
  exact (Array.getElem?_eq_some_iff.1 hc).1
theorem Copying.at_ {w : World} {n : Nat} {pts : List P3} {k : Nat} {w' : World} (h : Copying w n pts k w') (hk : k < n) :
    (∃ v0 v1 v2, w'.cell? ⟨w.heap.size, k * 3, none⟩ = some v0 ∧ w'.cell? ⟨w.heap.size, k * 3 + 1, none⟩ = some v1 ∧ w'.cell? ⟨w.heap.size, k * 3 + 2, none⟩ = some v2) ∧ ∀ o, w'.frozen? ⟨w.heap.size, o, none⟩ = false := by
  obtain ⟨cur, hc, hs, _⟩ := h.row
  refine ⟨⟨cur[k * 3]'(by omega), cur[k * 3 + 1]'(by omega), cur[k * 3 + 2]'(by omega), ?_, ?_, ?_⟩, unfrozen_of_block hc⟩
  · rw [cell_of_block hc]; exact Array.getElem?_eq_getElem _
  · rw [cell_of_block hc]; exact Array.getElem?_eq_getElem _
  · rw [cell_of_block hc]; exact Array.getElem?_eq_getElem _
theorem Copying.kept {w : World} {n : Nat} {pts : List P3} {k : Nat} {w' w2 : World} (h : Copying w n pts k w') (hb : Below w'.heap.size w' w2) : Copying w n pts k w2 := by
  obtain ⟨cur, hc, hs, hp⟩ := h.row
  exact ⟨h.below.trans (hb.mono h.below.size), cur, (hb.block _ h.lt).trans hc, hs, hp⟩
theorem Copying.step {w : World} {n : Nat} {pts : List P3} {k : Nat} {w2 : World} (h : Copying w n pts k w2) (hk : k < n) (p : P3) (hp : pts[k]? = some p) :
    Copying w n pts (k + 1) (((w2.setCell ⟨w.heap.size, k * 3, none⟩ (.int .i64 p.1)).setCell ⟨w.heap.size, k * 3 + 1, none⟩ (.int .i64 p.2.1)).setCell ⟨w.heap.size, k * 3 + 2, none⟩ (.int .i64 p.2.2)) := by
  obtain ⟨cur, hc, hs, hpt⟩ := h.row
  have s1 := block_setCell (i := k * 3) hc (.int .i64 p.1)
  have s2 := block_setCell (i := k * 3 + 1) s1 (.int .i64 p.2.1)
  have s3 := block_setCell (i := k * 3 + 2) s2 (.int .i64 p.2.2)
  refine ⟨((h.below.setCell (Nat.le_refl _) _).setCell (Nat.le_refl _) _).setCell (Nat.le_refl _) _, _, s3, by simp [hs], ?_⟩
  intro i q hi hq
  by_cases e : i = k
  · subst e
    obtain rfl : p = q := by rw [hp] at hq; injection hq
    simp [Array.getElem?_setIfInBounds]
    omega
  · obtain ⟨h1, h2, h3⟩ := hpt i q (by omega) hq
    rw [Array.getElem?_setIfInBounds_ne (by omega), Array.getElem?_setIfInBounds_ne (by omega), Array.getElem?_setIfInBounds_ne (by omega), Array.getElem?_setIfInBounds_ne (by omega), Array.getElem?_setIfInBounds_ne (by omega), Array.getElem?_setIfInBounds_ne (by omega), Array.getElem?_setIfInBounds_ne (by omega), Array.getElem?_setIfInBounds_ne (by omega), Array.getElem?_setIfInBounds_ne (by omega)]
    exact ⟨h1, h2, h3⟩
theorem Copying.pts {w : World} {n : Nat} {pts : List P3} {k : Nat} {w' : World} (h : Copying w n pts k w') (hk : pts.length ≤ k) : Pts w' w.heap.size pts := by
  obtain ⟨cur, hc, hs, hp⟩ := h.row
  intro i p hi
  have hlt : i < pts.length := (List.getElem?_eq_some_iff.1 hi).1
  rw [cell_of_block hc, cell_of_block hc, cell_of_block hc]
  exact hp i p (by omega) hi

theorem infoPoint : (Try.prog.info? 71).map (fun i => (i.zero, i.size, i.bytes)) = some (some (.agg #[.int .i64 0, .int .i64 0, .int .i64 0]), 3, 24) := by kernel_rfl
theorem make_points (n : Nat) (hn : n ≤ 1048576) (w : World) : ∃ cur : Array Value, cur.size = n * 3 ∧
    (Instr.makeSlice 27 (.int .i64 (n : Int)) (.int .i64 (n : Int))).run Try.prog w = .ok (.slice (some ⟨w.heap.size, 0, none⟩) n n) (w.alloc (.cells cur 71)) := by
  obtain ⟨i0, hi, hz0, hz1, hz2⟩ := info_parts infoPoint
  have hr := run_make (P := Try.prog) w 27 71 i0 _ Try.underlying27 hi hz0 .i64 .i64 n n (by omega) (by omega) (by rw [hz2]; omega) (by omega)
  simp only [Int.toNat_natCast] at hr
  refine ⟨_, ?_, hr⟩
  rw [hz1]
  simp [madeCells]

set_option maxRecDepth 100000 in
set_option maxHeartbeats 2000000 in
theorem toPointS_calls (A : Option Addr) (n cap : Nat) (pts : List P3) (w : World) (hn : pts.length = n) (hcap : n ≤ 1048576) (hp : ArgPts w A pts) :
    Calls Try.prog 49 #[.slice A n cap] w fun e w' => ∃ g, e = .returned (.slice (some ⟨g, 0, none⟩) n n) ∧ w.heap.size ≤ g ∧ g < w'.heap.size ∧ Pts w' g pts ∧ Below w.heap.size w w' := by
  have HN := Lib.hid hn
  have HP := Lib.hid hp
  clear hn hp
  obtain ⟨cur, hcs, hmk⟩ := make_points n hcap w
  have HC := Lib.hid hcs
  clear hcs
  go_enter Try.func49, Try.ntmps49
  go_wp2
  go_loopw [4] (fun i w' => ∃ k : Nat, k ≤ n ∧ i = .int .i64 k ∧ Copying w n pts k w') (fun i _ => n - (intOf i).toNat)
  case atStart => exact ⟨0, Nat.zero_le _, rfl, below_alloc1 _ _, cur, heap_alloc_new w _, HC.out, fun i p hi => absurd hi (by omega)⟩
  case round =>
    obtain ⟨k, hk, rfl, hG⟩ := hrel
    clear hmk
    have HG := Lib.hid hG
    clear hG
    by_cases hlt : k < n
    · have hkl : k < pts.length := by rw [HN.out]; exact hlt
      obtain ⟨b, o, rfl, hbl, p0, p1, p2⟩ := HP.out k pts[k] (List.getElem?_eq_getElem hkl)
      generalize hpk : pts[k] = p at p0 p1 p2
      have HK := Lib.hid (show pts[k]? = some p by rw [List.getElem?_eq_getElem hkl, hpk])
      clear hpk
      have q0 := (HG.out.below.cell (p := ⟨b, o + k * 3, none⟩) hbl).trans p0
      have q1 := (HG.out.below.cell (p := ⟨b, o + k * 3 + 1, none⟩) hbl).trans p1
      have q2 := (HG.out.below.cell (p := ⟨b, o + k * 3 + 2, none⟩) hbl).trans p2
      clear p0 p1 p2
      go_wp2_with fail
      refine (toPoint_calls p.1 p.2.1 p.2.2 _).mono ?_
      rintro e w2 ⟨rfl, hb2⟩
      have HG2 := Lib.hid (HG.out.kept hb2)
      clear hb2 q0 q1 q2
      obtain ⟨⟨v0, v1, v2, c0, c1, c2⟩, hfz⟩ := HG2.out.at_ hlt
      go_wp2
      go_roundw
      case rel => exact ⟨k + 1, by omega, by go_num, HG2.out.step hlt p HK.out⟩
      case measure => simp [intOf]; omega
    · go_wp2
      go_ret
      exact ⟨_, rfl, Nat.le_refl _, HG.out.lt, HG.out.pts (by rw [HN.out]; omega), HG.out.below⟩

abbrev stroke (g n : Nat) : Value := .agg #[.slice (some ⟨g, 0, none⟩) n n]
set_option maxHeartbeats 1000000 in
theorem toStroke_calls (A : Option Addr) (n cap : Nat) (pts : List P3) (w : World) (hn : pts.length = n) (hcap : n ≤ 1048576) (hp : ArgPts w A pts) :
    Calls Try.prog 16 #[.agg #[.slice A n cap]] w fun e w' => ∃ g, e = .returned (stroke g n) ∧ w.heap.size ≤ g ∧ g < w'.heap.size ∧ Pts w' g pts ∧ Below w.heap.size w w' := by
  have HN := Lib.hid hn
  have HP := Lib.hid hp
  clear hn hp
  go_enter Try.func16, Try.ntmps16
  go_wp2_with fail
  refine (toPointS_calls A n cap pts _ HN.out hcap (HP.out.below (below_alloc3 _ _ _ _))).mono ?_
  rintro e w1 ⟨g, rfl, hg0, hg1, hpt, hb⟩
  have HPT := Lib.hid hpt
  have hz := hb.size
  simp at hz hg0
  have lz : w.heap.size + 1 + 1 < w1.heap.size := by omega
  have lz1 : w.heap.size + 1 < w1.heap.size := by omega
  obtain ⟨hc, hf⟩ : (∀ b o, b < w.heap.size + 1 + 1 + 1 → w1.cell? ⟨b, o, none⟩ = (((w.alloc (.cells #[.slice A n cap] 24)).alloc (.cells #[.slice none 0 0] 29)).alloc (.cells #[.slice none 0 0] 29)).cell? ⟨b, o, none⟩) ∧ (∀ b o, b < w.heap.size + 1 + 1 + 1 → w1.frozen? ⟨b, o, none⟩ = (((w.alloc (.cells #[.slice A n cap] 24)).alloc (.cells #[.slice none 0 0] 29)).alloc (.cells #[.slice none 0 0] 29)).frozen? ⟨b, o, none⟩) :=
    ⟨fun b o h => hb.cell (p := ⟨b, o, none⟩) (by simpa using h), fun b o h => hb.frozen (p := ⟨b, o, none⟩) (by simpa using h)⟩
  have HB := Lib.hid ((below_alloc3 w _ _ _).trans (hb.mono (below_alloc3 w _ _ _).size))
  clear hb hpt hz
  have r1 : w.heap.size + 1 < w.heap.size + 1 + 1 + 1 := by omega
  have r2 : w.heap.size + 1 + 1 < w.heap.size + 1 + 1 + 1 := by omega
  go_wp2
  refine bodyPost_ret (v := stroke g n) (by simp [results, Try.results16, go_sem, hc]) rfl ⟨g, rfl, by omega, by simpa [World.setCell] using hg1, ?_, (HB.out.setCell (show w.heap.size ≤ w.heap.size + 1 + 1 by omega) _).setCell (show w.heap.size ≤ w.heap.size + 1 by omega) _⟩
  exact (HPT.out.far (show w.heap.size + 1 + 1 ≠ g by omega) _).far (show w.heap.size + 1 ≠ g by omega) _

set_option maxHeartbeats 1000000 in
theorem szStroke_calls (A : Option Addr) (n cap : Nat) (w : World) (hcap : n ≤ 9223372036854775807) :
    Calls Try.prog 14 #[.agg #[.slice A n cap], .int .i64 1048576] w fun e w' => e = .returned (.int .i64 (if n ≤ 1048576 then 1048576 - (n : Int) else -1)) ∧ Below w.heap.size w w' := by
  by_cases h : n ≤ 1048576
  · have h' : ¬ (1048576 - (n : Int) < 0) := by omega
    go_enter Try.func14, Try.ntmps14
    go_wp2
    go_ret
    exact ⟨rfl, below_alloc1 _ _⟩
  · have h' : 1048576 - (n : Int) < 0 := by omega
    go_enter Try.func14, Try.ntmps14
    go_wp2
    go_ret
    exact ⟨rfl, below_alloc1 _ _⟩

theorem eqPoint_same (x y t : Int) (w : World) : Calls Try.prog 81 #[pt x y t, pt x y t] w fun e w' => e = .returned (.bool true) ∧ Below w.heap.size w w' := by
  go_enter Try.func81, Try.ntmps81
  go_wp2
  go_ret
  exact ⟨rfl, below_alloc2 _ _ _⟩

theorem keep6 {w W w' : World} {g g' k : Nat} {p : P3} (hg : g < w.heap.size) (hg' : g' < w.heap.size) (hb : Below W.heap.size W w') (h : (Below w.heap.size w W ∧ W.cell? ⟨g, k * 3, none⟩ = some (.int .i64 p.1) ∧ W.cell? ⟨g, k * 3 + 1, none⟩ = some (.int .i64 p.2.1) ∧ W.cell? ⟨g, k * 3 + 2, none⟩ = some (.int .i64 p.2.2) ∧ W.cell? ⟨g', k * 3, none⟩ = some (.int .i64 p.1) ∧ W.cell? ⟨g', k * 3 + 1, none⟩ = some (.int .i64 p.2.1) ∧ W.cell? ⟨g', k * 3 + 2, none⟩ = some (.int .i64 p.2.2))) : (Below w.heap.size w w' ∧ w'.cell? ⟨g, k * 3, none⟩ = some (.int .i64 p.1) ∧ w'.cell? ⟨g, k * 3 + 1, none⟩ = some (.int .i64 p.2.1) ∧ w'.cell? ⟨g, k * 3 + 2, none⟩ = some (.int .i64 p.2.2) ∧ w'.cell? ⟨g', k * 3, none⟩ = some (.int .i64 p.1) ∧ w'.cell? ⟨g', k * 3 + 1, none⟩ = some (.int .i64 p.2.1) ∧ w'.cell? ⟨g', k * 3 + 2, none⟩ = some (.int .i64 p.2.2)) := by
  obtain ⟨hB, h0, h1, h2, h3, h4, h5⟩ := h
  have hs := hB.size
  have k0 : ∀ o, w'.cell? ⟨g, o, none⟩ = W.cell? ⟨g, o, none⟩ := fun o => hb.cell (p := ⟨g, o, none⟩) (show g < W.heap.size by omega)
  have k1 : ∀ o, w'.cell? ⟨g', o, none⟩ = W.cell? ⟨g', o, none⟩ := fun o => hb.cell (p := ⟨g', o, none⟩) (show g' < W.heap.size by omega)
  exact ⟨hB.trans (hb.mono hB.size), (k0 _).trans h0, (k0 _).trans h1, (k0 _).trans h2, (k1 _).trans h3, (k1 _).trans h4, (k1 _).trans h5⟩
theorem drew6 {w W : World} {g g' k : Nat} {p : P3} (h : (Below w.heap.size w W ∧ W.cell? ⟨g, k * 3, none⟩ = some (.int .i64 p.1) ∧ W.cell? ⟨g, k * 3 + 1, none⟩ = some (.int .i64 p.2.1) ∧ W.cell? ⟨g, k * 3 + 2, none⟩ = some (.int .i64 p.2.2) ∧ W.cell? ⟨g', k * 3, none⟩ = some (.int .i64 p.1) ∧ W.cell? ⟨g', k * 3 + 1, none⟩ = some (.int .i64 p.2.1) ∧ W.cell? ⟨g', k * 3 + 2, none⟩ = some (.int .i64 p.2.2))) : (Below w.heap.size w W.drew ∧ W.drew.cell? ⟨g, k * 3, none⟩ = some (.int .i64 p.1) ∧ W.drew.cell? ⟨g, k * 3 + 1, none⟩ = some (.int .i64 p.2.1) ∧ W.drew.cell? ⟨g, k * 3 + 2, none⟩ = some (.int .i64 p.2.2) ∧ W.drew.cell? ⟨g', k * 3, none⟩ = some (.int .i64 p.1) ∧ W.drew.cell? ⟨g', k * 3 + 1, none⟩ = some (.int .i64 p.2.1) ∧ W.drew.cell? ⟨g', k * 3 + 2, none⟩ = some (.int .i64 p.2.2)) := ⟨h.1.drew, h.2⟩

set_option maxRecDepth 100000 in
set_option maxHeartbeats 2000000 in
theorem eqPointS_same (g g' n c c' : Nat) (pts : List P3) (w : World) (hn : pts.length = n) (hcap : n ≤ 1048576) (hg : g < w.heap.size) (hg' : g' < w.heap.size) (hp : Pts w g pts) (hp' : Pts w g' pts) :
    Calls Try.prog 51 #[.slice (some ⟨g, 0, none⟩) n c, .slice (some ⟨g', 0, none⟩) n c'] w fun e w' => e = .returned (.bool true) ∧ Below w.heap.size w w' := by
  have HN := Lib.hid hn
  have HP := Lib.hid hp
  have HP' := Lib.hid hp'
  clear hn hp hp'
  go_enter Try.func51, Try.ntmps51
  go_wp2
  go_loopw [5] (fun i w' => ∃ k : Nat, k ≤ n ∧ i = .int .i64 k ∧ Hid (Below w.heap.size w w')) (fun i _ => n - (intOf i).toNat)
  case atStart => exact ⟨0, Nat.zero_le _, rfl, Lib.hid (Below.refl _ _)⟩
  case round =>
    obtain ⟨k, hk, rfl, HB⟩ := hrel
    by_cases hlt : k < n
    · have hkl : k < pts.length := by rw [HN.out]; exact hlt
      obtain ⟨p0, p1, p2⟩ := HP.out k pts[k] (List.getElem?_eq_getElem hkl)
      obtain ⟨r0, r1, r2⟩ := HP'.out k pts[k] (List.getElem?_eq_getElem hkl)
      generalize pts[k] = p at p0 p1 p2 r0 r1 r2
      have hS : (Below w.heap.size w wr ∧ wr.cell? ⟨g, k * 3, none⟩ = some (.int .i64 p.1) ∧ wr.cell? ⟨g, k * 3 + 1, none⟩ = some (.int .i64 p.2.1) ∧ wr.cell? ⟨g, k * 3 + 2, none⟩ = some (.int .i64 p.2.2) ∧ wr.cell? ⟨g', k * 3, none⟩ = some (.int .i64 p.1) ∧ wr.cell? ⟨g', k * 3 + 1, none⟩ = some (.int .i64 p.2.1) ∧ wr.cell? ⟨g', k * 3 + 2, none⟩ = some (.int .i64 p.2.2)) := ⟨HB.out, (HB.out.cell hg).trans p0, (HB.out.cell hg).trans p1, (HB.out.cell hg).trans p2, (HB.out.cell hg').trans r0, (HB.out.cell hg').trans r1, (HB.out.cell hg').trans r2⟩
      clear p0 p1 p2 r0 r1 r2 HP HP'
      have hli : (k : Int) < (n : Int) := by omega
      go_wp2
      go_region_held3 (fun w' => (Below w.heap.size w w' ∧ w'.cell? ⟨g, k * 3, none⟩ = some (.int .i64 p.1) ∧ w'.cell? ⟨g, k * 3 + 1, none⟩ = some (.int .i64 p.2.1) ∧ w'.cell? ⟨g, k * 3 + 2, none⟩ = some (.int .i64 p.2.2) ∧ w'.cell? ⟨g', k * 3, none⟩ = some (.int .i64 p.1) ∧ w'.cell? ⟨g', k * 3 + 1, none⟩ = some (.int .i64 p.2.1) ∧ w'.cell? ⟨g', k * 3 + 2, none⟩ = some (.int .i64 p.2.2))) (first | assumption | exact drew6 hS | go_keep)
        (first | (go_at_call 81; refine (eqPoint_same _ _ _ _).mono ?_; rintro e w' ⟨rfl, hb⟩; have hk6 := keep6 hg hg' hb (by assumption)))
      rename_i hh
      have HB2 := Lib.hid hh.1
      clear hh hS
      go_wp2
      go_roundw
      case rel => exact ⟨k + 1, by omega, by go_num, HB2⟩
      case measure => simp [intOf]; omega
    · go_wp2
      go_ret
      exact ⟨rfl, HB.out⟩

theorem eqStroke_same (g g' n : Nat) (pts : List P3) (w : World) (hn : pts.length = n) (hcap : n ≤ 1048576) (hg : g < w.heap.size) (hg' : g' < w.heap.size) (hp : Pts w g pts) (hp' : Pts w g' pts) :
    Calls Try.prog 18 #[stroke g n, stroke g' n] w fun e w' => e = .returned (.bool true) ∧ Below w.heap.size w w' := by
  have HN := Lib.hid hn
  have HP := Lib.hid (hp.below (below_alloc2 w (.cells #[.slice (some ⟨g, 0, none⟩) n n] 29) (.cells #[.slice (some ⟨g', 0, none⟩) n n] 29)) hg)
  have HP' := Lib.hid (hp'.below (below_alloc2 w (.cells #[.slice (some ⟨g, 0, none⟩) n n] 29) (.cells #[.slice (some ⟨g', 0, none⟩) n n] 29)) hg')
  clear hn hp hp'
  go_enter Try.func18, Try.ntmps18
  go_wp2_with fail
  refine (eqPointS_same g g' n n n pts _ HN.out hcap (by simp; omega) (by simp; omega) HP.out HP'.out).mono ?_
  rintro e w1 ⟨rfl, hb⟩
  have HB := Lib.hid ((below_alloc2 w _ _).trans (hb.mono (below_alloc2 w _ _).size))
  clear hb
  go_wp2
  go_ret
  exact ⟨rfl, HB.out⟩
end Go.Proofs.Ytklfmlbokedbdaa.strokes
