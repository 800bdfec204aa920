/-
  Proved: the box of a stroke, as the program's function returns it; both functions that ask whether a stroke is a dot.
  Conditions: the stroke does not have too many points.
-/
import Derived.Test.YtofgdgdmmlgmnaaBxS
namespace Go.Proofs.Ytofgdgdmmlgmnaa.bxs
open Go.ChangeShapes Go.WideShapes Go.ChangeAt Go.RowKit Go.Joins
open Go.Proofs.Ytofgdgdmmlgmnaa.core Go.Proofs.Ytofgdgdmmlgmnaa.stk Go.Proofs.Ytofgdgdmmlgmnaa.box
set_option linter.unusedVariables false
set_option linter.unusedSimpArgs false
theorem mixedX : Try.prog.follows .mixedOrders = true := by kernel_rfl
/-- The four cells of a result that has not been written. -/
theorem fourR {W : World} {B : Nat} {a b c d a' b' c' d' : Value} {E : TypeId} (h : W.heap[B]? = some (.cells #[a, b, c, d] E (0, 0))) :
    (((((W.setCell ⟨B, 0, none⟩ a').setCell ⟨B, 1, none⟩ b').setCell ⟨B, 2, none⟩ c').setCell ⟨B, 3, none⟩ d').heap[B]? = some (.cells #[a', b', c', d'] E (0, 0))) := by
  have s1 := block_setCell (i := 0) h a'
  have s2 := block_setCell (i := 1) s1 b'
  have s3 := block_setCell (i := 2) s2 c'
  have s4 := block_setCell (i := 3) s3 d'
  rw [s4]; rfl
set_option maxRecDepth 100000 in
set_option maxHeartbeats 4000000 in
theorem boxI_no {c : Nat} (A : Option Addr) (n : Nat) (pts : Nat → P3) (w : World) (hcap : n ≤ 1048576) (hp : PtsAt w A n pts) (hv : vS n pts = false) :
    Calls Try.prog 62 #[.agg #[.slice A n c]] w fun e w' => e = .returned (.tuple #[box 0 0 0 0, .int .i64 1]) ∧ Below w.heap.size w w' := by
  have BL := Lib.hid (below_alloc2 w (.cells #[.slice A n c] 57) (.cells #[.int .i64 0, .int .i64 0, .int .i64 0, .int .i64 0] 90))
  have KB := Lib.hid (heap_alloc_new (w.alloc (.cells #[.slice A n c] 57)) (.cells #[.int .i64 0, .int .i64 0, .int .i64 0, .int .i64 0] 90))
  have hsz : (w.alloc (.cells #[.slice A n c] 57)).heap.size = w.heap.size + 1 := by simp
  rw [hsz] at KB
  have HV := Lib.hid (implValid_calls (c := c) A n pts _ hcap (hp.kept BL.out))
  rw [hv] at HV
  clear hp hv hsz
  go_enter Try.func62, Try.ntmps62
  go_wp2_with fail
  refine HV.out.mono ?_
  rintro e w1 ⟨rfl, hb⟩
  have HB := Lib.hid (BL.out.trans (hb.mono BL.out.size))
  have K1 := Lib.hid ((hb.block (w.heap.size + 1) (by simp)).trans KB.out)
  have k0 : w1.cell? ⟨w.heap.size + 1, 0, none⟩ = some (.int .i64 0) := by rw [cell_of_block K1.out]; rfl
  have k1 : w1.cell? ⟨w.heap.size + 1, 1, none⟩ = some (.int .i64 0) := by rw [cell_of_block K1.out]; rfl
  have k2 : w1.cell? ⟨w.heap.size + 1, 2, none⟩ = some (.int .i64 0) := by rw [cell_of_block K1.out]; rfl
  have k3 : w1.cell? ⟨w.heap.size + 1, 3, none⟩ = some (.int .i64 0) := by rw [cell_of_block K1.out]; rfl
  have kf := fun o => unfrozen_of_block K1.out o
  have kz := (Array.getElem?_eq_some_iff.1 K1.out).1
  clear hb HV KB
  go_wp2
  exact bodyPost_ret (v := .tuple #[box 0 0 0 0, .int .i64 1]) (by simp [results, Try.results62, go_sem, k0, k1, k2, k3]) rfl ⟨rfl, (((HB.out.setCell (by simp) _).setCell (by simp) _).setCell (by simp) _).setCell (by simp) _⟩
/-- What the drawn statement of BoxOfStroke keeps. -/
structure InvX (w : World) (g o n : Nat) (pts : Nat → P3) (W : World) : Prop where
  below : Below w.heap.size w W
  z : w.heap.size + 1 < W.heap.size
  g0 : g < w.heap.size
  row : PtsAt w (some ⟨g, o, none⟩) n pts
  res : ∃ v0 v1 v2 v3, W.heap[w.heap.size + 1]? = some (.cells #[v0, v1, v2, v3] 90 (0, 0))
abbrev SX (w : World) (g o c n : Nat) (x y t : Int) (pts : Nat → P3) (W : World) : Prop :=
  W.cell? ⟨w.heap.size, 0, none⟩ = some (.slice (some ⟨g, o, none⟩) n c) ∧ W.cell? ⟨g, o, none⟩ = some (.int .i64 x) ∧ W.cell? ⟨g, o + 1, none⟩ = some (.int .i64 y) ∧ W.cell? ⟨g, o + 2, none⟩ = some (.int .i64 t) ∧ InvX w g o n pts W
section
variable {w : World} {g o c n : Nat} {x y t : Int} {pts : Nat → P3} {W W' : World}
theorem SX_kept (hb : Below W.heap.size W W') (h : SX w g o c n x y t pts W) : SX w g o c n x y t pts W' := by
  obtain ⟨h0, h1, h2, h3, hi⟩ := h
  have gz : g < W.heap.size := Nat.lt_of_lt_of_le hi.g0 hi.below.size
  have z := hi.z
  have := hb.size
  obtain ⟨v0, v1, v2, v3, hr⟩ := hi.res
  exact ⟨(hb.cell (p := ⟨w.heap.size, 0, none⟩) (show w.heap.size < W.heap.size by omega)).trans h0, (hb.cell (p := ⟨g, o, none⟩) gz).trans h1, (hb.cell (p := ⟨g, o + 1, none⟩) gz).trans h2, (hb.cell (p := ⟨g, o + 2, none⟩) gz).trans h3,
    ⟨hi.below.trans (hb.mono hi.below.size), by omega, hi.g0, hi.row, v0, v1, v2, v3, (hb.block _ z).trans hr⟩⟩
theorem SX_drew (h : SX w g o c n x y t pts W) : SX w g o c n x y t pts W.drew := SX_kept (Below.refl _ _).drew h
theorem SX_row (h : SX w g o c n x y t pts W) : PtsAt W (some ⟨g, o, none⟩) n pts := h.2.2.2.2.row.kept h.2.2.2.2.below
theorem SX_below (h : SX w g o c n x y t pts W) : Below w.heap.size w W := h.2.2.2.2.below
theorem SX_res (h : SX w g o c n x y t pts W) : w.heap.size + 1 < W.heap.size ∧ ∃ v0 v1 v2 v3, W.cell? ⟨w.heap.size + 1, 0, none⟩ = some v0 ∧ W.cell? ⟨w.heap.size + 1, 1, none⟩ = some v1 ∧ W.cell? ⟨w.heap.size + 1, 2, none⟩ = some v2 ∧ W.cell? ⟨w.heap.size + 1, 3, none⟩ = some v3 ∧ ∀ i, W.frozen? ⟨w.heap.size + 1, i, none⟩ = false := by
  obtain ⟨v0, v1, v2, v3, hr⟩ := h.2.2.2.2.res
  exact ⟨h.2.2.2.2.z, v0, v1, v2, v3, cell_of_block hr 0, cell_of_block hr 1, cell_of_block hr 2, cell_of_block hr 3, unfrozen_of_block hr⟩
theorem farX {w : World} {g b o i : Nat} {v : Value} (h : b ≠ g) : (w.setCell ⟨g, i, none⟩ v).cell? ⟨b, o, none⟩ = w.cell? ⟨b, o, none⟩ := World.cell?_setCell_far w ⟨g, i, none⟩ ⟨b, o, none⟩ v (Ne.symm h)
set_option maxHeartbeats 1000000 in
theorem SX_set {x0 x1 x2 x3 : Value} (h : SX w g o c n x y t pts W) : SX w g o c n x y t pts ((((W.setCell ⟨w.heap.size + 1, 0, none⟩ x0).setCell ⟨w.heap.size + 1, 1, none⟩ x1).setCell ⟨w.heap.size + 1, 2, none⟩ x2).setCell ⟨w.heap.size + 1, 3, none⟩ x3) := by
  obtain ⟨h0, h1, h2, h3, hi⟩ := h
  have g0 := hi.g0
  have z := hi.z
  obtain ⟨v0, v1, v2, v3, hr⟩ := hi.res
  have n0 : w.heap.size ≠ w.heap.size + 1 := by omega
  have n1 : g ≠ w.heap.size + 1 := by omega
  have hle : w.heap.size ≤ w.heap.size + 1 := by omega
  refine ⟨?_, ?_, ?_, ?_, ⟨(((hi.below.setCell hle _).setCell hle _).setCell hle _).setCell hle _, by simpa [World.setCell] using z, g0, hi.row, x0, x1, x2, x3, fourR hr⟩⟩
  all_goals
    rw [farX (by assumption), farX (by assumption), farX (by assumption), farX (by assumption)]
    assumption
end
set_option maxRecDepth 100000 in
set_option maxHeartbeats 8000000 in
theorem boxI_yes {c : Nat} (A : Option Addr) (n : Nat) (pts : Nat → P3) (w : World) (hcap : n ≤ 1048576) (hp : PtsAt w A n pts) (hv : vS n pts = true) :
    Calls Try.prog 62 #[.agg #[.slice A n c]] w fun e w' => e = .returned (.tuple #[bx n pts, .int .i64 0]) ∧ Below w.heap.size w w' := by
  obtain ⟨h1, h60, -⟩ := vS_of hv
  have BL := Lib.hid (below_alloc2 w (.cells #[.slice A n c] 57) (.cells #[.int .i64 0, .int .i64 0, .int .i64 0, .int .i64 0] 90))
  have KB := Lib.hid (heap_alloc_new (w.alloc (.cells #[.slice A n c] 57)) (.cells #[.int .i64 0, .int .i64 0, .int .i64 0, .int .i64 0] 90))
  have hsz : (w.alloc (.cells #[.slice A n c] 57)).heap.size = w.heap.size + 1 := by simp
  rw [hsz] at KB
  have HV := Lib.hid (implValid_calls (c := c) A n pts _ hcap (hp.kept BL.out))
  rw [hv] at HV
  obtain ⟨g, o, rfl, hg, p0, p1, p2⟩ := hp 0 (by omega)
  simp only [Nat.zero_mul, Nat.add_zero] at p0 p1 p2
  obtain ⟨x, hx⟩ : ∃ x, (pts 0).1 = x := ⟨_, rfl⟩
  obtain ⟨y, hy⟩ : ∃ y, (pts 0).2.1 = y := ⟨_, rfl⟩
  obtain ⟨t, ht⟩ : ∃ t, (pts 0).2.2 = t := ⟨_, rfl⟩
  rw [hx] at p0
  rw [hy] at p1
  rw [ht] at p2
  have HS0 := Lib.hid (show SX w g o c n x y t pts ((w.alloc (.cells #[.slice (some ⟨g, o, none⟩) n c] 57)).alloc (.cells #[.int .i64 0, .int .i64 0, .int .i64 0, .int .i64 0] 90)) from
    ⟨by simp, (BL.out.cell (p := ⟨g, o, none⟩) hg).trans p0, (BL.out.cell (p := ⟨g, o + 1, none⟩) hg).trans p1, (BL.out.cell (p := ⟨g, o + 2, none⟩) hg).trans p2, ⟨BL.out, by simp, hg, hp, _, _, _, _, KB.out⟩⟩)
  have HA := Lib.hid (fun W => boxAt_calls x y t W)
  have HG := Lib.hid (fun W (h : PtsAt W (some ⟨g, o, none⟩) n pts) => grown_calls x y x y (some ⟨g, o, none⟩) n c pts W (by omega) h)
  have HBX := Lib.hid (show bx n pts = box (gX1 x pts n) (gY1 y pts n) (gX2 x pts n) (gY2 y pts n) by unfold bx bX1 bY1 bX2 bY2; rw [hx, hy])
  have hni : (0 : Int) < (n : Int) := by omega
  have h0n : 0 < n := by omega
  obtain ⟨a', ha⟩ : ∃ z, gX1 x pts n = z := ⟨_, rfl⟩
  obtain ⟨b', hb'⟩ : ∃ z, gY1 y pts n = z := ⟨_, rfl⟩
  obtain ⟨c', hc'⟩ : ∃ z, gX2 x pts n = z := ⟨_, rfl⟩
  obtain ⟨d', hd'⟩ : ∃ z, gY2 y pts n = z := ⟨_, rfl⟩
  rw [ha, hb', hc', hd'] at HG HBX
  clear hp hv hsz p0 p1 p2 hx hy ht ha hb' hc' hd' KB
  go_enter Try.func62, Try.ntmps62
  go_wp2_with fail
  refine HV.out.mono ?_
  rintro e w1 ⟨rfl, hb⟩
  have hk := SX_kept hb HS0.out
  clear hb HV HS0 BL
  obtain ⟨s0, s1, s2, s3, -⟩ := id hk
  go_wp2
  clear s0 s1 s2 s3
  go_region_held3 (fun W => W.cell? ⟨w.heap.size, 0, none⟩ = some (.slice (some ⟨g, o, none⟩) n c) ∧ W.cell? ⟨g, o, none⟩ = some (.int .i64 x) ∧ W.cell? ⟨g, o + 1, none⟩ = some (.int .i64 y) ∧ W.cell? ⟨g, o + 2, none⟩ = some (.int .i64 t) ∧ InvX w g o n pts W) (first | assumption | exact SX_drew hk | exact SX_set (by assumption) | go_keep)
    (first
      | (go_at_call 88; refine (HA.out _).mono ?_; rintro e w' ⟨rfl, hb⟩; have hk2 := SX_kept hb (by assumption))
      | (go_at_call 89; refine (HG.out _ (by exact SX_row (by assumption))).mono ?_; rintro e w' ⟨rfl, hb⟩; have hk2 := SX_kept hb (by assumption); obtain ⟨hz, v0, v1, v2, v3, r0, r1, r2, r3, hfz⟩ := SX_res hk2))
  rename_i hh
  have HF := Lib.hid (SX_below hh)
  clear hh
  go_wp2
  exact bodyPost_ret (v := .tuple #[box a' b' c' d', .int .i64 0]) (by simp [results, Try.results62, go_sem, r0, r1, r2, r3]) rfl ⟨by rw [HBX.out], HF.out⟩
end Go.Proofs.Ytofgdgdmmlgmnaa.bxs
