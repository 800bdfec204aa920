/-
  Proved: the walk of the law on MistakesOf, out of what the two functions return.
  Conditions: what the two functions return for arguments that read as the law's own.
-/
import Derived.Test.YtimkochgnjggdaaOpen
import Derived.Test.YtimkochgnjggdaaWid
import Derived.Deep.RegionHeld3
import Derived.Deep.DeepCutAuto
namespace Go.Proofs.Ytimkochgnjggdaa.wMistakesOf
open Go.ChangeShapes Go.WideShapes Go.ChangeAt Go.RowKit Go.Joins
set_option linter.unusedVariables false
set_option linter.unusedSimpArgs false
open Go.Proofs.Ytimkochgnjggdaa.core
/-- The boxes of the argument and of its copy, and that nothing of the first world has turned. -/
structure InvR (w0 : World) (kx ka : Nat) (W : World) : Prop where
  hx : kx < W.heap.size
  ha : ka < W.heap.size
  below : Below w0.heap.size w0 W
abbrev SR (w0 : World) (kx ka : Nat) (us vs : Nat → Value) (W : World) : Prop := W.cell? ⟨kx, 0, none⟩ = some (us 0) ∧ W.cell? ⟨kx, 1, none⟩ = some (us 1) ∧ W.cell? ⟨ka, 0, none⟩ = some (vs 0) ∧ W.cell? ⟨ka, 1, none⟩ = some (vs 1) ∧ InvR w0 kx ka W
section
variable {w0 W W' : World} {kx ka : Nat} {us vs : Nat → Value}
theorem SR_kept (hb : Below W.heap.size W W') (h : SR w0 kx ka us vs W) : SR w0 kx ka us vs W' := by
  obtain ⟨h0, h1, h2, h3, hi⟩ := h
  have zx := hi.hx
  have za := hi.ha
  exact ⟨(hb.cell (p := ⟨kx, 0, none⟩) zx).trans h0, (hb.cell (p := ⟨kx, 1, none⟩) zx).trans h1, (hb.cell (p := ⟨ka, 0, none⟩) za).trans h2, (hb.cell (p := ⟨ka, 1, none⟩) za).trans h3, ⟨Nat.lt_of_lt_of_le zx hb.size, Nat.lt_of_lt_of_le za hb.size, hi.below.trans (hb.mono hi.below.size)⟩⟩
theorem SR_drew (h : SR w0 kx ka us vs W) : SR w0 kx ka us vs W.drew := SR_kept ((Below.refl _ _).drew) h
theorem SR_b (h : SR w0 kx ka us vs W) : Below w0.heap.size w0 W := h.2.2.2.2.below
theorem bx_at {b T : Nat} (h : W.heap[b]? = some (.cells #[us 0, us 1] T (0, 0))) : W.cell? ⟨b, 0, none⟩ = some (us 0) ∧ W.cell? ⟨b, 1, none⟩ = some (us 1) := ⟨by rw [cell_of_block h]; rfl, by rw [cell_of_block h]; rfl⟩
theorem SR_of {T T' : Nat} (h : W.heap[kx]? = some (.cells #[us 0, us 1] T (0, 0))) (h' : W.heap[ka]? = some (.cells #[vs 0, vs 1] T' (0, 0))) : SR W kx ka us vs W :=
  ⟨by rw [cell_of_block h]; rfl, by rw [cell_of_block h]; rfl, by rw [cell_of_block h']; rfl, by rw [cell_of_block h']; rfl, ⟨(Array.getElem?_eq_some_iff.1 h).1, (Array.getElem?_eq_some_iff.1 h').1, Below.refl _ _⟩⟩
theorem blk_lt {b : Nat} {o : Obj} (h : W.heap[b]? = some o) : b < W.heap.size := (Array.getElem?_eq_some_iff.1 h).1
end
/-- The copy of a list, and that its room is not less than its length. -/
theorem to_roomSampleS (vs : Nat → Value) (g : Nat → Dat) (w : World) (hq : costRec 1 g ≤ 1048576) (hr : ReadsRec w 1 vs g) (ht : tyrSampleS g) :
    Calls Try.prog 49 #[vs 0] w fun e w' => ∃ us : Nat → Value, e = .returned (us 0) ∧ OwnRec w' 1 us g (iv w.heap.size w'.heap.size) ∧ Below w.heap.size w w' ∧ ∃ (A : Option Addr) (n c : Nat), us 0 = .slice A n c ∧ n ≤ c := by
  have ht' := ht
  obtain ⟨n, f, hg, hf⟩ := ht
  have h0 := hr 0 (by omega)
  rw [hg] at h0
  obtain ⟨A, c, hv, hn, hR⟩ := h0.sl_inv
  have hc : cost (.sl n 2 f) ≤ 1048576 := by
    have e : costRec 1 g = cost (.sl n 2 f) := by simp [costRec, sumTo, hg]
    rw [← e]; exact hq
  rw [hv]
  refine (toSampleS_calls A n c f w hc hn hR ⟨n, f, rfl, hf⟩).mono ?_
  rintro e w' ⟨G, rfl, ho, hb⟩
  refine ⟨fun _ => .slice (some ⟨G, 0, none⟩) n n, rfl, ⟨fun _ => iv w.heap.size w'.heap.size, fun j hj => ?_, fun _ x _ hx => ⟨hx, hx.2⟩, fun i j x hi hj _ _ => by omega⟩, hb, _, _, _, rfl, Nat.le_refl _⟩
  obtain rfl : j = 0 := by omega
  rw [hg]
  exact ho

set_option maxRecDepth 100000 in
set_option maxHeartbeats 16000000 in
theorem walk (vs0 : Nat → Value) (g0 : Nat → Dat) (vs1 : Nat → Value) (g1 : Nat → Dat) (w : World) (hr0 : ReadsRec w 2 vs0 g0) (ht0 : tyrPerceptron g0) (hr1 : ReadsRec w 1 vs1 g1) (ht1 : tyrSampleS g1)
    (hm : costRec 2 g0 ≤ 1048576 → costRec 1 g1 ≤ 1048576 → ∃ (R : Nat → Dat) (r1 : Int), tyrInt64S R ∧ cntRec 1 R ≤ 100000000000 ∧ (∀ (W : World) (us0 : Nat → Value) (us1 : Nat → Value), ReadsRec W 2 us0 g0 → ReadsRec W 1 us1 g1 → (∃ (A : Option Addr) (n c : Nat), us1 0 = .slice A n c ∧ n ≤ c) → Calls Try.prog 55 #[.agg #[us0 0, us0 1], us1 0] W fun e W' => ∃ xs : Nat → Value, e = .returned (.tuple #[xs 0, .int .i64 r1]) ∧ OwnRec W' 1 xs R (iv W.heap.size W'.heap.size) ∧ Below W.heap.size W W') ∧ (∀ (W : World) (us0 : Nat → Value) (us1 : Nat → Value), ReadsRec W 2 us0 g0 → ReadsRec W 1 us1 g1 → (∃ (A : Option Addr) (n c : Nat), us1 0 = .slice A n c ∧ n ≤ c) → Calls Try.prog 56 #[.agg #[us0 0, us0 1], us1 0] W fun e W' => ∃ xs : Nat → Value, e = .returned (.tuple #[xs 0, .int .i64 r1]) ∧ OwnRec W' 1 xs R (iv W.heap.size W'.heap.size) ∧ Below W.heap.size W W')) :
    Calls Try.prog 12 #[.agg #[vs0 0, vs0 1], vs1 0] w fun e w' => e = .returned (.bool true) ∧ Below w.heap.size w w' := by
  have HT0 := Lib.hid ht0
  have HRD0 := Lib.hid (fun (V : World) (hV : Below w.heap.size w V) => hr0.kept hV)
  have HT1 := Lib.hid ht1
  have HRD1 := Lib.hid (fun (V : World) (hV : Below w.heap.size w V) => hr1.kept hV)
  have HTO0 := Lib.hid (fun (hq : costRec 2 g0 ≤ 1048576) (V : World) (hV : Below w.heap.size w V) => toPerceptron_rec vs0 g0 V hq (HRD0.out V hV) HT0.out)
  have HSZ0 := Lib.hid (fun (left : Int) (V : World) (hV : Below w.heap.size w V) (h1 : _) (h2 : _) => szPerceptron_rec vs0 g0 left V h1 h2 (HRD0.out V hV) HT0.out)
  clear hr0 ht0
  obtain ⟨n1, f1, hg1, hf1⟩ := ht1
  have hq0 := hr1 0 (by omega)
  rw [hg1] at hq0
  obtain ⟨A1, c1, hv1, hn1, -⟩ := hq0.sl_inv
  clear hq0
  have HTO1 := Lib.hid (fun (hq : costRec 1 g1 ≤ 1048576) (V : World) (hV : Below w.heap.size w V) => to_roomSampleS vs1 g1 V hq (HRD1.out V hV) HT1.out)
  have HSZ1 := Lib.hid (fun (left : Int) (V : World) (hV : Below w.heap.size w V) (h1 : _) (h2 : _) => szSampleS_rec vs1 g1 left V h1 h2 (HRD1.out V hV) HT1.out)
  rw [hv1] at HTO1 HSZ1
  rw [hv1]
  unfold maxLen at hn1
  clear hg1 hf1 hv1 hr1
  have HM := Lib.hid hm
  clear hm
  have HB := Lib.hid (below_alloc1 w (.cells #[vs0 0, vs0 1] 46))
  have KA := Lib.hid (heap_alloc_new w (.cells #[vs0 0, vs0 1] 46))
  go_enter Try.func12, Try.ntmps12
  obtain ⟨ca0, ca1⟩ := bx_at (us := vs0) KA.out
  have hza := blk_lt KA.out
  go_wp2_with fail
  refine (HSZ0.out _ _ HB.out (by omega) (by omega)).mono ?_
  rintro e w0 ⟨rfl, hb⟩
  have HB1 := Lib.hid (HB.out.trans (hb.mono HB.out.size))
  have KA1 := Lib.hid ((hb.block _ (blk_lt KA.out)).trans KA.out)
  clear HB KA
  have HB := HB1
  have KA := KA1
  clear HB1 KA1
  clear hza ca0 ca1
  clear hb HSZ0
  by_cases hq0 : ((costRec 2 g0 : Nat) : Int) ≤ 1048576
  rotate_left
  · rw [left_no hq0]
    go_wp2
    go_ret
    exact ⟨rfl, HB.out⟩
  rw [left_yes hq0]
  have hq0' : ¬ (1048576 - ((costRec 2 g0 : Nat) : Int) < 0) := by omega
  go_wp2_with fail
  refine (HSZ1.out _ _ HB.out (by omega) (by omega)).mono ?_
  rintro e w0 ⟨rfl, hb⟩
  have HB1 := Lib.hid (HB.out.trans (hb.mono HB.out.size))
  have KA1 := Lib.hid ((hb.block _ (blk_lt KA.out)).trans KA.out)
  clear HB KA
  have HB := HB1
  have KA := KA1
  clear HB1 KA1
  clear hb HSZ1
  by_cases hq1 : ((costRec 1 g1 : Nat) : Int) ≤ 1048576 - ((costRec 2 g0 : Nat) : Int)
  rotate_left
  · rw [left_no hq1]
    go_wp2
    go_ret
    exact ⟨rfl, HB.out⟩
  rw [left_yes hq1]
  have hq1' : ¬ (1048576 - ((costRec 2 g0 : Nat) : Int) - ((costRec 1 g1 : Nat) : Int) < 0) := by omega
  obtain ⟨R, r1, htR, hcR, hS, hI⟩ := HM.out (by omega) (by omega)
  have HS := Lib.hid hS
  have HI := Lib.hid hI
  clear hS hI HM
  have HTO20 := Lib.hid (HTO0.out (by omega))
  clear HTO0
  have HTO21 := Lib.hid (HTO1.out (by omega))
  clear HTO1
  have HTR := Lib.hid htR
  have HCR := Lib.hid hcR
  clear htR hcR
  have HCX0 := Lib.hid (show cntRec 2 g0 ≤ 100000000000 by have h1 := cntRec_le (widrPerceptron HT0.out); omega)
  have HCX1 := Lib.hid (show cntRec 1 g1 ≤ 100000000000 by have h1 := cntRec_le (widrSampleS HT1.out); omega)
  obtain ⟨ca0, ca1⟩ := bx_at (us := vs0) KA.out
  have hza := blk_lt KA.out
  go_wp2_with fail
  refine (HTO20.out _ HB.out).mono ?_
  rintro e w1_0 ⟨ut0, rfl, ho, hb⟩
  have HB1 := Lib.hid (HB.out.trans (hb.mono HB.out.size))
  have KA1 := Lib.hid ((hb.block _ (blk_lt KA.out)).trans KA.out)
  clear HB KA
  have HB := HB1
  have KA := KA1
  clear HB1 KA1
  clear hza ca0 ca1
  have HU0 := Lib.hid ho.reads
  clear ho hb
  go_wp2_with fail
  refine (HTO21.out _ HB.out).mono ?_
  rintro e w1_1 ⟨ut1, rfl, ho, hb, hro⟩
  have HB1 := Lib.hid (HB.out.trans (hb.mono HB.out.size))
  have KA1 := Lib.hid ((hb.block _ (blk_lt KA.out)).trans KA.out)
  clear HB KA
  have HB := HB1
  have KA := KA1
  clear HB1 KA1
  have HU01 := Lib.hid (HU0.out.kept hb)
  clear HU0
  have HU0 := HU01
  clear HU01
  have HU1 := Lib.hid ho.reads
  have HRO1 := Lib.hid hro
  clear hro
  clear ho hb
  have z1 := HB.out.size
  have zk1 := blk_lt KA.out
  go_wp2_with fail
  refine (HS.out _ ut0 ut1 HU0.out HU1.out HRO1.out).mono ?_
  rintro e w2 ⟨xw, rfl, ho, hb⟩
  have HB1 := Lib.hid (HB.out.trans (hb.mono HB.out.size))
  have KA1 := Lib.hid ((hb.block _ (blk_lt KA.out)).trans KA.out)
  clear HB KA
  have HB := HB1
  have KA := KA1
  clear HB1 KA1
  have HW := Lib.hid ho
  have z2 := hb.size
  clear ho hb
  clear HU0 HU1 HRO1
  obtain ⟨ca0, ca1⟩ := bx_at (us := vs0) KA.out
  have hza := blk_lt KA.out
  go_wp2_with fail
  refine (HTO20.out _ HB.out).mono ?_
  rintro e w3_0 ⟨us0, rfl, ho, hb⟩
  have HB1 := Lib.hid (HB.out.trans (hb.mono HB.out.size))
  have KA1 := Lib.hid ((hb.block _ (blk_lt KA.out)).trans KA.out)
  clear HB KA
  have HB := HB1
  have KA := KA1
  clear HB1 KA1
  clear hza ca0 ca1
  have HW1 := Lib.hid (HW.out.kept hb)
  clear HW
  have HW := HW1
  clear HW1
  have HX0 := Lib.hid ho
  have z3_0 := hb.size
  clear ho hb
  have st_0 : ∀ (a : Addr) (W : World), (store a (us0 0)).run Try.prog W = stored Try.prog W a (us0 0) .plain := fun a W => run_store _ _ _ _ _ (HX0.out.reads 0 (by omega)).one
  have st_1 : ∀ (a : Addr) (W : World), (store a (us0 1)).run Try.prog W = stored Try.prog W a (us0 1) .plain := fun a W => run_store _ _ _ _ _ (HX0.out.reads 1 (by omega)).one
  have hb := below_alloc1 w3_0 (.cells #[us0 0, us0 1] 38)
  have HB1 := Lib.hid (HB.out.trans (hb.mono HB.out.size))
  have KA1 := Lib.hid ((hb.block _ (blk_lt KA.out)).trans KA.out)
  clear HB KA
  have HB := HB1
  have KA := KA1
  clear HB1 KA1
  have HW1 := Lib.hid (HW.out.kept hb)
  clear HW
  have HW := HW1
  clear HW1
  have HX01 := Lib.hid (HX0.out.kept hb)
  clear HX0
  have HX0 := HX01
  clear HX01
  have KX := Lib.hid (heap_alloc_new w3_0 (.cells #[us0 0, us0 1] 38))
  have zx := blk_lt KX.out
  clear hb
  go_wp2_with fail
  refine (HTO21.out _ HB.out).mono ?_
  rintro e w3_1 ⟨us1, rfl, ho, hb, hro⟩
  have HB1 := Lib.hid (HB.out.trans (hb.mono HB.out.size))
  have KA1 := Lib.hid ((hb.block _ (blk_lt KA.out)).trans KA.out)
  clear HB KA
  have HB := HB1
  have KA := KA1
  clear HB1 KA1
  have KX1 := Lib.hid ((hb.block _ (blk_lt KX.out)).trans KX.out)
  clear KX
  have KX := KX1
  clear KX1
  clear st_0 st_1
  have HW1 := Lib.hid (HW.out.kept hb)
  clear HW
  have HW := HW1
  clear HW1
  have HX01 := Lib.hid (HX0.out.kept hb)
  clear HX0
  have HX0 := HX01
  clear HX01
  have z3_1 := hb.size
  (try simp at z3_1)
  have HX1 := Lib.hid (ho.mono (F' := iv (w3_0.heap.size + 1) w3_1.heap.size) (fun x hx => by unfold iv at *; (try simp at hx); omega))
  have HRO1 := Lib.hid hro
  clear ho hb hro
  obtain ⟨cx0, cx1⟩ := bx_at (us := us0) KX.out
  have hzx := blk_lt KX.out
  go_wp2_with fail
  refine (HI.out _ us0 us1 HX0.out.reads HX1.out.reads HRO1.out).mono ?_
  rintro e w4 ⟨xg, rfl, ho, hb⟩
  have HB1 := Lib.hid (HB.out.trans (hb.mono HB.out.size))
  have KA1 := Lib.hid ((hb.block _ (blk_lt KA.out)).trans KA.out)
  clear HB KA
  have HB := HB1
  have KA := KA1
  clear HB1 KA1
  have KX1 := Lib.hid ((hb.block _ (blk_lt KX.out)).trans KX.out)
  clear KX
  have KX := KX1
  clear KX1
  clear hzx cx0 cx1
  have HW1 := Lib.hid (HW.out.kept hb)
  clear HW
  have HW := HW1
  clear HW1
  have HX01 := Lib.hid (HX0.out.kept hb)
  clear HX0
  have HX0 := HX01
  clear HX01
  have HX11 := Lib.hid (HX1.out.kept hb)
  clear HX1
  have HX1 := HX11
  clear HX11
  have HG := Lib.hid ho
  have z4 := hb.size
  clear ho hb HRO1
  have hDW_X0 : ∀ x, iv (w1_1.heap.size) w2.heap.size x → iv (w2.heap.size) w3_0.heap.size x → False := fun x h1 h2 => by unfold iv at *; omega
  have hDG_X0 : ∀ x, iv (w3_1.heap.size) w4.heap.size x → iv (w2.heap.size) w3_0.heap.size x → False := fun x h1 h2 => by unfold iv at *; omega
  have hDX1_X0 : ∀ x, iv (w3_0.heap.size + 1) w3_1.heap.size x → iv (w2.heap.size) w3_0.heap.size x → False := fun x h1 h2 => by unfold iv at *; omega
  have hDW_X1 : ∀ x, iv (w1_1.heap.size) w2.heap.size x → iv (w3_0.heap.size + 1) w3_1.heap.size x → False := fun x h1 h2 => by unfold iv at *; omega
  have hDG_X1 : ∀ x, iv (w3_1.heap.size) w4.heap.size x → iv (w3_0.heap.size + 1) w3_1.heap.size x → False := fun x h1 h2 => by unfold iv at *; omega
  have hDW_G : ∀ x, iv (w1_1.heap.size) w2.heap.size x → iv (w3_1.heap.size) w4.heap.size x → False := fun x h1 h2 => by unfold iv at *; omega
  have hEX0 : ∀ x, iv (w2.heap.size) w3_0.heap.size x → w.heap.size < x := fun x h => by unfold iv at *; omega
  have hEX1 : ∀ x, iv (w3_0.heap.size + 1) w3_1.heap.size x → w.heap.size < x := fun x h => by unfold iv at *; omega
  have hEG : ∀ x, iv (w3_1.heap.size) w4.heap.size x → w.heap.size < x := fun x h => by unfold iv at *; omega
  have HDW_X0 := Lib.hid hDW_X0
  clear hDW_X0
  have HDG_X0 := Lib.hid hDG_X0
  clear hDG_X0
  have HDX1_X0 := Lib.hid hDX1_X0
  clear hDX1_X0
  have HDW_X1 := Lib.hid hDW_X1
  clear hDW_X1
  have HDG_X1 := Lib.hid hDG_X1
  clear hDG_X1
  have HDW_G := Lib.hid hDW_G
  clear hDW_G
  have HEX0 := Lib.hid hEX0
  clear hEX0
  have HEX1 := Lib.hid hEX1
  clear hEX1
  have HEG := Lib.hid hEG
  clear hEG
  clear z1 zk1 z2 zx z4 z3_0 z3_1
  all_goals
    go_wp2_with fail
    refine (eqInt64S_rec xg xw R _ HG.out.reads HW.out.reads HTR.out).mono ?_
    rintro e w5 ⟨rfl, hb⟩
    have HB1 := Lib.hid (HB.out.trans (hb.mono HB.out.size))
    have KA1 := Lib.hid ((hb.block _ (blk_lt KA.out)).trans KA.out)
    clear HB KA
    have HB := HB1
    have KA := KA1
    clear HB1 KA1
    have KX1 := Lib.hid ((hb.block _ (blk_lt KX.out)).trans KX.out)
    clear KX
    have KX := KX1
    clear KX1
    have HW1 := Lib.hid (HW.out.kept hb)
    clear HW
    have HW := HW1
    clear HW1
    have HX01 := Lib.hid (HX0.out.kept hb)
    clear HX0
    have HX0 := HX01
    clear HX01
    have HX11 := Lib.hid (HX1.out.kept hb)
    clear HX1
    have HX1 := HX11
    clear HX11
    have HG1 := Lib.hid (HG.out.kept hb)
    clear HG
    have HG := HG1
    clear HG1
    clear hb
    have hk := SR_of KX.out KA.out
    obtain ⟨cx0, cx1, ca0, ca1, -⟩ := id hk
    have HTO3 := Lib.hid (fun (V : World) (hV : Below w5.heap.size w5 V) => HTO20.out V (HB.out.trans (hV.mono HB.out.size)))
    have HX0R := Lib.hid HX0.out.reads
    have HLA := Lib.hid (blk_lt KA.out)
    go_upto_region 14 with fail
    go_cut [58] (fun s wx => s = .bool false ∧ Hid (SR w5 w3_0.heap.size w.heap.size us0 vs0 wx))
    case first =>
      go_region_held3 (fun W => W.cell? ⟨w3_0.heap.size, 0, none⟩ = some (us0 0) ∧ W.cell? ⟨w3_0.heap.size, 1, none⟩ = some (us0 1) ∧ W.cell? ⟨w.heap.size, 0, none⟩ = some (vs0 0) ∧ W.cell? ⟨w.heap.size, 1, none⟩ = some (vs0 1) ∧ InvR w5 w3_0.heap.size w.heap.size W) (first | assumption | exact SR_drew hk | go_keep) (first | (go_at_call 33; (with_reducible refine (HTO3.out _ (SR_b (by first | assumption | exact SR_drew hk))).mono ?_); rintro e wa ⟨ua, rfl, hoa, hba⟩; have hra := hoa.reads; have hk2 := SR_kept hba (by first | assumption | exact SR_drew hk)) | (go_at_call 26; (with_reducible refine (eqPerceptron_rec us0 _ g0 _ (by exact HX0R.out.kept (SR_b (by assumption))) (by assumption) HT0.out).mono ?_); rintro e wd ⟨rfl, hbd⟩; have hk3 := SR_kept hbd (by assumption)))
      all_goals
        rename_i hh
        have HH := Lib.hid hh
        clear hh
        go_wp2_with fail
        go_meet
        exact ⟨rfl, HH⟩
    case rest =>
      obtain ⟨rfl, HC⟩ := hcut
      have hb := SR_b HC.out
      clear hk HTO3 HX0R HLA cx0 cx1 ca0 ca1
      have HB1 := Lib.hid (HB.out.trans (hb.mono HB.out.size))
      have KA1 := Lib.hid ((hb.block _ (blk_lt KA.out)).trans KA.out)
      clear HB KA
      have HB := HB1
      have KA := KA1
      clear HB1 KA1
      have KX1 := Lib.hid ((hb.block _ (blk_lt KX.out)).trans KX.out)
      clear KX
      have KX := KX1
      clear KX1
      have HW1 := Lib.hid (HW.out.kept hb)
      clear HW
      have HW := HW1
      clear HW1
      have HX01 := Lib.hid (HX0.out.kept hb)
      clear HX0
      have HX0 := HX01
      clear HX01
      have HX11 := Lib.hid (HX1.out.kept hb)
      clear HX1
      have HX1 := HX11
      clear HX11
      have HG1 := Lib.hid (HG.out.kept hb)
      clear HG
      have HG := HG1
      clear HG1
      clear hb HC
      go_wp2_with fail
      refine (HTO21.out _ HB.out).mono ?_
      rintro e w6_1 ⟨ua1, rfl, ho, hb, hro⟩
      have HB1 := Lib.hid (HB.out.trans (hb.mono HB.out.size))
      have KA1 := Lib.hid ((hb.block _ (blk_lt KA.out)).trans KA.out)
      clear HB KA
      have HB := HB1
      have KA := KA1
      clear HB1 KA1
      have KX1 := Lib.hid ((hb.block _ (blk_lt KX.out)).trans KX.out)
      clear KX
      have KX := KX1
      clear KX1
      have HU := Lib.hid ho.reads
      have HW1 := Lib.hid (HW.out.kept hb)
      clear HW
      have HW := HW1
      clear HW1
      have HX01 := Lib.hid (HX0.out.kept hb)
      clear HX0
      have HX0 := HX01
      clear HX01
      have HX11 := Lib.hid (HX1.out.kept hb)
      clear HX1
      have HX1 := HX11
      clear HX11
      have HG1 := Lib.hid (HG.out.kept hb)
      clear HG
      have HG := HG1
      clear HG1
      clear ho hb hro
      go_wp2_with fail
      refine (eqSampleS_rec us1 ua1 g1 _ HX1.out.reads HU.out HT1.out).mono ?_
      rintro e w7_1 ⟨rfl, hb⟩
      have HB1 := Lib.hid (HB.out.trans (hb.mono HB.out.size))
      have KA1 := Lib.hid ((hb.block _ (blk_lt KA.out)).trans KA.out)
      clear HB KA
      have HB := HB1
      have KA := KA1
      clear HB1 KA1
      have KX1 := Lib.hid ((hb.block _ (blk_lt KX.out)).trans KX.out)
      clear KX
      have KX := KX1
      clear KX1
      have HW1 := Lib.hid (HW.out.kept hb)
      clear HW
      have HW := HW1
      clear HW1
      have HX01 := Lib.hid (HX0.out.kept hb)
      clear HX0
      have HX0 := HX01
      clear HX01
      have HX11 := Lib.hid (HX1.out.kept hb)
      clear HX1
      have HX1 := HX11
      clear HX11
      have HG1 := Lib.hid (HG.out.kept hb)
      clear HG
      have HG := HG1
      clear HG1
      clear hb
      clear HU
      obtain ⟨cx0, cx1⟩ := bx_at (us := us0) KX.out
      have hzx := blk_lt KX.out
      go_wp2_with fail
      refine (markPerceptron_rec us0 g0 _ 1 _ _ (by rfl) (by omega) (by have := HCX0.out; omega) HX0.out HT0.out).mono ?_
      rintro e w8_0 ⟨rfl, -, ho⟩
      have HB1 := Lib.hid (HB.out.trans (ho.below (fun x hx => Nat.le_of_lt (HEX0.out x hx)) HB.out.size))
      have KA1 := Lib.hid ((ho.block _ (blk_lt KA.out) (fun hx => Nat.lt_irrefl _ (HEX0.out _ hx))).trans KA.out)
      clear HB KA
      have HB := HB1
      have KA := KA1
      clear HB1 KA1
      clear hzx cx0 cx1
      clear KX
      have HW1 := Lib.hid (HW.out.only ho HDW_X0.out)
      have HG1 := Lib.hid (HG.out.only ho HDG_X0.out)
      have HX11 := Lib.hid (HX1.out.only ho HDX1_X0.out)
      clear ho HW HG HX1 HX0
      have HW := HW1
      clear HW1
      have HG := HG1
      clear HG1
      have HX1 := HX11
      clear HX11
      obtain ⟨y0, hy0⟩ : ∃ y, 1 + cntRec 2 g0 = y := ⟨_, rfl⟩
      rw [hy0]
      have hyb0 : 1 ≤ y0 ∧ y0 ≤ 100000000001 := by have := HCX0.out; omega
      clear hy0
      go_wp2_with fail
      refine (markSampleS_rec us1 g1 _ y0 _ _ (by rfl) (by omega) (by have := HCX1.out; omega) HX1.out HT1.out).mono ?_
      rintro e w8_1 ⟨rfl, -, ho⟩
      have HB1 := Lib.hid (HB.out.trans (ho.below (fun x hx => Nat.le_of_lt (HEX1.out x hx)) HB.out.size))
      have KA1 := Lib.hid ((ho.block _ (blk_lt KA.out) (fun hx => Nat.lt_irrefl _ (HEX1.out _ hx))).trans KA.out)
      clear HB KA
      have HB := HB1
      have KA := KA1
      clear HB1 KA1
      have HW1 := Lib.hid (HW.out.only ho HDW_X1.out)
      have HG1 := Lib.hid (HG.out.only ho HDG_X1.out)
      clear ho HW HG HX1
      have HW := HW1
      clear HW1
      have HG := HG1
      clear HG1
      obtain ⟨y1, hy1⟩ : ∃ y, y0 + cntRec 1 g1 = y := ⟨_, rfl⟩
      rw [hy1]
      have hyb1 : 1 ≤ y1 ∧ y1 ≤ 200000000001 := by have := HCX1.out; omega
      clear hy1
      have hn1 : ¬ ((y1 : Int) < 0) := by omega
      go_wp2_with fail
      refine (eqInt64S_rec xg xw R _ HG.out.reads HW.out.reads HTR.out).mono ?_
      rintro e w9 ⟨rfl, hb⟩
      have HB1 := Lib.hid (HB.out.trans (hb.mono HB.out.size))
      have KA1 := Lib.hid ((hb.block _ (blk_lt KA.out)).trans KA.out)
      clear HB KA
      have HB := HB1
      have KA := KA1
      clear HB1 KA1
      have HW1 := Lib.hid (HW.out.kept hb)
      clear HW
      have HW := HW1
      clear HW1
      have HG1 := Lib.hid (HG.out.kept hb)
      clear HG
      have HG := HG1
      clear HG1
      clear hb
      go_wp2_with fail
      refine (markInt64S_rec xg R _ 1 _ _ (by rfl) (by omega) (by have := HCR.out; omega) HG.out HTR.out).mono ?_
      rintro e w10 ⟨rfl, hq, ho⟩
      have HB1 := Lib.hid (HB.out.trans (ho.below (fun x hx => Nat.le_of_lt (HEG.out x hx)) HB.out.size))
      have KA1 := Lib.hid ((ho.block _ (blk_lt KA.out) (fun hx => Nat.lt_irrefl _ (HEG.out _ hx))).trans KA.out)
      clear HB KA
      have HB := HB1
      have KA := KA1
      clear HB1 KA1
      have HW1 := Lib.hid (HW.out.only ho HDW_G.out)
      clear HW HG ho
      have HW := HW1
      have HG := Lib.hid hq
      clear HW1 hq
      generalize hz2n : 1 + cntRec 1 R = z2
      have HN2 := Lib.hid hz2n
      clear hz2n
      have hn2 : ¬ ((z2 : Int) < 0) := by omega
      have hn3 : ((z2 : Int) != (z2 : Int)) = false := by simp
      go_wp2_with fail
      refine (heldInt64S_rec xg R 1 _ _ (by rfl) (by omega) (by have := HCR.out; omega) HG.out.reads HTR.out).mono ?_
      rintro e w11 ⟨rfl, hb⟩
      rw [HN2.out]
      have HB1 := Lib.hid (HB.out.trans (hb.mono HB.out.size))
      have KA1 := Lib.hid ((hb.block _ (blk_lt KA.out)).trans KA.out)
      clear HB KA
      have HB := HB1
      have KA := KA1
      clear HB1 KA1
      have HW1 := Lib.hid (HW.out.kept hb)
      clear HW
      have HW := HW1
      clear HW1
      have HG1 := Lib.hid (HG.out.kept hb)
      clear HG
      have HG := HG1
      clear HG1
      clear hb
      obtain ⟨ca0, ca1⟩ := bx_at (us := vs0) KA.out
      have hza := blk_lt KA.out
      go_wp2_with fail
      refine (HTO20.out _ HB.out).mono ?_
      rintro e w12_0 ⟨uu0, rfl, ho, hb⟩
      have HB1 := Lib.hid (HB.out.trans (hb.mono HB.out.size))
      have KA1 := Lib.hid ((hb.block _ (blk_lt KA.out)).trans KA.out)
      clear HB KA
      have HB := HB1
      have KA := KA1
      clear HB1 KA1
      clear hza ca0 ca1
      have HW1 := Lib.hid (HW.out.kept hb)
      clear HW
      have HW := HW1
      clear HW1
      have HG1 := Lib.hid (HG.out.kept hb)
      clear HG
      have HG := HG1
      clear HG1
      have HU0 := Lib.hid ho.reads
      clear ho hb
      go_wp2_with fail
      refine (HTO21.out _ HB.out).mono ?_
      rintro e w12_1 ⟨uu1, rfl, ho, hb, hro⟩
      have HB1 := Lib.hid (HB.out.trans (hb.mono HB.out.size))
      have KA1 := Lib.hid ((hb.block _ (blk_lt KA.out)).trans KA.out)
      clear HB KA
      have HB := HB1
      have KA := KA1
      clear HB1 KA1
      have HW1 := Lib.hid (HW.out.kept hb)
      clear HW
      have HW := HW1
      clear HW1
      have HG1 := Lib.hid (HG.out.kept hb)
      clear HG
      have HG := HG1
      clear HG1
      have HU01 := Lib.hid (HU0.out.kept hb)
      clear HU0
      have HU0 := HU01
      clear HU01
      have HU1 := Lib.hid ho.reads
      have HRO1 := Lib.hid hro
      clear hro
      clear ho hb
      go_wp2_with fail
      refine (HI.out _ uu0 uu1 HU0.out HU1.out HRO1.out).mono ?_
      rintro e w13 ⟨xh, rfl, ho, hb⟩
      have HB1 := Lib.hid (HB.out.trans (hb.mono HB.out.size))
      have KA1 := Lib.hid ((hb.block _ (blk_lt KA.out)).trans KA.out)
      clear HB KA
      have HB := HB1
      have KA := KA1
      clear HB1 KA1
      have HH := Lib.hid ho.reads
      have HW1 := Lib.hid (HW.out.kept hb)
      clear HW
      have HW := HW1
      clear HW1
      have HG1 := Lib.hid (HG.out.kept hb)
      clear HG
      have HG := HG1
      clear HG1
      clear ho hb
      clear HU0 HU1 HRO1
      go_wp2_with fail
      refine (eqInt64S_rec xh xw R _ HH.out HW.out.reads HTR.out).mono ?_
      rintro e w14 ⟨rfl, hb⟩
      have HB1 := Lib.hid (HB.out.trans (hb.mono HB.out.size))
      have KA1 := Lib.hid ((hb.block _ (blk_lt KA.out)).trans KA.out)
      clear HB KA
      have HB := HB1
      have KA := KA1
      clear HB1 KA1
      have HW1 := Lib.hid (HW.out.kept hb)
      clear HW
      have HW := HW1
      clear HW1
      have HG1 := Lib.hid (HG.out.kept hb)
      clear HG
      have HG := HG1
      clear HG1
      clear hb
      clear HH
      go_wp2_with fail
      refine (heldInt64S_rec xg R 1 _ _ (by rfl) (by omega) (by have := HCR.out; omega) HG.out.reads HTR.out).mono ?_
      rintro e w15 ⟨rfl, hb⟩
      rw [HN2.out]
      have HB1 := Lib.hid (HB.out.trans (hb.mono HB.out.size))
      have KA1 := Lib.hid ((hb.block _ (blk_lt KA.out)).trans KA.out)
      clear HB KA
      have HB := HB1
      have KA := KA1
      clear HB1 KA1
      clear hb
      go_wp2
      go_ret
      exact ⟨rfl, HB.out⟩
end Go.Proofs.Ytimkochgnjggdaa.wMistakesOf
