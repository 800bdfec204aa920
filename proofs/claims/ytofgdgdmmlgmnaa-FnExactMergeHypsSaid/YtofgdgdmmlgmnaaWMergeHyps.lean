/-
  Proved: the walk of the law on MergeHyps, out of what the two functions return.
  Conditions: what the two functions return for arguments that read as the law's own.
-/
import Derived.Test.YtofgdgdmmlgmnaaOpen
import Derived.Test.YtofgdgdmmlgmnaaWid
namespace Go.Proofs.Ytofgdgdmmlgmnaa.wMergeHyps
open Go.ChangeShapes Go.WideShapes Go.ChangeAt Go.RowKit Go.Joins
set_option linter.unusedVariables false
set_option linter.unusedSimpArgs false
open Go.Proofs.Ytofgdgdmmlgmnaa.core
/-- The copy of a list, and that its room is not less than its length. -/
theorem to_roomHypS (vs : Nat → Value) (g : Nat → Dat) (w : World) (hq : costRec 1 g ≤ 1048576) (hr : ReadsRec w 1 vs g) (ht : tyrHypS g) :
    Calls Try.prog 17 #[vs 0] w fun e w' => ∃ us : Nat → Value, e = .returned (us 0) ∧ OwnRec w' 1 us g (iv w.heap.size w'.heap.size) ∧ Below w.heap.size w w' ∧ ∃ (A : Option Addr) (n c : Nat), us 0 = .slice A n c ∧ n ≤ c := by
  have ht' := ht
  obtain ⟨n, f, hg, hf⟩ := ht
  have h0 := hr 0 (by omega)
  rw [hg] at h0
  obtain ⟨A, c, hv, hn, hR⟩ := h0.sl_inv
  have hc : cost (.sl n 2 f) ≤ 1048576 := by
    have e : costRec 1 g = cost (.sl n 2 f) := by simp [costRec, sumTo, hg]
    rw [← e]; exact hq
  rw [hv]
  refine (toHypS_calls A n c f w hc hn hR ⟨n, f, rfl, hf⟩).mono ?_
  rintro e w' ⟨G, rfl, ho, hb⟩
  refine ⟨fun _ => .slice (some ⟨G, 0, none⟩) n n, rfl, ⟨fun _ => iv w.heap.size w'.heap.size, fun j hj => ?_, fun _ x _ hx => ⟨hx, hx.2⟩, fun i j x hi hj _ _ => by omega⟩, hb, _, _, _, rfl, Nat.le_refl _⟩
  obtain rfl : j = 0 := by omega
  rw [hg]
  exact ho

set_option maxRecDepth 100000 in
set_option maxHeartbeats 8000000 in
theorem walk (vs0 : Nat → Value) (g0 : Nat → Dat) (vs1 : Nat → Value) (g1 : Nat → Dat) (a2 : Int) (w : World) (hr0 : ReadsRec w 1 vs0 g0) (ht0 : tyrHypS g0) (hr1 : ReadsRec w 1 vs1 g1) (ht1 : tyrHypS g1)
    (hm : costRec 1 g0 ≤ 1048576 → costRec 1 g1 ≤ 1048576 → ∃ (R : Nat → Dat) (r1 : Int), tyrHypS R ∧ cntRec 1 R ≤ 100000000000 ∧ (∀ (W : World) (us0 : Nat → Value) (us1 : Nat → Value), ReadsRec W 1 us0 g0 → (∃ (A : Option Addr) (n c : Nat), us0 0 = .slice A n c ∧ n ≤ c) → ReadsRec W 1 us1 g1 → (∃ (A : Option Addr) (n c : Nat), us1 0 = .slice A n c ∧ n ≤ c) → Calls Try.prog 20 #[us0 0, us1 0, .int .i64 a2] W fun e W' => ∃ xs : Nat → Value, e = .returned (.tuple #[xs 0, .int .i64 r1]) ∧ OwnRec W' 1 xs R (iv W.heap.size W'.heap.size) ∧ Below W.heap.size W W') ∧ (∀ (W : World) (us0 : Nat → Value) (us1 : Nat → Value), ReadsRec W 1 us0 g0 → (∃ (A : Option Addr) (n c : Nat), us0 0 = .slice A n c ∧ n ≤ c) → ReadsRec W 1 us1 g1 → (∃ (A : Option Addr) (n c : Nat), us1 0 = .slice A n c ∧ n ≤ c) → Calls Try.prog 21 #[us0 0, us1 0, .int .i64 a2] W fun e W' => ∃ xs : Nat → Value, e = .returned (.tuple #[xs 0, .int .i64 r1]) ∧ OwnRec W' 1 xs R (iv W.heap.size W'.heap.size) ∧ Below W.heap.size W W')) :
    Calls Try.prog 5 #[vs0 0, vs1 0, .int .i64 a2] w fun e w' => e = .returned (.bool true) ∧ Below w.heap.size w w' := by
  have HT0 := Lib.hid ht0
  obtain ⟨n0, f0, hg0, hf0⟩ := ht0
  have hq0 := hr0 0 (by omega)
  rw [hg0] at hq0
  obtain ⟨A0, c0, hv0, hn0, -⟩ := hq0.sl_inv
  clear hq0
  have HRD0 := Lib.hid (fun (V : World) (hV : Below w.heap.size w V) => hr0.kept hV)
  have HTO0 := Lib.hid (fun (hq : costRec 1 g0 ≤ 1048576) (V : World) (hV : Below w.heap.size w V) => to_roomHypS vs0 g0 V hq (HRD0.out V hV) HT0.out)
  have HSZ0 := Lib.hid (fun (left : Int) (V : World) (hV : Below w.heap.size w V) (h1 : _) (h2 : _) => szHypS_rec vs0 g0 left V h1 h2 (HRD0.out V hV) HT0.out)
  rw [hv0] at HTO0 HSZ0
  rw [hv0]
  unfold maxLen at hn0
  clear hg0 hf0 hv0 hr0
  have HT1 := Lib.hid ht1
  obtain ⟨n1, f1, hg1, hf1⟩ := ht1
  have hq0 := hr1 0 (by omega)
  rw [hg1] at hq0
  obtain ⟨A1, c1, hv1, hn1, -⟩ := hq0.sl_inv
  clear hq0
  have HRD1 := Lib.hid (fun (V : World) (hV : Below w.heap.size w V) => hr1.kept hV)
  have HTO1 := Lib.hid (fun (hq : costRec 1 g1 ≤ 1048576) (V : World) (hV : Below w.heap.size w V) => to_roomHypS vs1 g1 V hq (HRD1.out V hV) HT1.out)
  have HSZ1 := Lib.hid (fun (left : Int) (V : World) (hV : Below w.heap.size w V) (h1 : _) (h2 : _) => szHypS_rec vs1 g1 left V h1 h2 (HRD1.out V hV) HT1.out)
  rw [hv1] at HTO1 HSZ1
  rw [hv1]
  unfold maxLen at hn1
  clear hg1 hf1 hv1 hr1
  have HM := Lib.hid hm
  clear hm
  have HB := Lib.hid (Below.refl w.heap.size w)
  go_enter Try.func5, Try.ntmps5
  go_wp2_with fail
  refine (HSZ0.out _ _ HB.out (by omega) (by omega)).mono ?_
  rintro e w0 ⟨rfl, hb⟩
  have HB1 := Lib.hid (HB.out.trans (hb.mono HB.out.size))
  clear HB
  have HB := HB1
  clear HB1
  clear hb HSZ0
  by_cases hq0 : ((costRec 1 g0 : Nat) : Int) ≤ 1048576
  rotate_left
  · rw [left_no hq0]
    go_wp2
    go_ret
    exact ⟨rfl, HB.out⟩
  rw [left_yes hq0]
  have hq0' : ¬ (1048576 - ((costRec 1 g0 : Nat) : Int) < 0) := by omega
  go_wp2_with fail
  refine (HSZ1.out _ _ HB.out (by omega) (by omega)).mono ?_
  rintro e w0 ⟨rfl, hb⟩
  have HB1 := Lib.hid (HB.out.trans (hb.mono HB.out.size))
  clear HB
  have HB := HB1
  clear HB1
  clear hb HSZ1
  by_cases hq1 : ((costRec 1 g1 : Nat) : Int) ≤ 1048576 - ((costRec 1 g0 : Nat) : Int)
  rotate_left
  · rw [left_no hq1]
    go_wp2
    go_ret
    exact ⟨rfl, HB.out⟩
  rw [left_yes hq1]
  have hq1' : ¬ (1048576 - ((costRec 1 g0 : Nat) : Int) - ((costRec 1 g1 : Nat) : Int) < 0) := by omega
  obtain ⟨R, r1, htR, hcR, hS, hI⟩ := HM.out (by omega) (by omega)
  have HS := Lib.hid hS
  have HI := Lib.hid hI
  clear hS hI HM
  have HTO20 := Lib.hid (HTO0.out (by omega))
  clear HTO0
  have HTO21 := Lib.hid (HTO1.out (by omega))
  clear HTO1
  have HTR := Lib.hid htR
  have HCR := Lib.hid hcR
  clear htR hcR
  have HCX0 := Lib.hid (show cntRec 1 g0 ≤ 100000000000 by have h1 := cntRec_le (widrHypS HT0.out); omega)
  have HCX1 := Lib.hid (show cntRec 1 g1 ≤ 100000000000 by have h1 := cntRec_le (widrHypS HT1.out); omega)
  go_wp2_with fail
  refine (HTO20.out _ HB.out).mono ?_
  rintro e w1_0 ⟨ut0, rfl, ho, hb, hro⟩
  have HB1 := Lib.hid (HB.out.trans (hb.mono HB.out.size))
  clear HB
  have HB := HB1
  clear HB1
  have HU0 := Lib.hid ho.reads
  have HRO0 := Lib.hid hro
  clear ho hb hro
  go_wp2_with fail
  refine (HTO21.out _ HB.out).mono ?_
  rintro e w1_1 ⟨ut1, rfl, ho, hb, hro⟩
  have HB1 := Lib.hid (HB.out.trans (hb.mono HB.out.size))
  clear HB
  have HB := HB1
  clear HB1
  have HU01 := Lib.hid (HU0.out.kept hb)
  clear HU0
  have HU0 := HU01
  clear HU01
  have HU1 := Lib.hid ho.reads
  have HRO1 := Lib.hid hro
  clear ho hb hro
  have z1 := HB.out.size
  go_wp2_with fail
  refine (HS.out _ ut0 ut1 HU0.out HRO0.out HU1.out HRO1.out).mono ?_
  rintro e w2 ⟨xw, rfl, ho, hb⟩
  have HB1 := Lib.hid (HB.out.trans (hb.mono HB.out.size))
  clear HB
  have HB := HB1
  clear HB1
  have HW := Lib.hid ho
  have z2 := hb.size
  clear ho hb HU0 HRO0 HU1 HRO1
  go_wp2_with fail
  refine (HTO20.out _ HB.out).mono ?_
  rintro e w3_0 ⟨us0, rfl, ho, hb, hro⟩
  have HB1 := Lib.hid (HB.out.trans (hb.mono HB.out.size))
  clear HB
  have HB := HB1
  clear HB1
  have HW1 := Lib.hid (HW.out.kept hb)
  clear HW
  have HW := HW1
  clear HW1
  have HX0 := Lib.hid ho
  have HRO0 := Lib.hid hro
  have z3_0 := hb.size
  clear ho hb hro
  go_wp2_with fail
  refine (HTO21.out _ HB.out).mono ?_
  rintro e w3_1 ⟨us1, rfl, ho, hb, hro⟩
  have HB1 := Lib.hid (HB.out.trans (hb.mono HB.out.size))
  clear HB
  have HB := HB1
  clear HB1
  have HW1 := Lib.hid (HW.out.kept hb)
  clear HW
  have HW := HW1
  clear HW1
  have HX01 := Lib.hid (HX0.out.kept hb)
  clear HX0
  have HX0 := HX01
  clear HX01
  have HX1 := Lib.hid ho
  have HRO1 := Lib.hid hro
  have z3_1 := hb.size
  clear ho hb hro
  go_wp2_with fail
  refine (HI.out _ us0 us1 HX0.out.reads HRO0.out HX1.out.reads HRO1.out).mono ?_
  rintro e w4 ⟨xg, rfl, ho, hb⟩
  have HB1 := Lib.hid (HB.out.trans (hb.mono HB.out.size))
  clear HB
  have HB := HB1
  clear HB1
  have HW1 := Lib.hid (HW.out.kept hb)
  clear HW
  have HW := HW1
  clear HW1
  have HX01 := Lib.hid (HX0.out.kept hb)
  clear HX0
  have HX0 := HX01
  clear HX01
  have HX11 := Lib.hid (HX1.out.kept hb)
  clear HX1
  have HX1 := HX11
  clear HX11
  have HG := Lib.hid ho
  have z4 := hb.size
  clear ho hb HRO0 HRO1
  have hDW_X0 : ∀ x, iv w1_1.heap.size w2.heap.size x → iv w2.heap.size w3_0.heap.size x → False := fun x h1 h2 => by unfold iv at *; omega
  have hDG_X0 : ∀ x, iv w3_1.heap.size w4.heap.size x → iv w2.heap.size w3_0.heap.size x → False := fun x h1 h2 => by unfold iv at *; omega
  have hDX1_X0 : ∀ x, iv w3_0.heap.size w3_1.heap.size x → iv w2.heap.size w3_0.heap.size x → False := fun x h1 h2 => by unfold iv at *; omega
  have hDW_X1 : ∀ x, iv w1_1.heap.size w2.heap.size x → iv w3_0.heap.size w3_1.heap.size x → False := fun x h1 h2 => by unfold iv at *; omega
  have hDG_X1 : ∀ x, iv w3_1.heap.size w4.heap.size x → iv w3_0.heap.size w3_1.heap.size x → False := fun x h1 h2 => by unfold iv at *; omega
  have hDW_G : ∀ x, iv w1_1.heap.size w2.heap.size x → iv w3_1.heap.size w4.heap.size x → False := fun x h1 h2 => by unfold iv at *; omega
  have hEX0 : ∀ x, iv w2.heap.size w3_0.heap.size x → w.heap.size ≤ x := fun x h => by unfold iv at *; omega
  have hEX1 : ∀ x, iv w3_0.heap.size w3_1.heap.size x → w.heap.size ≤ x := fun x h => by unfold iv at *; omega
  have hEG : ∀ x, iv w3_1.heap.size w4.heap.size x → w.heap.size ≤ x := fun x h => by unfold iv at *; omega
  have HDW_X0 := Lib.hid hDW_X0
  clear hDW_X0
  have HDG_X0 := Lib.hid hDG_X0
  clear hDG_X0
  have HDX1_X0 := Lib.hid hDX1_X0
  clear hDX1_X0
  have HDW_X1 := Lib.hid hDW_X1
  clear hDW_X1
  have HDG_X1 := Lib.hid hDG_X1
  clear hDG_X1
  have HDW_G := Lib.hid hDW_G
  clear hDW_G
  have HEX0 := Lib.hid hEX0
  clear hEX0
  have HEX1 := Lib.hid hEX1
  clear hEX1
  have HEG := Lib.hid hEG
  clear hEG
  clear z1 z2 z3_0 z3_1 z4
  all_goals
    go_wp2_with fail
    refine (eqHypS_rec xg xw R _ HG.out.reads HW.out.reads HTR.out).mono ?_
    rintro e w5 ⟨rfl, hb⟩
    have HB1 := Lib.hid (HB.out.trans (hb.mono HB.out.size))
    clear HB
    have HB := HB1
    clear HB1
    have HW1 := Lib.hid (HW.out.kept hb)
    clear HW
    have HW := HW1
    clear HW1
    have HX01 := Lib.hid (HX0.out.kept hb)
    clear HX0
    have HX0 := HX01
    clear HX01
    have HX11 := Lib.hid (HX1.out.kept hb)
    clear HX1
    have HX1 := HX11
    clear HX11
    have HG1 := Lib.hid (HG.out.kept hb)
    clear HG
    have HG := HG1
    clear HG1
    clear hb
    go_wp2_with fail
    refine (HTO20.out _ HB.out).mono ?_
    rintro e w6_0 ⟨ua0, rfl, ho, hb, hro⟩
    have HB1 := Lib.hid (HB.out.trans (hb.mono HB.out.size))
    clear HB
    have HB := HB1
    clear HB1
    have HU := Lib.hid ho.reads
    have HW1 := Lib.hid (HW.out.kept hb)
    clear HW
    have HW := HW1
    clear HW1
    have HX01 := Lib.hid (HX0.out.kept hb)
    clear HX0
    have HX0 := HX01
    clear HX01
    have HX11 := Lib.hid (HX1.out.kept hb)
    clear HX1
    have HX1 := HX11
    clear HX11
    have HG1 := Lib.hid (HG.out.kept hb)
    clear HG
    have HG := HG1
    clear HG1
    clear ho hb hro
    go_wp2_with fail
    refine (eqHypS_rec us0 ua0 g0 _ HX0.out.reads HU.out HT0.out).mono ?_
    rintro e w7_0 ⟨rfl, hb⟩
    have HB1 := Lib.hid (HB.out.trans (hb.mono HB.out.size))
    clear HB
    have HB := HB1
    clear HB1
    have HW1 := Lib.hid (HW.out.kept hb)
    clear HW
    have HW := HW1
    clear HW1
    have HX01 := Lib.hid (HX0.out.kept hb)
    clear HX0
    have HX0 := HX01
    clear HX01
    have HX11 := Lib.hid (HX1.out.kept hb)
    clear HX1
    have HX1 := HX11
    clear HX11
    have HG1 := Lib.hid (HG.out.kept hb)
    clear HG
    have HG := HG1
    clear HG1
    clear hb
    clear HU
    go_wp2_with fail
    refine (HTO21.out _ HB.out).mono ?_
    rintro e w6_1 ⟨ua1, rfl, ho, hb, hro⟩
    have HB1 := Lib.hid (HB.out.trans (hb.mono HB.out.size))
    clear HB
    have HB := HB1
    clear HB1
    have HU := Lib.hid ho.reads
    have HW1 := Lib.hid (HW.out.kept hb)
    clear HW
    have HW := HW1
    clear HW1
    have HX01 := Lib.hid (HX0.out.kept hb)
    clear HX0
    have HX0 := HX01
    clear HX01
    have HX11 := Lib.hid (HX1.out.kept hb)
    clear HX1
    have HX1 := HX11
    clear HX11
    have HG1 := Lib.hid (HG.out.kept hb)
    clear HG
    have HG := HG1
    clear HG1
    clear ho hb hro
    go_wp2_with fail
    refine (eqHypS_rec us1 ua1 g1 _ HX1.out.reads HU.out HT1.out).mono ?_
    rintro e w7_1 ⟨rfl, hb⟩
    have HB1 := Lib.hid (HB.out.trans (hb.mono HB.out.size))
    clear HB
    have HB := HB1
    clear HB1
    have HW1 := Lib.hid (HW.out.kept hb)
    clear HW
    have HW := HW1
    clear HW1
    have HX01 := Lib.hid (HX0.out.kept hb)
    clear HX0
    have HX0 := HX01
    clear HX01
    have HX11 := Lib.hid (HX1.out.kept hb)
    clear HX1
    have HX1 := HX11
    clear HX11
    have HG1 := Lib.hid (HG.out.kept hb)
    clear HG
    have HG := HG1
    clear HG1
    clear hb
    clear HU
    go_wp2_with fail
    refine (markHypS_rec us0 g0 _ 1 _ _ (by rfl) (by omega) (by have := HCX0.out; omega) HX0.out HT0.out).mono ?_
    rintro e w8_0 ⟨rfl, -, ho⟩
    have HB1 := Lib.hid (HB.out.trans (ho.below HEX0.out HB.out.size))
    clear HB
    have HB := HB1
    clear HB1
    have HW1 := Lib.hid (HW.out.only ho HDW_X0.out)
    have HG1 := Lib.hid (HG.out.only ho HDG_X0.out)
    have HX11 := Lib.hid (HX1.out.only ho HDX1_X0.out)
    clear ho HW HG HX1 HX0
    have HW := HW1
    clear HW1
    have HG := HG1
    clear HG1
    have HX1 := HX11
    clear HX11
    obtain ⟨y0, hy0⟩ : ∃ y, 1 + cntRec 1 g0 = y := ⟨_, rfl⟩
    rw [hy0]
    have hyb0 : 1 ≤ y0 ∧ y0 ≤ 100000000001 := by have := HCX0.out; omega
    clear hy0
    go_wp2_with fail
    refine (markHypS_rec us1 g1 _ y0 _ _ (by rfl) (by omega) (by have := HCX1.out; omega) HX1.out HT1.out).mono ?_
    rintro e w8_1 ⟨rfl, -, ho⟩
    have HB1 := Lib.hid (HB.out.trans (ho.below HEX1.out HB.out.size))
    clear HB
    have HB := HB1
    clear HB1
    have HW1 := Lib.hid (HW.out.only ho HDW_X1.out)
    have HG1 := Lib.hid (HG.out.only ho HDG_X1.out)
    clear ho HW HG HX1
    have HW := HW1
    clear HW1
    have HG := HG1
    clear HG1
    obtain ⟨y1, hy1⟩ : ∃ y, y0 + cntRec 1 g1 = y := ⟨_, rfl⟩
    rw [hy1]
    have hyb1 : 1 ≤ y1 ∧ y1 ≤ 200000000001 := by have := HCX1.out; omega
    clear hy1
    have hn1 : ¬ ((y1 : Int) < 0) := by omega
    go_wp2_with fail
    refine (eqHypS_rec xg xw R _ HG.out.reads HW.out.reads HTR.out).mono ?_
    rintro e w9 ⟨rfl, hb⟩
    have HB1 := Lib.hid (HB.out.trans (hb.mono HB.out.size))
    clear HB
    have HB := HB1
    clear HB1
    have HW1 := Lib.hid (HW.out.kept hb)
    clear HW
    have HW := HW1
    clear HW1
    have HG1 := Lib.hid (HG.out.kept hb)
    clear HG
    have HG := HG1
    clear HG1
    clear hb
    go_wp2_with fail
    refine (markHypS_rec xg R _ 1 _ _ (by rfl) (by omega) (by have := HCR.out; omega) HG.out HTR.out).mono ?_
    rintro e w10 ⟨rfl, hq, ho⟩
    have HB1 := Lib.hid (HB.out.trans (ho.below HEG.out HB.out.size))
    clear HB
    have HB := HB1
    clear HB1
    have HW1 := Lib.hid (HW.out.only ho HDW_G.out)
    clear HW HG ho
    have HW := HW1
    have HG := Lib.hid hq
    clear HW1 hq
    generalize hz2n : 1 + cntRec 1 R = z2
    have HN2 := Lib.hid hz2n
    clear hz2n
    have hn2 : ¬ ((z2 : Int) < 0) := by omega
    have hn3 : ((z2 : Int) != (z2 : Int)) = false := by simp
    go_wp2_with fail
    refine (heldHypS_rec xg R 1 _ _ (by rfl) (by omega) (by have := HCR.out; omega) HG.out.reads HTR.out).mono ?_
    rintro e w11 ⟨rfl, hb⟩
    rw [HN2.out]
    have HB1 := Lib.hid (HB.out.trans (hb.mono HB.out.size))
    clear HB
    have HB := HB1
    clear HB1
    have HW1 := Lib.hid (HW.out.kept hb)
    clear HW
    have HW := HW1
    clear HW1
    have HG1 := Lib.hid (HG.out.kept hb)
    clear HG
    have HG := HG1
    clear HG1
    clear hb
    go_wp2_with fail
    refine (HTO20.out _ HB.out).mono ?_
    rintro e w12_0 ⟨uu0, rfl, ho, hb, hro⟩
    have HB1 := Lib.hid (HB.out.trans (hb.mono HB.out.size))
    clear HB
    have HB := HB1
    clear HB1
    have HW1 := Lib.hid (HW.out.kept hb)
    clear HW
    have HW := HW1
    clear HW1
    have HG1 := Lib.hid (HG.out.kept hb)
    clear HG
    have HG := HG1
    clear HG1
    have HU0 := Lib.hid ho.reads
    have HRO0 := Lib.hid hro
    clear ho hb hro
    go_wp2_with fail
    refine (HTO21.out _ HB.out).mono ?_
    rintro e w12_1 ⟨uu1, rfl, ho, hb, hro⟩
    have HB1 := Lib.hid (HB.out.trans (hb.mono HB.out.size))
    clear HB
    have HB := HB1
    clear HB1
    have HW1 := Lib.hid (HW.out.kept hb)
    clear HW
    have HW := HW1
    clear HW1
    have HG1 := Lib.hid (HG.out.kept hb)
    clear HG
    have HG := HG1
    clear HG1
    have HU01 := Lib.hid (HU0.out.kept hb)
    clear HU0
    have HU0 := HU01
    clear HU01
    have HU1 := Lib.hid ho.reads
    have HRO1 := Lib.hid hro
    clear ho hb hro
    go_wp2_with fail
    refine (HI.out _ uu0 uu1 HU0.out HRO0.out HU1.out HRO1.out).mono ?_
    rintro e w13 ⟨xh, rfl, ho, hb⟩
    have HB1 := Lib.hid (HB.out.trans (hb.mono HB.out.size))
    clear HB
    have HB := HB1
    clear HB1
    have HH := Lib.hid ho.reads
    have HW1 := Lib.hid (HW.out.kept hb)
    clear HW
    have HW := HW1
    clear HW1
    have HG1 := Lib.hid (HG.out.kept hb)
    clear HG
    have HG := HG1
    clear HG1
    clear ho hb HU0 HRO0 HU1 HRO1
    go_wp2_with fail
    refine (eqHypS_rec xh xw R _ HH.out HW.out.reads HTR.out).mono ?_
    rintro e w14 ⟨rfl, hb⟩
    have HB1 := Lib.hid (HB.out.trans (hb.mono HB.out.size))
    clear HB
    have HB := HB1
    clear HB1
    have HW1 := Lib.hid (HW.out.kept hb)
    clear HW
    have HW := HW1
    clear HW1
    have HG1 := Lib.hid (HG.out.kept hb)
    clear HG
    have HG := HG1
    clear HG1
    clear hb
    clear HH
    go_wp2_with fail
    refine (heldHypS_rec xg R 1 _ _ (by rfl) (by omega) (by have := HCR.out; omega) HG.out.reads HTR.out).mono ?_
    rintro e w15 ⟨rfl, hb⟩
    rw [HN2.out]
    have HB1 := Lib.hid (HB.out.trans (hb.mono HB.out.size))
    clear HB
    have HB := HB1
    clear HB1
    clear hb
    go_wp2
    go_ret
    exact ⟨rfl, HB.out⟩

end Go.Proofs.Ytofgdgdmmlgmnaa.wMergeHyps
