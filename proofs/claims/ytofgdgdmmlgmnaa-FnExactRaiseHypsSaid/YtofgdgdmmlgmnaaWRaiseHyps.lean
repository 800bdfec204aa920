/-
  Proved: the walk of the law on RaiseHyps, out of what the two functions return.
  Conditions: what the two functions return for arguments that read as the law's own.
-/
import Derived.Test.YtofgdgdmmlgmnaaOpen
import Derived.Test.YtofgdgdmmlgmnaaWid
namespace Go.Proofs.Ytofgdgdmmlgmnaa.wRaiseHyps
open Go.ChangeShapes Go.WideShapes Go.ChangeAt Go.RowKit Go.Joins
set_option linter.unusedVariables false
set_option linter.unusedSimpArgs false
open Go.Proofs.Ytofgdgdmmlgmnaa.core
/-- The copy of a list, and that its room is not less than its length. -/
theorem to_room (vs : Nat → Value) (g : Nat → Dat) (w : World) (hq : costRec 1 g ≤ 1048576) (hr : ReadsRec w 1 vs g) (ht : tyrHypS g) :
    Calls Try.prog 17 #[vs 0] w fun e w' => ∃ us : Nat → Value, e = .returned (us 0) ∧ OwnRec w' 1 us g (iv w.heap.size w'.heap.size) ∧ Below w.heap.size w w' ∧ ∃ (A : Option Addr) (n c : Nat), us 0 = .slice A n c ∧ n ≤ c := by
  have ht' := ht
  obtain ⟨n, f, hg, hf⟩ := ht
  have h0 := hr 0 (by omega)
  rw [hg] at h0
  obtain ⟨A, c, hv, hn, hR⟩ := h0.sl_inv
  have hc : cost (.sl n 2 f) ≤ 1048576 := by
    have e : costRec 1 g = cost (.sl n 2 f) := by simp [costRec, sumTo, hg]
    rw [← e]; exact hq
  rw [hv]
  refine (toHypS_calls A n c f w hc hn hR ⟨n, f, rfl, hf⟩).mono ?_
  rintro e w' ⟨G, rfl, ho, hb⟩
  refine ⟨fun _ => .slice (some ⟨G, 0, none⟩) n n, rfl, ⟨fun _ => iv w.heap.size w'.heap.size, fun j hj => ?_, fun _ x _ hx => ⟨hx, hx.2⟩, fun i j x hi hj _ _ => by omega⟩, hb, _, _, _, rfl, Nat.le_refl _⟩
  obtain rfl : j = 0 := by omega
  rw [hg]
  exact ho

set_option maxRecDepth 100000 in
set_option maxHeartbeats 8000000 in
theorem walk (vs0 : Nat → Value) (g0 : Nat → Dat) (a1 : Int) (w : World) (hr0 : ReadsRec w 1 vs0 g0) (ht0 : tyrHypS g0) 
    (hm : costRec 1 g0 ≤ 1048576 → ∃ (R : Nat → Dat) (r1 : Int), tyrHypS R ∧ cntRec 1 R ≤ 100000000000 ∧ (∀ (W : World) (us0 : Nat → Value), ReadsRec W 1 us0 g0 → (∃ (A : Option Addr) (n c : Nat), us0 0 = .slice A n c ∧ n ≤ c) → Calls Try.prog 31 #[us0 0, .int .i64 a1] W fun e W' => ∃ xs : Nat → Value, e = .returned (.tuple #[xs 0, .int .i64 r1]) ∧ OwnRec W' 1 xs R (iv W.heap.size W'.heap.size) ∧ Below W.heap.size W W') ∧ (∀ (W : World) (us0 : Nat → Value), ReadsRec W 1 us0 g0 → (∃ (A : Option Addr) (n c : Nat), us0 0 = .slice A n c ∧ n ≤ c) → Calls Try.prog 32 #[us0 0, .int .i64 a1] W fun e W' => ∃ xs : Nat → Value, e = .returned (.tuple #[xs 0, .int .i64 r1]) ∧ OwnRec W' 1 xs R (iv W.heap.size W'.heap.size) ∧ Below W.heap.size W W')) :
    Calls Try.prog 9 #[vs0 0, .int .i64 a1] w fun e w' => e = .returned (.bool true) ∧ Below w.heap.size w w' := by
  have HT := Lib.hid ht0
  obtain ⟨n, f, hg, hf⟩ := ht0
  have hq0 := hr0 0 (by omega)
  rw [hg] at hq0
  obtain ⟨A, c, hv, hn, -⟩ := hq0.sl_inv
  clear hq0
  have HRD := Lib.hid (fun (V : World) (hV : Below w.heap.size w V) => hr0.kept hV)
  have HM := Lib.hid hm
  clear hm
  have HTO := Lib.hid (fun (hq : costRec 1 g0 ≤ 1048576) (V : World) (hV : Below w.heap.size w V) => to_room vs0 g0 V hq (HRD.out V hV) HT.out)
  rw [hv] at HTO
  rw [hv]
  unfold maxLen at hn
  have HSZ := Lib.hid (szHypS_rec vs0 g0 1048576 w (by omega) (by omega) (HRD.out w (Below.refl _ _)) HT.out)
  rw [hv] at HSZ
  clear hg hf hv hr0
  go_enter Try.func9, Try.ntmps9
  go_wp2_with fail
  refine HSZ.out.mono ?_
  rintro e w0 ⟨rfl, hb⟩
  have HB := Lib.hid hb
  clear hb HSZ
  by_cases hq : ((costRec 1 g0 : Nat) : Int) ≤ 1048576
  rotate_left
  · rw [left_no hq]
    go_wp2
    go_ret
    exact ⟨rfl, HB.out⟩
  rw [left_yes hq]
  have hq' : ¬ (1048576 - ((costRec 1 g0 : Nat) : Int) < 0) := by omega
  have HQ := Lib.hid (show costRec 1 g0 ≤ 1048576 by omega)
  obtain ⟨R, r1, htR, hcR, hS, hI⟩ := HM.out  HQ.out
  have HS := Lib.hid hS
  have HI := Lib.hid hI
  clear hS hI HM
  have HTO2 := Lib.hid (HTO.out HQ.out)
  clear HTO
  have HTR := Lib.hid htR
  have HCR := Lib.hid hcR
  clear htR hcR
  have HCX := Lib.hid (show 1 + cntRec 1 g0 ≤ 1000000000000 by have h1 := cntRec_le (widrHypS HT.out); have h2 := HQ.out; omega)
  go_wp2_with fail
  refine (HTO2.out _ HB.out).mono ?_
  rintro e w1 ⟨ut, rfl, ho, hb, hro⟩
  have HB1 := Lib.hid (HB.out.trans (hb.mono HB.out.size))
  clear HB
  have HB := HB1
  clear HB1
  have HU := Lib.hid ho.reads
  have HRO := Lib.hid hro
  have z1 := HB.out.size
  clear ho hb hro
  go_wp2_with fail
  refine (HS.out _ ut HU.out HRO.out).mono ?_
  rintro e w2 ⟨xw, rfl, ho, hb⟩
  have HB1 := Lib.hid (HB.out.trans (hb.mono HB.out.size))
  clear HB
  have HB := HB1
  clear HB1
  have HW := Lib.hid ho
  have z2 := hb.size
  clear ho hb HU HRO
  go_wp2_with fail
  refine (HTO2.out _ HB.out).mono ?_
  rintro e w3 ⟨us, rfl, ho, hb, hro⟩
  have HB1 := Lib.hid (HB.out.trans (hb.mono HB.out.size))
  clear HB
  have HB := HB1
  clear HB1
  have HX := Lib.hid ho
  have HRO := Lib.hid hro
  have z3 := hb.size
  have HW1 := Lib.hid (HW.out.kept hb)
  clear HW
  have HW := HW1
  clear HW1
  clear ho hb hro
  go_wp2_with fail
  refine (HI.out _ us HX.out.reads HRO.out).mono ?_
  rintro e w4 ⟨xg, rfl, ho, hb⟩
  have HB1 := Lib.hid (HB.out.trans (hb.mono HB.out.size))
  clear HB
  have HB := HB1
  clear HB1
  have HG := Lib.hid ho
  have z4 := hb.size
  have HW1 := Lib.hid (HW.out.kept hb)
  clear HW
  have HW := HW1
  clear HW1
  have HX1 := Lib.hid (HX.out.kept hb)
  clear HX
  have HX := HX1
  clear HX1
  clear ho hb HRO
  have hD1 : ∀ x, iv w1.heap.size w2.heap.size x → iv w2.heap.size w3.heap.size x → False := fun x h1 h2 => by unfold iv at *; omega
  have hD2 : ∀ x, iv w1.heap.size w2.heap.size x → iv w3.heap.size w4.heap.size x → False := fun x h1 h2 => by unfold iv at *; omega
  have hD3 : ∀ x, iv w3.heap.size w4.heap.size x → iv w2.heap.size w3.heap.size x → False := fun x h1 h2 => by unfold iv at *; omega
  have hE2 : ∀ x, iv w2.heap.size w3.heap.size x → w.heap.size ≤ x := fun x h => by unfold iv at *; omega
  have hE3 : ∀ x, iv w3.heap.size w4.heap.size x → w.heap.size ≤ x := fun x h => by unfold iv at *; omega
  have HD1 := Lib.hid hD1
  clear hD1
  have HD2 := Lib.hid hD2
  clear hD2
  have HD3 := Lib.hid hD3
  clear hD3
  have HE2 := Lib.hid hE2
  clear hE2
  have HE3 := Lib.hid hE3
  clear hE3
  clear z1 z2 z3 z4
  all_goals
    go_wp2_with fail
    refine (eqHypS_rec xg xw R _ HG.out.reads HW.out.reads HTR.out).mono ?_
    rintro e w5 ⟨rfl, hb⟩
    have HB1 := Lib.hid (HB.out.trans (hb.mono HB.out.size))
    clear HB
    have HB := HB1
    clear HB1
    have HW1 := Lib.hid (HW.out.kept hb)
    clear HW
    have HW := HW1
    clear HW1
    have HX1 := Lib.hid (HX.out.kept hb)
    clear HX
    have HX := HX1
    clear HX1
    have HG1 := Lib.hid (HG.out.kept hb)
    clear HG
    have HG := HG1
    clear HG1
    clear hb
    go_wp2_with fail
    refine (HTO2.out _ HB.out).mono ?_
    rintro e w6 ⟨ua, rfl, ho, hb, hro⟩
    have HB1 := Lib.hid (HB.out.trans (hb.mono HB.out.size))
    clear HB
    have HB := HB1
    clear HB1
    have HU := Lib.hid ho.reads
    have HW1 := Lib.hid (HW.out.kept hb)
    clear HW
    have HW := HW1
    clear HW1
    have HX1 := Lib.hid (HX.out.kept hb)
    clear HX
    have HX := HX1
    clear HX1
    have HG1 := Lib.hid (HG.out.kept hb)
    clear HG
    have HG := HG1
    clear HG1
    clear ho hb hro
    go_wp2_with fail
    refine (eqHypS_rec us ua g0 _ HX.out.reads HU.out HT.out).mono ?_
    rintro e w7 ⟨rfl, hb⟩
    have HB1 := Lib.hid (HB.out.trans (hb.mono HB.out.size))
    clear HB
    have HB := HB1
    clear HB1
    have HW1 := Lib.hid (HW.out.kept hb)
    clear HW
    have HW := HW1
    clear HW1
    have HX1 := Lib.hid (HX.out.kept hb)
    clear HX
    have HX := HX1
    clear HX1
    have HG1 := Lib.hid (HG.out.kept hb)
    clear HG
    have HG := HG1
    clear HG1
    clear hb
    clear HU
    go_wp2_with fail
    refine (markHypS_rec us g0 _ 1 _ _ (by rfl) (by omega) HCX.out HX.out HT.out).mono ?_
    rintro e w8 ⟨rfl, -, ho⟩
    have HB1 := Lib.hid (HB.out.trans (ho.below HE2.out HB.out.size))
    clear HB
    have HB := HB1
    clear HB1
    have HW1 := Lib.hid (HW.out.only ho HD1.out)
    have HG1 := Lib.hid (HG.out.only ho HD3.out)
    clear HW HG HX ho
    have HW := HW1
    have HG := HG1
    clear HW1 HG1
    generalize 1 + cntRec 1 g0 = z1
    have hn1 : ¬ ((z1 : Int) < 0) := by omega
    go_wp2_with fail
    refine (eqHypS_rec xg xw R _ HG.out.reads HW.out.reads HTR.out).mono ?_
    rintro e w9 ⟨rfl, hb⟩
    have HB1 := Lib.hid (HB.out.trans (hb.mono HB.out.size))
    clear HB
    have HB := HB1
    clear HB1
    have HW1 := Lib.hid (HW.out.kept hb)
    clear HW
    have HW := HW1
    clear HW1
    have HG1 := Lib.hid (HG.out.kept hb)
    clear HG
    have HG := HG1
    clear HG1
    clear hb
    go_wp2_with fail
    refine (markHypS_rec xg R _ 1 _ _ (by rfl) (by omega) (by have := HCR.out; omega) HG.out HTR.out).mono ?_
    rintro e w10 ⟨rfl, hq, ho⟩
    have HB1 := Lib.hid (HB.out.trans (ho.below HE3.out HB.out.size))
    clear HB
    have HB := HB1
    clear HB1
    have HW1 := Lib.hid (HW.out.only ho HD2.out)
    clear HW HG ho
    have HW := HW1
    have HG := Lib.hid hq
    clear HW1 hq
    generalize hz2n : 1 + cntRec 1 R = z2
    have HN2 := Lib.hid hz2n
    clear hz2n
    have hn2 : ¬ ((z2 : Int) < 0) := by omega
    have hn3 : ((z2 : Int) != (z2 : Int)) = false := by simp
    go_wp2_with fail
    refine (heldHypS_rec xg R 1 _ _ (by rfl) (by omega) (by have := HCR.out; omega) HG.out.reads HTR.out).mono ?_
    rintro e w11 ⟨rfl, hb⟩
    rw [HN2.out]
    have HB1 := Lib.hid (HB.out.trans (hb.mono HB.out.size))
    clear HB
    have HB := HB1
    clear HB1
    have HW1 := Lib.hid (HW.out.kept hb)
    clear HW
    have HW := HW1
    clear HW1
    have HG1 := Lib.hid (HG.out.kept hb)
    clear HG
    have HG := HG1
    clear HG1
    clear hb
    go_wp2_with fail
    refine (HTO2.out _ HB.out).mono ?_
    rintro e w12 ⟨uu, rfl, ho, hb, hro⟩
    have HB1 := Lib.hid (HB.out.trans (hb.mono HB.out.size))
    clear HB
    have HB := HB1
    clear HB1
    have HU := Lib.hid ho.reads
    have HRO := Lib.hid hro
    have HW1 := Lib.hid (HW.out.kept hb)
    clear HW
    have HW := HW1
    clear HW1
    have HG1 := Lib.hid (HG.out.kept hb)
    clear HG
    have HG := HG1
    clear HG1
    clear ho hb hro
    go_wp2_with fail
    refine (HI.out _ uu HU.out HRO.out).mono ?_
    rintro e w13 ⟨xh, rfl, ho, hb⟩
    have HB1 := Lib.hid (HB.out.trans (hb.mono HB.out.size))
    clear HB
    have HB := HB1
    clear HB1
    have HH := Lib.hid ho.reads
    have HW1 := Lib.hid (HW.out.kept hb)
    clear HW
    have HW := HW1
    clear HW1
    have HG1 := Lib.hid (HG.out.kept hb)
    clear HG
    have HG := HG1
    clear HG1
    clear ho hb HU HRO
    go_wp2_with fail
    refine (eqHypS_rec xh xw R _ HH.out HW.out.reads HTR.out).mono ?_
    rintro e w14 ⟨rfl, hb⟩
    have HB1 := Lib.hid (HB.out.trans (hb.mono HB.out.size))
    clear HB
    have HB := HB1
    clear HB1
    have HW1 := Lib.hid (HW.out.kept hb)
    clear HW
    have HW := HW1
    clear HW1
    have HG1 := Lib.hid (HG.out.kept hb)
    clear HG
    have HG := HG1
    clear HG1
    clear hb
    clear HH
    go_wp2_with fail
    refine (heldHypS_rec xg R 1 _ _ (by rfl) (by omega) (by have := HCR.out; omega) HG.out.reads HTR.out).mono ?_
    rintro e w15 ⟨rfl, hb⟩
    rw [HN2.out]
    have HB1 := Lib.hid (HB.out.trans (hb.mono HB.out.size))
    clear HB
    have HB := HB1
    clear HB1
    clear hb
    go_wp2
    go_ret
    exact ⟨rfl, HB.out⟩

end Go.Proofs.Ytofgdgdmmlgmnaa.wRaiseHyps
