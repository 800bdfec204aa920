/-
  Proved: the walk of the law on NewPerceptron, out of what the two functions return.
  Conditions: what the two functions return for arguments that read as the law's own.
-/
import Derived.Test.YtimkochgnjggdaaOpen
import Derived.Test.YtimkochgnjggdaaWid
import Derived.Deep.RegionHeld3
import Derived.Deep.DeepCutAuto
namespace Go.Proofs.Ytimkochgnjggdaa.wNewPerceptron
open Go.ChangeShapes Go.WideShapes Go.ChangeAt Go.RowKit Go.Joins
set_option linter.unusedVariables false
set_option linter.unusedSimpArgs false
open Go.Proofs.Ytimkochgnjggdaa.core
section
variable {W W' : World}
theorem bx2_at {b T : Nat} {us : Nat → Value} (h : W.heap[b]? = some (.cells #[us 0, us 1] T (0, 0))) : W.cell? ⟨b, 0, none⟩ = some (us 0) ∧ W.cell? ⟨b, 1, none⟩ = some (us 1) := ⟨by rw [cell_of_block h]; rfl, by rw [cell_of_block h]; rfl⟩
theorem blk_lt {b : Nat} {o : Obj} (h : W.heap[b]? = some o) : b < W.heap.size := (Array.getElem?_eq_some_iff.1 h).1
end
/-- The copy of a list, and that its room is not less than its length. -/
theorem to_roomStringS (vs : Nat → Value) (g : Nat → Dat) (w : World) (hq : costRec 1 g ≤ 1048576) (hr : ReadsRec w 1 vs g) (ht : tyrStringS g) :
    Calls Try.prog 24 #[vs 0] w fun e w' => ∃ us : Nat → Value, e = .returned (us 0) ∧ OwnRec w' 1 us g (iv w.heap.size w'.heap.size) ∧ Below w.heap.size w w' ∧ ∃ (A : Option Addr) (n c : Nat), us 0 = .slice A n c ∧ n ≤ c := by
  have ht' := ht
  obtain ⟨n, f, hg, hf⟩ := ht
  have h0 := hr 0 (by omega)
  rw [hg] at h0
  obtain ⟨A, c, hv, hn, hR⟩ := h0.sl_inv
  have hc : cost (.sl n 1 f) ≤ 1048576 := by
    have e : costRec 1 g = cost (.sl n 1 f) := by simp [costRec, sumTo, hg]
    rw [← e]; exact hq
  rw [hv]
  refine (toStringS_calls A n c f w hc hn hR ⟨n, f, rfl, hf⟩).mono ?_
  rintro e w' ⟨G, rfl, ho, hb⟩
  refine ⟨fun _ => .slice (some ⟨G, 0, none⟩) n n, rfl, ⟨fun _ => iv w.heap.size w'.heap.size, fun j hj => ?_, fun _ x _ hx => ⟨hx, hx.2⟩, fun i j x hi hj _ _ => by omega⟩, hb, _, _, _, rfl, Nat.le_refl _⟩
  obtain rfl : j = 0 := by omega
  rw [hg]
  exact ho

set_option maxRecDepth 100000 in
set_option maxHeartbeats 16000000 in
theorem walk (vs0 : Nat → Value) (g0 : Nat → Dat) (w : World) (hr0 : ReadsRec w 1 vs0 g0) (ht0 : tyrStringS g0)
    (hm : costRec 1 g0 ≤ 1048576 → ∃ (R : Nat → Dat) (r1 : Int), tyrPerceptron R ∧ cntRec 2 R ≤ 100000000000 ∧ (∀ (W : World) (us0 : Nat → Value), ReadsRec W 1 us0 g0 → (∃ (A : Option Addr) (n c : Nat), us0 0 = .slice A n c ∧ n ≤ c) → Calls Try.prog 23 #[us0 0] W fun e W' => ∃ xs : Nat → Value, e = .returned (.tuple #[.agg #[xs 0, xs 1], .int .i64 r1]) ∧ OwnRec W' 2 xs R (iv W.heap.size W'.heap.size) ∧ Below W.heap.size W W') ∧ (∀ (W : World) (us0 : Nat → Value), ReadsRec W 1 us0 g0 → (∃ (A : Option Addr) (n c : Nat), us0 0 = .slice A n c ∧ n ≤ c) → Calls Try.prog 25 #[us0 0] W fun e W' => ∃ xs : Nat → Value, e = .returned (.tuple #[.agg #[xs 0, xs 1], .int .i64 r1]) ∧ OwnRec W' 2 xs R (iv W.heap.size W'.heap.size) ∧ Below W.heap.size W W')) :
    Calls Try.prog 4 #[vs0 0] w fun e w' => e = .returned (.bool true) ∧ Below w.heap.size w w' := by
  have HT0 := Lib.hid ht0
  have HRD0 := Lib.hid (fun (V : World) (hV : Below w.heap.size w V) => hr0.kept hV)
  obtain ⟨n0, f0, hg0, hf0⟩ := ht0
  have hq0 := hr0 0 (by omega)
  rw [hg0] at hq0
  obtain ⟨A0, c0, hv0, hn0, -⟩ := hq0.sl_inv
  clear hq0
  have HTO0 := Lib.hid (fun (hq : costRec 1 g0 ≤ 1048576) (V : World) (hV : Below w.heap.size w V) => to_roomStringS vs0 g0 V hq (HRD0.out V hV) HT0.out)
  have HSZ0 := Lib.hid (fun (left : Int) (V : World) (hV : Below w.heap.size w V) (h1 : _) (h2 : _) => szStringS_rec vs0 g0 left V h1 h2 (HRD0.out V hV) HT0.out)
  rw [hv0] at HTO0 HSZ0
  rw [hv0]
  unfold maxLen at hn0
  clear hg0 hf0 hv0 hr0
  have HM := Lib.hid hm
  clear hm
  have HB := Lib.hid (Below.refl w.heap.size w)
  go_enter Try.func4, Try.ntmps4
  go_wp2_with fail
  refine (HSZ0.out _ _ HB.out (by omega) (by omega)).mono ?_
  rintro e wz0 ⟨rfl, hb⟩
  have zwz0 : w.heap.size ≤ wz0.heap.size := by have h := hb.size; (try simp at h); omega
  have HB1 := Lib.hid (HB.out.trans (hb.mono HB.out.size))
  clear HB
  have HB := HB1
  clear HB1
  clear hb HSZ0
  by_cases hq0 : ((costRec 1 g0 : Nat) : Int) ≤ 1048576
  rotate_left
  · rw [left_no hq0]
    go_wp2
    go_ret
    exact ⟨rfl, HB.out⟩
  rw [left_yes hq0]
  have hq0' : ¬ (1048576 - ((costRec 1 g0 : Nat) : Int) < 0) := by omega
  obtain ⟨R, r1, htR, hcR, hS, hI⟩ := HM.out (by omega)
  have HS := Lib.hid hS
  have HI := Lib.hid hI
  clear hS hI HM
  have HTO20 := Lib.hid (HTO0.out (by omega))
  clear HTO0
  have HTR := Lib.hid htR
  have HCR := Lib.hid hcR
  clear htR hcR
  have HCX0 := Lib.hid (show cntRec 1 g0 ≤ 100000000000 by have h1 := cntRec_le (widrStringS HT0.out); omega)
  go_wp2_with fail
  refine (HTO20.out _ HB.out).mono ?_
  rintro e wt0 ⟨ut0, rfl, ho, hb, hro⟩
  have zwt0 : wz0.heap.size ≤ wt0.heap.size := by have h := hb.size; (try simp at h); omega
  have HB1 := Lib.hid (HB.out.trans (hb.mono HB.out.size))
  clear HB
  have HB := HB1
  clear HB1
  have HU0 := Lib.hid ho.reads
  have HRO0 := Lib.hid hro
  clear hro
  clear ho hb
  go_wp2_with fail
  refine (HS.out _ ut0 HU0.out HRO0.out).mono ?_
  rintro e wS ⟨xw, rfl, ho, hb⟩
  have zwS : wt0.heap.size ≤ wS.heap.size := by have h := hb.size; (try simp at h); omega
  have HB1 := Lib.hid (HB.out.trans (hb.mono HB.out.size))
  clear HB
  have HB := HB1
  clear HB1
  have HU01 := Lib.hid (HU0.out.kept hb)
  clear HU0
  have HU0 := HU01
  clear HU01
  have stKW_0 : ∀ (a : Addr) (W : World), (store a (xw 0)).run Try.prog W = stored Try.prog W a (xw 0) .plain := fun a W => run_store _ _ _ _ _ (ho.reads 0 (by omega)).one
  have stKW_1 : ∀ (a : Addr) (W : World), (store a (xw 1)).run Try.prog W = stored Try.prog W a (xw 1) .plain := fun a W => run_store _ _ _ _ _ (ho.reads 1 (by omega)).one
  have HW := Lib.hid ho
  clear ho hb
  clear HU0 HRO0
  have ha := below_alloc1 wS (.cells #[xw 0, xw 1] 38)
  have HB1 := Lib.hid (HB.out.trans (ha.mono HB.out.size))
  clear HB
  have HB := HB1
  clear HB1
  have HW1 := Lib.hid (HW.out.kept ha)
  clear HW
  have HW := HW1
  clear HW1
  have KW := Lib.hid (heap_alloc_new wS (.cells #[xw 0, xw 1] 38))
  clear ha
  go_wp2_with fail
  refine (HTO20.out _ HB.out).mono ?_
  rintro e wx0 ⟨us0, rfl, ho, hb, hro⟩
  have zwx0 : wS.heap.size + 1 ≤ wx0.heap.size := by have h := hb.size; (try simp at h); omega
  have HB1 := Lib.hid (HB.out.trans (hb.mono HB.out.size))
  clear HB
  have HB := HB1
  clear HB1
  have KW1 := Lib.hid ((hb.block _ (blk_lt KW.out)).trans KW.out)
  clear KW
  have KW := KW1
  clear KW1
  have HW1 := Lib.hid (HW.out.kept hb)
  clear HW
  have HW := HW1
  clear HW1
  clear stKW_0 stKW_1
  have HX0 := Lib.hid (ho.mono (F' := iv (wS.heap.size + 1) wx0.heap.size) (fun x hx => by unfold iv at *; (try simp at hx); omega))
  have HRO0 := Lib.hid hro
  clear hro
  clear ho hb
  go_wp2_with fail
  refine (HI.out _ us0 HX0.out.reads HRO0.out).mono ?_
  rintro e wG ⟨xg, rfl, ho, hb⟩
  have zwG : wx0.heap.size ≤ wG.heap.size := by have h := hb.size; (try simp at h); omega
  have HB1 := Lib.hid (HB.out.trans (hb.mono HB.out.size))
  clear HB
  have HB := HB1
  clear HB1
  have KW1 := Lib.hid ((hb.block _ (blk_lt KW.out)).trans KW.out)
  clear KW
  have KW := KW1
  clear KW1
  have HW1 := Lib.hid (HW.out.kept hb)
  clear HW
  have HW := HW1
  clear HW1
  have HX01 := Lib.hid (HX0.out.kept hb)
  clear HX0
  have HX0 := HX01
  clear HX01
  have stKG_0 : ∀ (a : Addr) (W : World), (store a (xg 0)).run Try.prog W = stored Try.prog W a (xg 0) .plain := fun a W => run_store _ _ _ _ _ (ho.reads 0 (by omega)).one
  have stKG_1 : ∀ (a : Addr) (W : World), (store a (xg 1)).run Try.prog W = stored Try.prog W a (xg 1) .plain := fun a W => run_store _ _ _ _ _ (ho.reads 1 (by omega)).one
  have HG := Lib.hid ho
  clear ho hb
  clear HRO0
  have ha := below_alloc1 wG (.cells #[xg 0, xg 1] 38)
  have HB1 := Lib.hid (HB.out.trans (ha.mono HB.out.size))
  clear HB
  have HB := HB1
  clear HB1
  have KW1 := Lib.hid ((ha.block _ (blk_lt KW.out)).trans KW.out)
  clear KW
  have KW := KW1
  clear KW1
  have HW1 := Lib.hid (HW.out.kept ha)
  clear HW
  have HW := HW1
  clear HW1
  have HX01 := Lib.hid (HX0.out.kept ha)
  clear HX0
  have HX0 := HX01
  clear HX01
  have HG1 := Lib.hid (HG.out.kept ha)
  clear HG
  have HG := HG1
  clear HG1
  have KG := Lib.hid (heap_alloc_new wG (.cells #[xg 0, xg 1] 38))
  clear ha
  have HDW_X0 := Lib.hid (show ∀ x, iv (wt0.heap.size) wS.heap.size x → iv (wS.heap.size + 1) wx0.heap.size x → False from fun x h1 h2 => by unfold iv at *; omega)
  have HDG_X0 := Lib.hid (show ∀ x, iv (wx0.heap.size) wG.heap.size x → iv (wS.heap.size + 1) wx0.heap.size x → False from fun x h1 h2 => by unfold iv at *; omega)
  have HDW_G := Lib.hid (show ∀ x, iv (wt0.heap.size) wS.heap.size x → iv (wx0.heap.size) wG.heap.size x → False from fun x h1 h2 => by unfold iv at *; omega)
  have HEX0 := Lib.hid (show ∀ x, iv (wS.heap.size + 1) wx0.heap.size x → w.heap.size ≤ x from fun x h => by unfold iv at *; omega)
  have HNKW_X0 := Lib.hid (show ¬ iv (wS.heap.size + 1) wx0.heap.size (wS.heap.size) from fun h => by unfold iv at *; omega)
  have HNKG_X0 := Lib.hid (show ¬ iv (wS.heap.size + 1) wx0.heap.size (wG.heap.size) from fun h => by unfold iv at *; omega)
  have HEG := Lib.hid (show ∀ x, iv (wx0.heap.size) wG.heap.size x → w.heap.size ≤ x from fun x h => by unfold iv at *; omega)
  have HNKW_G := Lib.hid (show ¬ iv (wx0.heap.size) wG.heap.size (wS.heap.size) from fun h => by unfold iv at *; omega)
  have HNKG_G := Lib.hid (show ¬ iv (wx0.heap.size) wG.heap.size (wG.heap.size) from fun h => by unfold iv at *; omega)
  clear zwz0 zwt0 zwS zwx0 zwG
  all_goals
    obtain ⟨pg0, pg1⟩ := bx2_at (us := xg) KG.out
    have pgz := blk_lt KG.out
    obtain ⟨pw0, pw1⟩ := bx2_at (us := xw) KW.out
    have pwz := blk_lt KW.out
    go_wp2_with fail
    refine (eqPerceptron_rec xg xw R _ HG.out.reads HW.out.reads HTR.out).mono ?_
    rintro e w5 ⟨rfl, hb⟩
    clear stKG_0 stKG_1
    clear pg0 pg1 pgz
    clear pw0 pw1 pwz
    have HB1 := Lib.hid (HB.out.trans (hb.mono HB.out.size))
    clear HB
    have HB := HB1
    clear HB1
    have KW1 := Lib.hid ((hb.block _ (blk_lt KW.out)).trans KW.out)
    clear KW
    have KW := KW1
    clear KW1
    have KG1 := Lib.hid ((hb.block _ (blk_lt KG.out)).trans KG.out)
    clear KG
    have KG := KG1
    clear KG1
    have HW1 := Lib.hid (HW.out.kept hb)
    clear HW
    have HW := HW1
    clear HW1
    have HX01 := Lib.hid (HX0.out.kept hb)
    clear HX0
    have HX0 := HX01
    clear HX01
    have HG1 := Lib.hid (HG.out.kept hb)
    clear HG
    have HG := HG1
    clear HG1
    clear hb
    go_wp2_with fail
    refine (HTO20.out _ HB.out).mono ?_
    rintro e w6_0 ⟨ua0, rfl, ho, hb, hro⟩
    have HB1 := Lib.hid (HB.out.trans (hb.mono HB.out.size))
    clear HB
    have HB := HB1
    clear HB1
    have KW1 := Lib.hid ((hb.block _ (blk_lt KW.out)).trans KW.out)
    clear KW
    have KW := KW1
    clear KW1
    have KG1 := Lib.hid ((hb.block _ (blk_lt KG.out)).trans KG.out)
    clear KG
    have KG := KG1
    clear KG1
    have HW1 := Lib.hid (HW.out.kept hb)
    clear HW
    have HW := HW1
    clear HW1
    have HX01 := Lib.hid (HX0.out.kept hb)
    clear HX0
    have HX0 := HX01
    clear HX01
    have HG1 := Lib.hid (HG.out.kept hb)
    clear HG
    have HG := HG1
    clear HG1
    have HU := Lib.hid ho.reads
    clear ho hb hro
    go_wp2_with fail
    refine (eqStringS_rec us0 ua0 g0 _ HX0.out.reads HU.out HT0.out).mono ?_
    rintro e w7_0 ⟨rfl, hb⟩
    have HB1 := Lib.hid (HB.out.trans (hb.mono HB.out.size))
    clear HB
    have HB := HB1
    clear HB1
    have KW1 := Lib.hid ((hb.block _ (blk_lt KW.out)).trans KW.out)
    clear KW
    have KW := KW1
    clear KW1
    have KG1 := Lib.hid ((hb.block _ (blk_lt KG.out)).trans KG.out)
    clear KG
    have KG := KG1
    clear KG1
    have HW1 := Lib.hid (HW.out.kept hb)
    clear HW
    have HW := HW1
    clear HW1
    have HX01 := Lib.hid (HX0.out.kept hb)
    clear HX0
    have HX0 := HX01
    clear HX01
    have HG1 := Lib.hid (HG.out.kept hb)
    clear HG
    have HG := HG1
    clear HG1
    clear hb HU
    go_wp2_with fail
    refine (markStringS_rec us0 g0 _ 1 _ _ (by rfl) (by omega) (by have := HCX0.out; omega) HX0.out HT0.out).mono ?_
    rintro e w8_0 ⟨rfl, -, ho⟩
    have HB1 := Lib.hid (HB.out.trans (ho.below (fun x hx => Nat.le_trans (by omega) (HEX0.out x hx)) HB.out.size))
    clear HB
    have HB := HB1
    clear HB1
    have KW1 := Lib.hid ((ho.block _ (blk_lt KW.out) HNKW_X0.out).trans KW.out)
    clear KW
    have KW := KW1
    clear KW1
    have KG1 := Lib.hid ((ho.block _ (blk_lt KG.out) HNKG_X0.out).trans KG.out)
    clear KG
    have KG := KG1
    clear KG1
    have HW1 := Lib.hid (HW.out.only ho HDW_X0.out)
    clear HW
    have HW := HW1
    clear HW1
    have HG1 := Lib.hid (HG.out.only ho HDG_X0.out)
    clear HG
    have HG := HG1
    clear HG1
    clear ho HX0
    obtain ⟨y0, hy0⟩ : ∃ y, 1 + cntRec 1 g0 = y := ⟨_, rfl⟩
    rw [hy0]
    have hyb0 : 1 ≤ y0 ∧ y0 ≤ 100000000001 := by have := HCX0.out; omega
    clear hy0
    have hn1 : ¬ ((y0 : Int) < 0) := by omega
    obtain ⟨pg0, pg1⟩ := bx2_at (us := xg) KG.out
    have pgz := blk_lt KG.out
    obtain ⟨pw0, pw1⟩ := bx2_at (us := xw) KW.out
    have pwz := blk_lt KW.out
    go_wp2_with fail
    refine (eqPerceptron_rec xg xw R _ HG.out.reads HW.out.reads HTR.out).mono ?_
    rintro e w9 ⟨rfl, hb⟩
    clear pg0 pg1 pgz
    clear pw0 pw1 pwz
    have HB1 := Lib.hid (HB.out.trans (hb.mono HB.out.size))
    clear HB
    have HB := HB1
    clear HB1
    have KW1 := Lib.hid ((hb.block _ (blk_lt KW.out)).trans KW.out)
    clear KW
    have KW := KW1
    clear KW1
    have KG1 := Lib.hid ((hb.block _ (blk_lt KG.out)).trans KG.out)
    clear KG
    have KG := KG1
    clear KG1
    have HW1 := Lib.hid (HW.out.kept hb)
    clear HW
    have HW := HW1
    clear HW1
    have HG1 := Lib.hid (HG.out.kept hb)
    clear HG
    have HG := HG1
    clear HG1
    clear hb
    obtain ⟨pg0, pg1⟩ := bx2_at (us := xg) KG.out
    have pgz := blk_lt KG.out
    go_wp2_with fail
    refine (markPerceptron_rec xg R _ 1 _ _ (by rfl) (by omega) (by have := HCR.out; omega) HG.out HTR.out).mono ?_
    rintro e w10 ⟨rfl, hq, ho⟩
    clear pg0 pg1 pgz
    have HB1 := Lib.hid (HB.out.trans (ho.below (fun x hx => Nat.le_trans (by omega) (HEG.out x hx)) HB.out.size))
    clear HB
    have HB := HB1
    clear HB1
    have KW1 := Lib.hid ((ho.block _ (blk_lt KW.out) HNKW_G.out).trans KW.out)
    clear KW
    have KW := KW1
    clear KW1
    have KG1 := Lib.hid ((ho.block _ (blk_lt KG.out) HNKG_G.out).trans KG.out)
    clear KG
    have KG := KG1
    clear KG1
    have HW1 := Lib.hid (HW.out.only ho HDW_G.out)
    clear HW
    have HW := HW1
    clear HW1
    clear HG ho
    have HG := Lib.hid hq
    clear hq
    generalize hz2n : 1 + cntRec 2 R = z2
    have HN2 := Lib.hid hz2n
    clear hz2n
    have hn2 : ¬ ((z2 : Int) < 0) := by omega
    have hn3 : ((z2 : Int) != (z2 : Int)) = false := by simp
    obtain ⟨pg0, pg1⟩ := bx2_at (us := xg) KG.out
    have pgz := blk_lt KG.out
    go_wp2_with fail
    refine (heldPerceptron_rec xg R 1 _ _ (by rfl) (by omega) (by have := HCR.out; omega) HG.out.reads HTR.out).mono ?_
    rintro e w11 ⟨rfl, hb⟩
    rw [HN2.out]
    clear pg0 pg1 pgz
    have HB1 := Lib.hid (HB.out.trans (hb.mono HB.out.size))
    clear HB
    have HB := HB1
    clear HB1
    have KW1 := Lib.hid ((hb.block _ (blk_lt KW.out)).trans KW.out)
    clear KW
    have KW := KW1
    clear KW1
    have KG1 := Lib.hid ((hb.block _ (blk_lt KG.out)).trans KG.out)
    clear KG
    have KG := KG1
    clear KG1
    have HW1 := Lib.hid (HW.out.kept hb)
    clear HW
    have HW := HW1
    clear HW1
    have HG1 := Lib.hid (HG.out.kept hb)
    clear HG
    have HG := HG1
    clear HG1
    clear hb
    go_wp2_with fail
    refine (HTO20.out _ HB.out).mono ?_
    rintro e wu0 ⟨uu0, rfl, ho, hb, hro⟩
    have HB1 := Lib.hid (HB.out.trans (hb.mono HB.out.size))
    clear HB
    have HB := HB1
    clear HB1
    have KW1 := Lib.hid ((hb.block _ (blk_lt KW.out)).trans KW.out)
    clear KW
    have KW := KW1
    clear KW1
    have KG1 := Lib.hid ((hb.block _ (blk_lt KG.out)).trans KG.out)
    clear KG
    have KG := KG1
    clear KG1
    have HW1 := Lib.hid (HW.out.kept hb)
    clear HW
    have HW := HW1
    clear HW1
    have HG1 := Lib.hid (HG.out.kept hb)
    clear HG
    have HG := HG1
    clear HG1
    have HU0 := Lib.hid ho.reads
    have HRO0 := Lib.hid hro
    clear hro
    clear ho hb
    go_wp2_with fail
    refine (HI.out _ uu0 HU0.out HRO0.out).mono ?_
    rintro e wH ⟨xh, rfl, ho, hb⟩
    have HB1 := Lib.hid (HB.out.trans (hb.mono HB.out.size))
    clear HB
    have HB := HB1
    clear HB1
    have KW1 := Lib.hid ((hb.block _ (blk_lt KW.out)).trans KW.out)
    clear KW
    have KW := KW1
    clear KW1
    have KG1 := Lib.hid ((hb.block _ (blk_lt KG.out)).trans KG.out)
    clear KG
    have KG := KG1
    clear KG1
    have HW1 := Lib.hid (HW.out.kept hb)
    clear HW
    have HW := HW1
    clear HW1
    have HG1 := Lib.hid (HG.out.kept hb)
    clear HG
    have HG := HG1
    clear HG1
    have HU01 := Lib.hid (HU0.out.kept hb)
    clear HU0
    have HU0 := HU01
    clear HU01
    have stKH_0 : ∀ (a : Addr) (W : World), (store a (xh 0)).run Try.prog W = stored Try.prog W a (xh 0) .plain := fun a W => run_store _ _ _ _ _ (ho.reads 0 (by omega)).one
    have stKH_1 : ∀ (a : Addr) (W : World), (store a (xh 1)).run Try.prog W = stored Try.prog W a (xh 1) .plain := fun a W => run_store _ _ _ _ _ (ho.reads 1 (by omega)).one
    have HH := Lib.hid ho.reads
    clear ho hb
    clear HU0 HRO0
    have ha := below_alloc1 wH (.cells #[xh 0, xh 1] 38)
    have HB1 := Lib.hid (HB.out.trans (ha.mono HB.out.size))
    clear HB
    have HB := HB1
    clear HB1
    have KW1 := Lib.hid ((ha.block _ (blk_lt KW.out)).trans KW.out)
    clear KW
    have KW := KW1
    clear KW1
    have KG1 := Lib.hid ((ha.block _ (blk_lt KG.out)).trans KG.out)
    clear KG
    have KG := KG1
    clear KG1
    have HW1 := Lib.hid (HW.out.kept ha)
    clear HW
    have HW := HW1
    clear HW1
    have HG1 := Lib.hid (HG.out.kept ha)
    clear HG
    have HG := HG1
    clear HG1
    have HH1 := Lib.hid (HH.out.kept ha)
    clear HH
    have HH := HH1
    clear HH1
    have KH := Lib.hid (heap_alloc_new wH (.cells #[xh 0, xh 1] 38))
    clear ha
    obtain ⟨pg0, pg1⟩ := bx2_at (us := xh) KH.out
    have pgz := blk_lt KH.out
    obtain ⟨pw0, pw1⟩ := bx2_at (us := xw) KW.out
    have pwz := blk_lt KW.out
    go_wp2_with fail
    refine (eqPerceptron_rec xh xw R _ HH.out HW.out.reads HTR.out).mono ?_
    rintro e w14 ⟨rfl, hb⟩
    clear stKH_0 stKH_1
    clear pg0 pg1 pgz
    clear pw0 pw1 pwz
    have HB1 := Lib.hid (HB.out.trans (hb.mono HB.out.size))
    clear HB
    have HB := HB1
    clear HB1
    have KW1 := Lib.hid ((hb.block _ (blk_lt KW.out)).trans KW.out)
    clear KW
    have KW := KW1
    clear KW1
    have KG1 := Lib.hid ((hb.block _ (blk_lt KG.out)).trans KG.out)
    clear KG
    have KG := KG1
    clear KG1
    have KH1 := Lib.hid ((hb.block _ (blk_lt KH.out)).trans KH.out)
    clear KH
    have KH := KH1
    clear KH1
    have HW1 := Lib.hid (HW.out.kept hb)
    clear HW
    have HW := HW1
    clear HW1
    have HG1 := Lib.hid (HG.out.kept hb)
    clear HG
    have HG := HG1
    clear HG1
    have HH1 := Lib.hid (HH.out.kept hb)
    clear HH
    have HH := HH1
    clear HH1
    clear hb
    obtain ⟨pg0, pg1⟩ := bx2_at (us := xg) KG.out
    have pgz := blk_lt KG.out
    go_wp2_with fail
    refine (heldPerceptron_rec xg R 1 _ _ (by rfl) (by omega) (by have := HCR.out; omega) HG.out.reads HTR.out).mono ?_
    rintro e w15 ⟨rfl, hb⟩
    rw [HN2.out]
    clear pg0 pg1 pgz
    have HB1 := Lib.hid (HB.out.trans (hb.mono HB.out.size))
    clear HB
    have HB := HB1
    clear HB1
    have KW1 := Lib.hid ((hb.block _ (blk_lt KW.out)).trans KW.out)
    clear KW
    have KW := KW1
    clear KW1
    have KG1 := Lib.hid ((hb.block _ (blk_lt KG.out)).trans KG.out)
    clear KG
    have KG := KG1
    clear KG1
    have KH1 := Lib.hid ((hb.block _ (blk_lt KH.out)).trans KH.out)
    clear KH
    have KH := KH1
    clear KH1
    have HW1 := Lib.hid (HW.out.kept hb)
    clear HW
    have HW := HW1
    clear HW1
    have HG1 := Lib.hid (HG.out.kept hb)
    clear HG
    have HG := HG1
    clear HG1
    have HH1 := Lib.hid (HH.out.kept hb)
    clear HH
    have HH := HH1
    clear HH1
    clear hb
    go_wp2
    go_ret
    exact ⟨rfl, HB.out⟩
end Go.Proofs.Ytimkochgnjggdaa.wNewPerceptron
