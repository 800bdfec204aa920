/-
  Proved: the walk of the law on BestHyp, out of what the two functions return.
  Conditions: what the two functions return for arguments that read as the law's own.
-/
import Derived.Test.YtofgdgdmmlgmnaaOpen
import Derived.Test.YtofgdgdmmlgmnaaWid
namespace Go.Proofs.Ytofgdgdmmlgmnaa.wBestHyp
open Go.ChangeShapes Go.WideShapes Go.ChangeAt Go.RowKit Go.Joins
set_option linter.unusedVariables false
set_option linter.unusedSimpArgs false
open Go.Proofs.Ytofgdgdmmlgmnaa.core
/-- The copy of a list, and that its room is not less than its length. -/
theorem to_room (vs : Nat → Value) (g : Nat → Dat) (w : World) (hq : costRec 1 g ≤ 1048576) (hr : ReadsRec w 1 vs g) (ht : tyrHypS g) :
    Calls Try.prog 17 #[vs 0] w fun e w' => ∃ us : Nat → Value, e = .returned (us 0) ∧ OwnRec w' 1 us g (iv w.heap.size w'.heap.size) ∧ Below w.heap.size w w' ∧ ∃ (A : Option Addr) (n c : Nat), us 0 = .slice A n c ∧ n ≤ c := by
  have ht' := ht
  obtain ⟨n, f, hg, hf⟩ := ht
  have h0 := hr 0 (by omega)
  rw [hg] at h0
  obtain ⟨A, c, hv, hn, hR⟩ := h0.sl_inv
  have hc : cost (.sl n 2 f) ≤ 1048576 := by
    have e : costRec 1 g = cost (.sl n 2 f) := by simp [costRec, sumTo, hg]
    rw [← e]; exact hq
  rw [hv]
  refine (toHypS_calls A n c f w hc hn hR ⟨n, f, rfl, hf⟩).mono ?_
  rintro e w' ⟨G, rfl, ho, hb⟩
  refine ⟨fun _ => .slice (some ⟨G, 0, none⟩) n n, rfl, ⟨fun _ => iv w.heap.size w'.heap.size, fun j hj => ?_, fun _ x _ hx => ⟨hx, hx.2⟩, fun i j x hi hj _ _ => by omega⟩, hb, _, _, _, rfl, Nat.le_refl _⟩
  obtain rfl : j = 0 := by omega
  rw [hg]
  exact ho

set_option maxRecDepth 100000 in
set_option maxHeartbeats 8000000 in
theorem walk (vs0 : Nat → Value) (g0 : Nat → Dat) (w : World) (hr0 : ReadsRec w 1 vs0 g0) (ht0 : tyrHypS g0)
    (hm : costRec 1 g0 ≤ 1048576 → ∃ (x0 : ByteArray) (x1 : Int) (r1 : Int), (∀ (W : World) (us0 : Nat → Value), ReadsRec W 1 us0 g0 → (∃ (A : Option Addr) (n c : Nat), us0 0 = .slice A n c ∧ n ≤ c) → Calls Try.prog 24 #[us0 0] W fun e W' => e = .returned (.tuple #[.agg #[.string x0, .int .i64 x1], .int .i64 r1]) ∧ Below W.heap.size W W') ∧ (∀ (W : World) (us0 : Nat → Value), ReadsRec W 1 us0 g0 → (∃ (A : Option Addr) (n c : Nat), us0 0 = .slice A n c ∧ n ≤ c) → Calls Try.prog 25 #[us0 0] W fun e W' => e = .returned (.tuple #[.agg #[.string x0, .int .i64 x1], .int .i64 r1]) ∧ Below W.heap.size W W')) :
    Calls Try.prog 6 #[vs0 0] w fun e w' => e = .returned (.bool true) ∧ Below w.heap.size w w' := by
  have HT := Lib.hid ht0
  obtain ⟨n, f, hg, hf⟩ := ht0
  have hq0 := hr0 0 (by omega)
  rw [hg] at hq0
  obtain ⟨A, c, hv, hn, -⟩ := hq0.sl_inv
  clear hq0
  have HRD := Lib.hid (fun (V : World) (hV : Below w.heap.size w V) => hr0.kept hV)
  have HM := Lib.hid hm
  clear hm
  have HTO := Lib.hid (fun (hq : costRec 1 g0 ≤ 1048576) (V : World) (hV : Below w.heap.size w V) => to_room vs0 g0 V hq (HRD.out V hV) HT.out)
  rw [hv] at HTO
  rw [hv]
  unfold maxLen at hn
  have HSZ := Lib.hid (szHypS_rec vs0 g0 1048576 w (by omega) (by omega) (HRD.out w (Below.refl _ _)) HT.out)
  rw [hv] at HSZ
  clear hg hf hv hr0
  go_enter Try.func6, Try.ntmps6
  go_wp2_with fail
  refine HSZ.out.mono ?_
  rintro e w0 ⟨rfl, hb⟩
  have HB := Lib.hid hb
  clear hb HSZ
  by_cases hq : ((costRec 1 g0 : Nat) : Int) ≤ 1048576
  rotate_left
  · rw [left_no hq]
    go_wp2
    go_ret
    exact ⟨rfl, HB.out⟩
  rw [left_yes hq]
  have hq' : ¬ (1048576 - ((costRec 1 g0 : Nat) : Int) < 0) := by omega
  have HQ := Lib.hid (show costRec 1 g0 ≤ 1048576 by omega)
  obtain ⟨x0, x1, r1, hS, hI⟩ := HM.out HQ.out
  have HS := Lib.hid hS
  have HI := Lib.hid hI
  clear hS hI HM
  have HTO2 := Lib.hid (HTO.out HQ.out)
  clear HTO
  go_wp2_with fail
  refine (HTO2.out _ HB.out).mono ?_
  rintro e w1 ⟨ut, rfl, ho, hb, hro⟩
  have HB1 := Lib.hid (HB.out.trans (hb.mono HB.out.size))
  clear HB
  have HB := HB1
  clear HB1
  have HU := Lib.hid ho.reads
  have HRO := Lib.hid hro
  clear ho hb hro
  go_wp2_with fail
  refine (HS.out _ ut HU.out HRO.out).mono ?_
  rintro e w2 ⟨rfl, hb⟩
  have HB1 := Lib.hid (HB.out.trans (hb.mono HB.out.size))
  clear HB
  have HB := HB1
  clear HB1
  clear hb HU HRO
  have HB1 := Lib.hid (HB.out.trans ((below_alloc1 w2 (.cells #[.string x0, .int .i64 x1] 40)).mono HB.out.size))
  clear HB
  have HB := HB1
  clear HB1
  have KW := Lib.hid (heap_alloc_new w2 (.cells #[.string x0, .int .i64 x1] 40))
  go_wp2_with fail
  refine (HTO2.out _ HB.out).mono ?_
  rintro e w3 ⟨us, rfl, ho, hb, hro⟩
  have HB1 := Lib.hid (HB.out.trans (hb.mono HB.out.size))
  clear HB
  have HB := HB1
  clear HB1
  have HX := Lib.hid ho.reads
  have HRO := Lib.hid hro
  have KW1 := Lib.hid ((hb.block _ (Array.getElem?_eq_some_iff.1 KW.out).1).trans KW.out)
  clear ho hb hro KW
  have KW := KW1
  clear KW1
  go_wp2_with fail
  refine (HI.out _ us HX.out HRO.out).mono ?_
  rintro e w4 ⟨rfl, hb⟩
  have HB1 := Lib.hid (HB.out.trans (hb.mono HB.out.size))
  clear HB
  have HB := HB1
  clear HB1
  have HX1 := Lib.hid (HX.out.kept hb)
  have KW1 := Lib.hid ((hb.block _ (Array.getElem?_eq_some_iff.1 KW.out).1).trans KW.out)
  clear hb HX KW
  have KW := KW1
  clear KW1
  have HB1 := Lib.hid (HB.out.trans ((below_alloc1 w4 (.cells #[.string x0, .int .i64 x1] 40)).mono HB.out.size))
  clear HB
  have HB := HB1
  clear HB1
  have bw0 : w4.cell? ⟨w2.heap.size, 0, none⟩ = some (.string x0) := by rw [cell_of_block KW.out]; rfl
  have bw1 : w4.cell? ⟨w2.heap.size, 1, none⟩ = some (.int .i64 x1) := by rw [cell_of_block KW.out]; rfl
  have lzw : w2.heap.size < w4.heap.size := (Array.getElem?_eq_some_iff.1 KW.out).1
  have HX2 := Lib.hid (HX1.out.kept (below_alloc1 w4 (.cells #[.string x0, .int .i64 x1] 40)))
  clear HX1
  go_wp2_with fail
  refine (eqHyp_same x0 x1 _).mono ?_
  rintro e w5 ⟨rfl, hb⟩
  have HB1 := Lib.hid (HB.out.trans (hb.mono HB.out.size))
  clear HB
  have HB := HB1
  clear HB1
  have HX3 := Lib.hid (HX2.out.kept hb)
  clear hb HX2 KW bw0 bw1
  go_wp2_with fail
  refine (HTO2.out _ HB.out).mono ?_
  rintro e w6 ⟨ua, rfl, ho, hb, hro⟩
  have HB1 := Lib.hid (HB.out.trans (hb.mono HB.out.size))
  clear HB
  have HB := HB1
  clear HB1
  have HX4 := Lib.hid (HX3.out.kept hb)
  have HU := Lib.hid ho.reads
  clear ho hb hro
  go_wp2_with fail
  refine (eqHypS_rec us ua g0 _ HX4.out HU.out HT.out).mono ?_
  rintro e w7 ⟨rfl, hb⟩
  have HB1 := Lib.hid (HB.out.trans (hb.mono HB.out.size))
  clear HB
  have HB := HB1
  clear HB1
  clear hb
  go_wp2
  go_ret
  exact ⟨rfl, HB.out⟩

end Go.Proofs.Ytofgdgdmmlgmnaa.wBestHyp
