/-
  Proved: the walk of the law on BestRice, out of what the two functions return.
  Conditions: what the two functions return for arguments that read as the law's own.
-/
import Derived.Test.YtjhndncmeedffaaOpen
import Derived.Test.YtjhndncmeedffaaWid
namespace Go.Proofs.Ytjhndncmeedffaa.wBestRice
open Go.ChangeShapes Go.WideShapes Go.ChangeAt Go.RowKit Go.Joins
set_option linter.unusedVariables false
set_option linter.unusedSimpArgs false
open Go.Proofs.Ytjhndncmeedffaa.core
theorem costRec_ints {g : Nat → Dat} {n : Nat} {f : Nat → Nat → Dat} (hg : g 0 = .sl n 1 f) (hf : ∀ i, i < n → tyInt (f i 0)) : costRec 1 g = n := by
  have h0 : cost (.sl n 1 f) = n := cost_flat fun i j hi hj => by
    obtain rfl : j = 0 := by omega
    obtain ⟨z, hz⟩ := hf i hi
    rw [hz]
    rfl
  simp only [costRec, sumTo, hg]
  omega

set_option maxRecDepth 100000 in
set_option maxHeartbeats 8000000 in
theorem walk (vs0 : Nat → Value) (g0 : Nat → Dat) (w : World) (hr0 : ReadsRec w 1 vs0 g0) (ht0 : tyrInt64S g0) 
    (hm : costRec 1 g0 ≤ 1048576 → ∃ (r0 : Int) (r1 : Int) (r2 : Int), (∀ (W : World) (us0 : Nat → Value), ReadsRec W 1 us0 g0 → Calls Try.prog 25 #[us0 0] W fun e W' => e = .returned (.tuple #[.int .i64 r0, .int .i64 r1, .int .i64 r2]) ∧ Below W.heap.size W W') ∧ (∀ (W : World) (us0 : Nat → Value), ReadsRec W 1 us0 g0 → Calls Try.prog 26 #[us0 0] W fun e W' => e = .returned (.tuple #[.int .i64 r0, .int .i64 r1, .int .i64 r2]) ∧ Below W.heap.size W W')) :
    Calls Try.prog 8 #[vs0 0] w fun e w' => e = .returned (.bool true) ∧ Below w.heap.size w w' := by
  have HT := Lib.hid ht0
  obtain ⟨n, f, hg, hf⟩ := ht0
  have hq0 := hr0 0 (by omega)
  rw [hg] at hq0
  obtain ⟨A, c, hv, hn, -⟩ := hq0.sl_inv
  clear hq0
  have HRD := Lib.hid (fun (V : World) (hV : Below w.heap.size w V) => hr0.kept hV)
  have HM := Lib.hid hm
  clear hm
  have HTO := Lib.hid (fun (hq : costRec 1 g0 ≤ 1048576) (V : World) (hV : Below w.heap.size w V) => toInt64S_rec vs0 g0 V hq (HRD.out V hV) HT.out)
  rw [hv] at HTO
  rw [hv]
  unfold maxLen at hn
  have hcost : costRec 1 g0 = n := costRec_ints hg hf
  by_cases hz : n ≤ 1048576
  rotate_left
  · have hz' : (1048576 : Int) < (n : Int) := by omega
    clear hcost hg hf hv hr0
    go_enter Try.func8, Try.ntmps8
    go_wp2
    go_ret
    exact ⟨rfl, Below.refl _ _⟩
  have hz' : ¬ ((1048576 : Int) < (n : Int)) := by omega
  have HQ := Lib.hid (show costRec 1 g0 ≤ 1048576 by omega)
  clear hcost hg hf hv hr0
  go_enter Try.func8, Try.ntmps8
  have HB := Lib.hid (Below.refl w.heap.size w)
  obtain ⟨r0, r1, r2, hS, hI⟩ := HM.out  HQ.out
  have HS := Lib.hid hS
  have HI := Lib.hid hI
  clear hS hI HM
  have HTO2 := Lib.hid (HTO.out HQ.out)
  clear HTO
  go_wp2_with fail
  refine (HTO2.out _ HB.out).mono ?_
  rintro e w1 ⟨ut, rfl, ho, hb⟩
  have HB1 := Lib.hid (HB.out.trans (hb.mono HB.out.size))
  clear HB
  have HB := HB1
  clear HB1
  have HU := Lib.hid ho.reads
  clear ho hb
  go_wp2_with fail
  refine (HS.out _ ut HU.out).mono ?_
  rintro e w2 ⟨rfl, hb⟩
  have HB1 := Lib.hid (HB.out.trans (hb.mono HB.out.size))
  clear HB
  have HB := HB1
  clear HB1
  clear hb HU
  go_wp2_with fail
  refine (HTO2.out _ HB.out).mono ?_
  rintro e w3 ⟨us, rfl, ho, hb⟩
  have HB1 := Lib.hid (HB.out.trans (hb.mono HB.out.size))
  clear HB
  have HB := HB1
  clear HB1
  have HX := Lib.hid ho.reads
  clear ho hb
  go_wp2_with fail
  refine (HI.out _ us HX.out).mono ?_
  rintro e w4 ⟨rfl, hb⟩
  have HB1 := Lib.hid (HB.out.trans (hb.mono HB.out.size))
  clear HB
  have HB := HB1
  clear HB1
  have HX1 := Lib.hid (HX.out.kept hb)
  clear hb HX
  all_goals
    go_wp2_with fail
    refine (HTO2.out _ HB.out).mono ?_
    rintro e w5 ⟨ua, rfl, ho, hb⟩
    have HB1 := Lib.hid (HB.out.trans (hb.mono HB.out.size))
    clear HB
    have HB := HB1
    clear HB1
    have HX2 := Lib.hid (HX1.out.kept hb)
    have HU := Lib.hid ho.reads
    clear ho hb
    go_wp2_with fail
    refine (eqInt64S_rec us ua g0 _ HX2.out HU.out HT.out).mono ?_
    rintro e w6 ⟨rfl, hb⟩
    have HB1 := Lib.hid (HB.out.trans (hb.mono HB.out.size))
    clear HB
    have HB := HB1
    clear HB1
    clear hb
    go_wp2
    go_ret
    exact ⟨rfl, HB.out⟩

end Go.Proofs.Ytjhndncmeedffaa.wBestRice
