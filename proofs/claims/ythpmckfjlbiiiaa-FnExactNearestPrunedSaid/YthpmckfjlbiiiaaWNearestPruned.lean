/-
  Proved: the walk of the law on NearestPruned, out of what the two functions return.
  Conditions: what the two functions return for arguments that read as the law's own.
-/
import Derived.Test.YthpmckfjlbiiiaaOpen
import Derived.Test.YthpmckfjlbiiiaaWid
namespace Go.Proofs.Ythpmckfjlbiiiaa.wNearestPruned
open Go.ChangeShapes Go.WideShapes Go.ChangeAt Go.RowKit Go.Joins
set_option linter.unusedVariables false
set_option linter.unusedSimpArgs false
open Go.Proofs.Ythpmckfjlbiiiaa.core
/-- The copy of a list, and that its room is not less than its length. -/
theorem to_roomFeatS (vs : Nat → Value) (g : Nat → Dat) (w : World) (hq : costRec 1 g ≤ 1048576) (hr : ReadsRec w 1 vs g) (ht : tyrFeatS g) :
    Calls Try.prog 16 #[vs 0] w fun e w' => ∃ us : Nat → Value, e = .returned (us 0) ∧ OwnRec w' 1 us g (iv w.heap.size w'.heap.size) ∧ Below w.heap.size w w' ∧ ∃ (A : Option Addr) (n c : Nat), us 0 = .slice A n c ∧ n ≤ c := by
  have ht' := ht
  obtain ⟨n, f, hg, hf⟩ := ht
  have h0 := hr 0 (by omega)
  rw [hg] at h0
  obtain ⟨A, c, hv, hn, hR⟩ := h0.sl_inv
  have hc : cost (.sl n 3 f) ≤ 1048576 := by
    have e : costRec 1 g = cost (.sl n 3 f) := by simp [costRec, sumTo, hg]
    rw [← e]; exact hq
  rw [hv]
  refine (toFeatS_calls A n c f w hc hn hR ⟨n, f, rfl, hf⟩).mono ?_
  rintro e w' ⟨G, rfl, ho, hb⟩
  refine ⟨fun _ => .slice (some ⟨G, 0, none⟩) n n, rfl, ⟨fun _ => iv w.heap.size w'.heap.size, fun j hj => ?_, fun _ x _ hx => ⟨hx, hx.2⟩, fun i j x hi hj _ _ => by omega⟩, hb, _, _, _, rfl, Nat.le_refl _⟩
  obtain rfl : j = 0 := by omega
  rw [hg]
  exact ho
/-- The copy of a list, and that its room is not less than its length. -/
theorem to_roomFeatSS (vs : Nat → Value) (g : Nat → Dat) (w : World) (hq : costRec 1 g ≤ 1048576) (hr : ReadsRec w 1 vs g) (ht : tyrFeatSS g) :
    Calls Try.prog 35 #[vs 0] w fun e w' => ∃ us : Nat → Value, e = .returned (us 0) ∧ OwnRec w' 1 us g (iv w.heap.size w'.heap.size) ∧ Below w.heap.size w w' ∧ ∃ (A : Option Addr) (n c : Nat), us 0 = .slice A n c ∧ n ≤ c := by
  have ht' := ht
  obtain ⟨n, f, hg, hf⟩ := ht
  have h0 := hr 0 (by omega)
  rw [hg] at h0
  obtain ⟨A, c, hv, hn, hR⟩ := h0.sl_inv
  have hc : cost (.sl n 1 f) ≤ 1048576 := by
    have e : costRec 1 g = cost (.sl n 1 f) := by simp [costRec, sumTo, hg]
    rw [← e]; exact hq
  rw [hv]
  refine (toFeatSS_calls A n c f w hc hn hR ⟨n, f, rfl, hf⟩).mono ?_
  rintro e w' ⟨G, rfl, ho, hb⟩
  refine ⟨fun _ => .slice (some ⟨G, 0, none⟩) n n, rfl, ⟨fun _ => iv w.heap.size w'.heap.size, fun j hj => ?_, fun _ x _ hx => ⟨hx, hx.2⟩, fun i j x hi hj _ _ => by omega⟩, hb, _, _, _, rfl, Nat.le_refl _⟩
  obtain rfl : j = 0 := by omega
  rw [hg]
  exact ho

set_option maxRecDepth 100000 in
set_option maxHeartbeats 8000000 in
theorem walk (vs0 : Nat → Value) (g0 : Nat → Dat) (vs1 : Nat → Value) (g1 : Nat → Dat) (a2 : Int) (w : World) (hr0 : ReadsRec w 1 vs0 g0) (ht0 : tyrFeatS g0) (hr1 : ReadsRec w 1 vs1 g1) (ht1 : tyrFeatSS g1)
    (hm : costRec 1 g0 ≤ 1048576 → costRec 1 g1 ≤ 1048576 → ∃ (r0 : Int) (r1 : Int) (r2 : Int) (r3 : Int), (∀ (W : World) (us0 : Nat → Value) (us1 : Nat → Value), ReadsRec W 1 us0 g0 → (∃ (A : Option Addr) (n c : Nat), us0 0 = .slice A n c ∧ n ≤ c) → ReadsRec W 1 us1 g1 → (∃ (A : Option Addr) (n c : Nat), us1 0 = .slice A n c ∧ n ≤ c) → Calls Try.prog 38 #[us0 0, us1 0, .int .i64 a2] W fun e W' => e = .returned (.tuple #[.int .i64 r0, .int .i64 r1, .int .i64 r2, .int .i64 r3]) ∧ Below W.heap.size W W') ∧ (∀ (W : World) (us0 : Nat → Value) (us1 : Nat → Value), ReadsRec W 1 us0 g0 → (∃ (A : Option Addr) (n c : Nat), us0 0 = .slice A n c ∧ n ≤ c) → ReadsRec W 1 us1 g1 → (∃ (A : Option Addr) (n c : Nat), us1 0 = .slice A n c ∧ n ≤ c) → Calls Try.prog 39 #[us0 0, us1 0, .int .i64 a2] W fun e W' => e = .returned (.tuple #[.int .i64 r0, .int .i64 r1, .int .i64 r2, .int .i64 r3]) ∧ Below W.heap.size W W')) :
    Calls Try.prog 9 #[vs0 0, vs1 0, .int .i64 a2] w fun e w' => e = .returned (.bool true) ∧ Below w.heap.size w w' := by
  have HT0 := Lib.hid ht0
  obtain ⟨n0, f0, hg0, hf0⟩ := ht0
  have hq0 := hr0 0 (by omega)
  rw [hg0] at hq0
  obtain ⟨A0, c0, hv0, hn0, -⟩ := hq0.sl_inv
  clear hq0
  have HRD0 := Lib.hid (fun (V : World) (hV : Below w.heap.size w V) => hr0.kept hV)
  have HTO0 := Lib.hid (fun (hq : costRec 1 g0 ≤ 1048576) (V : World) (hV : Below w.heap.size w V) => to_roomFeatS vs0 g0 V hq (HRD0.out V hV) HT0.out)
  have HSZ0 := Lib.hid (fun (left : Int) (V : World) (hV : Below w.heap.size w V) (h1 : _) (h2 : _) => szFeatS_rec vs0 g0 left V h1 h2 (HRD0.out V hV) HT0.out)
  rw [hv0] at HTO0 HSZ0
  rw [hv0]
  unfold maxLen at hn0
  clear hg0 hf0 hv0 hr0
  have HT1 := Lib.hid ht1
  obtain ⟨n1, f1, hg1, hf1⟩ := ht1
  have hq0 := hr1 0 (by omega)
  rw [hg1] at hq0
  obtain ⟨A1, c1, hv1, hn1, -⟩ := hq0.sl_inv
  clear hq0
  have HRD1 := Lib.hid (fun (V : World) (hV : Below w.heap.size w V) => hr1.kept hV)
  have HTO1 := Lib.hid (fun (hq : costRec 1 g1 ≤ 1048576) (V : World) (hV : Below w.heap.size w V) => to_roomFeatSS vs1 g1 V hq (HRD1.out V hV) HT1.out)
  have HSZ1 := Lib.hid (fun (left : Int) (V : World) (hV : Below w.heap.size w V) (h1 : _) (h2 : _) => szFeatSS_rec vs1 g1 left V h1 h2 (HRD1.out V hV) HT1.out)
  rw [hv1] at HTO1 HSZ1
  rw [hv1]
  unfold maxLen at hn1
  clear hg1 hf1 hv1 hr1
  have HM := Lib.hid hm
  clear hm
  have HB := Lib.hid (Below.refl w.heap.size w)
  go_enter Try.func9, Try.ntmps9
  go_wp2_with fail
  refine (HSZ0.out _ _ HB.out (by omega) (by omega)).mono ?_
  rintro e w0 ⟨rfl, hb⟩
  have HB1 := Lib.hid (HB.out.trans (hb.mono HB.out.size))
  clear HB
  have HB := HB1
  clear HB1
  clear hb HSZ0
  by_cases hq0 : ((costRec 1 g0 : Nat) : Int) ≤ 1048576
  rotate_left
  · rw [left_no hq0]
    go_wp2
    go_ret
    exact ⟨rfl, HB.out⟩
  rw [left_yes hq0]
  have hq0' : ¬ (1048576 - ((costRec 1 g0 : Nat) : Int) < 0) := by omega
  go_wp2_with fail
  refine (HSZ1.out _ _ HB.out (by omega) (by omega)).mono ?_
  rintro e w0 ⟨rfl, hb⟩
  have HB1 := Lib.hid (HB.out.trans (hb.mono HB.out.size))
  clear HB
  have HB := HB1
  clear HB1
  clear hb HSZ1
  by_cases hq1 : ((costRec 1 g1 : Nat) : Int) ≤ 1048576 - ((costRec 1 g0 : Nat) : Int)
  rotate_left
  · rw [left_no hq1]
    go_wp2
    go_ret
    exact ⟨rfl, HB.out⟩
  rw [left_yes hq1]
  have hq1' : ¬ (1048576 - ((costRec 1 g0 : Nat) : Int) - ((costRec 1 g1 : Nat) : Int) < 0) := by omega
  obtain ⟨r0, r1, r2, r3, hS, hI⟩ := HM.out (by omega) (by omega)
  have HS := Lib.hid hS
  have HI := Lib.hid hI
  clear hS hI HM
  have HTO20 := Lib.hid (HTO0.out (by omega))
  clear HTO0
  have HTO21 := Lib.hid (HTO1.out (by omega))
  clear HTO1
  go_wp2_with fail
  refine (HTO20.out _ HB.out).mono ?_
  rintro e w1_0 ⟨ut0, rfl, ho, hb, hro⟩
  have HB1 := Lib.hid (HB.out.trans (hb.mono HB.out.size))
  clear HB
  have HB := HB1
  clear HB1
  have HU0 := Lib.hid ho.reads
  have HRO0 := Lib.hid hro
  clear ho hb hro
  go_wp2_with fail
  refine (HTO21.out _ HB.out).mono ?_
  rintro e w1_1 ⟨ut1, rfl, ho, hb, hro⟩
  have HB1 := Lib.hid (HB.out.trans (hb.mono HB.out.size))
  clear HB
  have HB := HB1
  clear HB1
  have HU01 := Lib.hid (HU0.out.kept hb)
  clear HU0
  have HU0 := HU01
  clear HU01
  have HU1 := Lib.hid ho.reads
  have HRO1 := Lib.hid hro
  clear ho hb hro
  go_wp2_with fail
  refine (HS.out _ ut0 ut1 HU0.out HRO0.out HU1.out HRO1.out).mono ?_
  rintro e w2 ⟨rfl, hb⟩
  have HB1 := Lib.hid (HB.out.trans (hb.mono HB.out.size))
  clear HB
  have HB := HB1
  clear HB1
  clear hb HU0 HRO0 HU1 HRO1
  go_wp2_with fail
  refine (HTO20.out _ HB.out).mono ?_
  rintro e w3_0 ⟨us0, rfl, ho, hb, hro⟩
  have HB1 := Lib.hid (HB.out.trans (hb.mono HB.out.size))
  clear HB
  have HB := HB1
  clear HB1
  have HX0 := Lib.hid ho.reads
  have HRO0 := Lib.hid hro
  clear ho hb hro
  go_wp2_with fail
  refine (HTO21.out _ HB.out).mono ?_
  rintro e w3_1 ⟨us1, rfl, ho, hb, hro⟩
  have HB1 := Lib.hid (HB.out.trans (hb.mono HB.out.size))
  clear HB
  have HB := HB1
  clear HB1
  have HX01 := Lib.hid (HX0.out.kept hb)
  clear HX0
  have HX0 := HX01
  clear HX01
  have HX1 := Lib.hid ho.reads
  have HRO1 := Lib.hid hro
  clear ho hb hro
  go_wp2_with fail
  refine (HI.out _ us0 us1 HX0.out HRO0.out HX1.out HRO1.out).mono ?_
  rintro e w4 ⟨rfl, hb⟩
  have HB1 := Lib.hid (HB.out.trans (hb.mono HB.out.size))
  clear HB
  have HB := HB1
  clear HB1
  have HX01 := Lib.hid (HX0.out.kept hb)
  clear HX0
  have HX0 := HX01
  clear HX01
  have HX11 := Lib.hid (HX1.out.kept hb)
  clear HX1
  have HX1 := HX11
  clear HX11
  clear hb HRO0 HRO1
  all_goals
    go_wp2_with fail
    refine (HTO20.out _ HB.out).mono ?_
    rintro e w5_0 ⟨ua0, rfl, ho, hb, hro⟩
    have HB1 := Lib.hid (HB.out.trans (hb.mono HB.out.size))
    clear HB
    have HB := HB1
    clear HB1
    have HX01 := Lib.hid (HX0.out.kept hb)
    clear HX0
    have HX0 := HX01
    clear HX01
    have HX11 := Lib.hid (HX1.out.kept hb)
    clear HX1
    have HX1 := HX11
    clear HX11
    have HU := Lib.hid ho.reads
    clear ho hb hro
    go_wp2_with fail
    refine (eqFeatS_rec us0 ua0 g0 _ HX0.out HU.out HT0.out).mono ?_
    rintro e w6 ⟨rfl, hb⟩
    have HB1 := Lib.hid (HB.out.trans (hb.mono HB.out.size))
    clear HB
    have HB := HB1
    clear HB1
    have HX01 := Lib.hid (HX0.out.kept hb)
    clear HX0
    have HX0 := HX01
    clear HX01
    have HX11 := Lib.hid (HX1.out.kept hb)
    clear HX1
    have HX1 := HX11
    clear HX11
    clear hb HU
    go_wp2_with fail
    refine (HTO21.out _ HB.out).mono ?_
    rintro e w5_1 ⟨ua1, rfl, ho, hb, hro⟩
    have HB1 := Lib.hid (HB.out.trans (hb.mono HB.out.size))
    clear HB
    have HB := HB1
    clear HB1
    have HX01 := Lib.hid (HX0.out.kept hb)
    clear HX0
    have HX0 := HX01
    clear HX01
    have HX11 := Lib.hid (HX1.out.kept hb)
    clear HX1
    have HX1 := HX11
    clear HX11
    have HU := Lib.hid ho.reads
    clear ho hb hro
    go_wp2_with fail
    refine (eqFeatSS_rec us1 ua1 g1 _ HX1.out HU.out HT1.out).mono ?_
    rintro e w6 ⟨rfl, hb⟩
    have HB1 := Lib.hid (HB.out.trans (hb.mono HB.out.size))
    clear HB
    have HB := HB1
    clear HB1
    have HX01 := Lib.hid (HX0.out.kept hb)
    clear HX0
    have HX0 := HX01
    clear HX01
    have HX11 := Lib.hid (HX1.out.kept hb)
    clear HX1
    have HX1 := HX11
    clear HX11
    clear hb HU
    go_wp2
    go_ret
    exact ⟨rfl, HB.out⟩

end Go.Proofs.Ythpmckfjlbiiiaa.wNearestPruned
