/-
  Proved: the walk of the law on Classify, out of what the two functions return.
  Conditions: what the two functions return for arguments that read as the law's own.
-/
import Derived.Test.YtimkochgnjggdaaOpen
import Derived.Test.YtimkochgnjggdaaWid
import Derived.Deep.RegionHeld3
import Derived.Deep.DeepCutAuto
namespace Go.Proofs.Ytimkochgnjggdaa.wClassify
open Go.ChangeShapes Go.WideShapes Go.ChangeAt Go.RowKit Go.Joins
set_option linter.unusedVariables false
set_option linter.unusedSimpArgs false
open Go.Proofs.Ytimkochgnjggdaa.core
/-- The boxes of the argument and of its copy, and that nothing of the first world has turned. -/
structure InvR (w0 : World) (kx ka : Nat) (W : World) : Prop where
  hx : kx < W.heap.size
  ha : ka < W.heap.size
  below : Below w0.heap.size w0 W
abbrev SR (w0 : World) (kx ka : Nat) (us vs : Nat → Value) (W : World) : Prop := W.cell? ⟨kx, 0, none⟩ = some (us 0) ∧ W.cell? ⟨kx, 1, none⟩ = some (us 1) ∧ W.cell? ⟨ka, 0, none⟩ = some (vs 0) ∧ W.cell? ⟨ka, 1, none⟩ = some (vs 1) ∧ InvR w0 kx ka W
section
variable {w0 W W' : World} {kx ka : Nat} {us vs : Nat → Value}
theorem SR_kept (hb : Below W.heap.size W W') (h : SR w0 kx ka us vs W) : SR w0 kx ka us vs W' := by
  obtain ⟨h0, h1, h2, h3, hi⟩ := h
  have zx := hi.hx
  have za := hi.ha
  exact ⟨(hb.cell (p := ⟨kx, 0, none⟩) zx).trans h0, (hb.cell (p := ⟨kx, 1, none⟩) zx).trans h1, (hb.cell (p := ⟨ka, 0, none⟩) za).trans h2, (hb.cell (p := ⟨ka, 1, none⟩) za).trans h3, ⟨Nat.lt_of_lt_of_le zx hb.size, Nat.lt_of_lt_of_le za hb.size, hi.below.trans (hb.mono hi.below.size)⟩⟩
theorem SR_drew (h : SR w0 kx ka us vs W) : SR w0 kx ka us vs W.drew := SR_kept ((Below.refl _ _).drew) h
theorem SR_b (h : SR w0 kx ka us vs W) : Below w0.heap.size w0 W := h.2.2.2.2.below
theorem bx_at {b T : Nat} (h : W.heap[b]? = some (.cells #[us 0, us 1] T (0, 0))) : W.cell? ⟨b, 0, none⟩ = some (us 0) ∧ W.cell? ⟨b, 1, none⟩ = some (us 1) := ⟨by rw [cell_of_block h]; rfl, by rw [cell_of_block h]; rfl⟩
theorem SR_of {T T' : Nat} (h : W.heap[kx]? = some (.cells #[us 0, us 1] T (0, 0))) (h' : W.heap[ka]? = some (.cells #[vs 0, vs 1] T' (0, 0))) : SR W kx ka us vs W :=
  ⟨by rw [cell_of_block h]; rfl, by rw [cell_of_block h]; rfl, by rw [cell_of_block h']; rfl, by rw [cell_of_block h']; rfl, ⟨(Array.getElem?_eq_some_iff.1 h).1, (Array.getElem?_eq_some_iff.1 h').1, Below.refl _ _⟩⟩
theorem blk_lt {b : Nat} {o : Obj} (h : W.heap[b]? = some o) : b < W.heap.size := (Array.getElem?_eq_some_iff.1 h).1
end
/-- The copy of a list, and that its room is not less than its length. -/
theorem to_roomFeatS (vs : Nat → Value) (g : Nat → Dat) (w : World) (hq : costRec 1 g ≤ 1048576) (hr : ReadsRec w 1 vs g) (ht : tyrFeatS g) :
    Calls Try.prog 15 #[vs 0] w fun e w' => ∃ us : Nat → Value, e = .returned (us 0) ∧ OwnRec w' 1 us g (iv w.heap.size w'.heap.size) ∧ Below w.heap.size w w' ∧ ∃ (A : Option Addr) (n c : Nat), us 0 = .slice A n c ∧ n ≤ c := by
  have ht' := ht
  obtain ⟨n, f, hg, hf⟩ := ht
  have h0 := hr 0 (by omega)
  rw [hg] at h0
  obtain ⟨A, c, hv, hn, hR⟩ := h0.sl_inv
  have hc : cost (.sl n 3 f) ≤ 1048576 := by
    have e : costRec 1 g = cost (.sl n 3 f) := by simp [costRec, sumTo, hg]
    rw [← e]; exact hq
  rw [hv]
  refine (toFeatS_calls A n c f w hc hn hR ⟨n, f, rfl, hf⟩).mono ?_
  rintro e w' ⟨G, rfl, ho, hb⟩
  refine ⟨fun _ => .slice (some ⟨G, 0, none⟩) n n, rfl, ⟨fun _ => iv w.heap.size w'.heap.size, fun j hj => ?_, fun _ x _ hx => ⟨hx, hx.2⟩, fun i j x hi hj _ _ => by omega⟩, hb, _, _, _, rfl, Nat.le_refl _⟩
  obtain rfl : j = 0 := by omega
  rw [hg]
  exact ho

set_option maxRecDepth 100000 in
set_option maxHeartbeats 16000000 in
theorem walk (vs0 : Nat → Value) (g0 : Nat → Dat) (vs1 : Nat → Value) (g1 : Nat → Dat) (w : World) (hr0 : ReadsRec w 2 vs0 g0) (ht0 : tyrPerceptron g0) (hr1 : ReadsRec w 1 vs1 g1) (ht1 : tyrFeatS g1)
    (hm : costRec 2 g0 ≤ 1048576 → costRec 1 g1 ≤ 1048576 → ∃ (r0 : ByteArray) (r1 : Int) (r2 : Int), (∀ (W : World) (us0 : Nat → Value) (us1 : Nat → Value), ReadsRec W 2 us0 g0 → ReadsRec W 1 us1 g1 → (∃ (A : Option Addr) (n c : Nat), us1 0 = .slice A n c ∧ n ≤ c) → Calls Try.prog 39 #[.agg #[us0 0, us0 1], us1 0] W fun e W' => e = .returned (.tuple #[.string r0, .int .i64 r1, .int .i64 r2]) ∧ Below W.heap.size W W') ∧ (∀ (W : World) (us0 : Nat → Value) (us1 : Nat → Value), ReadsRec W 2 us0 g0 → ReadsRec W 1 us1 g1 → (∃ (A : Option Addr) (n c : Nat), us1 0 = .slice A n c ∧ n ≤ c) → Calls Try.prog 40 #[.agg #[us0 0, us0 1], us1 0] W fun e W' => e = .returned (.tuple #[.string r0, .int .i64 r1, .int .i64 r2]) ∧ Below W.heap.size W W')) :
    Calls Try.prog 8 #[.agg #[vs0 0, vs0 1], vs1 0] w fun e w' => e = .returned (.bool true) ∧ Below w.heap.size w w' := by
  have HT0 := Lib.hid ht0
  have HRD0 := Lib.hid (fun (V : World) (hV : Below w.heap.size w V) => hr0.kept hV)
  have HT1 := Lib.hid ht1
  have HRD1 := Lib.hid (fun (V : World) (hV : Below w.heap.size w V) => hr1.kept hV)
  have HTO0 := Lib.hid (fun (hq : costRec 2 g0 ≤ 1048576) (V : World) (hV : Below w.heap.size w V) => toPerceptron_rec vs0 g0 V hq (HRD0.out V hV) HT0.out)
  have HSZ0 := Lib.hid (fun (left : Int) (V : World) (hV : Below w.heap.size w V) (h1 : _) (h2 : _) => szPerceptron_rec vs0 g0 left V h1 h2 (HRD0.out V hV) HT0.out)
  clear hr0 ht0
  obtain ⟨n1, f1, hg1, hf1⟩ := ht1
  have hq0 := hr1 0 (by omega)
  rw [hg1] at hq0
  obtain ⟨A1, c1, hv1, hn1, -⟩ := hq0.sl_inv
  clear hq0
  have HTO1 := Lib.hid (fun (hq : costRec 1 g1 ≤ 1048576) (V : World) (hV : Below w.heap.size w V) => to_roomFeatS vs1 g1 V hq (HRD1.out V hV) HT1.out)
  have HSZ1 := Lib.hid (fun (left : Int) (V : World) (hV : Below w.heap.size w V) (h1 : _) (h2 : _) => szFeatS_rec vs1 g1 left V h1 h2 (HRD1.out V hV) HT1.out)
  rw [hv1] at HTO1 HSZ1
  rw [hv1]
  unfold maxLen at hn1
  clear hg1 hf1 hv1 hr1
  have HM := Lib.hid hm
  clear hm
  have HB := Lib.hid (below_alloc1 w (.cells #[vs0 0, vs0 1] 46))
  have KA := Lib.hid (heap_alloc_new w (.cells #[vs0 0, vs0 1] 46))
  go_enter Try.func8, Try.ntmps8
  obtain ⟨ca0, ca1⟩ := bx_at (us := vs0) KA.out
  have hza := blk_lt KA.out
  go_wp2_with fail
  refine (HSZ0.out _ _ HB.out (by omega) (by omega)).mono ?_
  rintro e w0 ⟨rfl, hb⟩
  have HB1 := Lib.hid (HB.out.trans (hb.mono HB.out.size))
  have KA1 := Lib.hid ((hb.block _ (blk_lt KA.out)).trans KA.out)
  clear HB KA
  have HB := HB1
  have KA := KA1
  clear HB1 KA1
  clear hza ca0 ca1
  clear hb HSZ0
  by_cases hq0 : ((costRec 2 g0 : Nat) : Int) ≤ 1048576
  rotate_left
  · rw [left_no hq0]
    go_wp2
    go_ret
    exact ⟨rfl, HB.out⟩
  rw [left_yes hq0]
  have hq0' : ¬ (1048576 - ((costRec 2 g0 : Nat) : Int) < 0) := by omega
  go_wp2_with fail
  refine (HSZ1.out _ _ HB.out (by omega) (by omega)).mono ?_
  rintro e w0 ⟨rfl, hb⟩
  have HB1 := Lib.hid (HB.out.trans (hb.mono HB.out.size))
  have KA1 := Lib.hid ((hb.block _ (blk_lt KA.out)).trans KA.out)
  clear HB KA
  have HB := HB1
  have KA := KA1
  clear HB1 KA1
  clear hb HSZ1
  by_cases hq1 : ((costRec 1 g1 : Nat) : Int) ≤ 1048576 - ((costRec 2 g0 : Nat) : Int)
  rotate_left
  · rw [left_no hq1]
    go_wp2
    go_ret
    exact ⟨rfl, HB.out⟩
  rw [left_yes hq1]
  have hq1' : ¬ (1048576 - ((costRec 2 g0 : Nat) : Int) - ((costRec 1 g1 : Nat) : Int) < 0) := by omega
  obtain ⟨r0, r1, r2, hS, hI⟩ := HM.out (by omega) (by omega)
  have HS := Lib.hid hS
  have HI := Lib.hid hI
  clear hS hI HM
  have HTO20 := Lib.hid (HTO0.out (by omega))
  clear HTO0
  have HTO21 := Lib.hid (HTO1.out (by omega))
  clear HTO1
  obtain ⟨ca0, ca1⟩ := bx_at (us := vs0) KA.out
  have hza := blk_lt KA.out
  go_wp2_with fail
  refine (HTO20.out _ HB.out).mono ?_
  rintro e w1_0 ⟨ut0, rfl, ho, hb⟩
  have HB1 := Lib.hid (HB.out.trans (hb.mono HB.out.size))
  have KA1 := Lib.hid ((hb.block _ (blk_lt KA.out)).trans KA.out)
  clear HB KA
  have HB := HB1
  have KA := KA1
  clear HB1 KA1
  clear hza ca0 ca1
  have HU0 := Lib.hid ho.reads
  clear ho hb
  go_wp2_with fail
  refine (HTO21.out _ HB.out).mono ?_
  rintro e w1_1 ⟨ut1, rfl, ho, hb, hro⟩
  have HB1 := Lib.hid (HB.out.trans (hb.mono HB.out.size))
  have KA1 := Lib.hid ((hb.block _ (blk_lt KA.out)).trans KA.out)
  clear HB KA
  have HB := HB1
  have KA := KA1
  clear HB1 KA1
  have HU01 := Lib.hid (HU0.out.kept hb)
  clear HU0
  have HU0 := HU01
  clear HU01
  have HU1 := Lib.hid ho.reads
  have HRO1 := Lib.hid hro
  clear hro
  clear ho hb
  go_wp2_with fail
  refine (HS.out _ ut0 ut1 HU0.out HU1.out HRO1.out).mono ?_
  rintro e w2 ⟨rfl, hb⟩
  have HB1 := Lib.hid (HB.out.trans (hb.mono HB.out.size))
  have KA1 := Lib.hid ((hb.block _ (blk_lt KA.out)).trans KA.out)
  clear HB KA
  have HB := HB1
  have KA := KA1
  clear HB1 KA1
  clear hb
  clear HU0 HU1 HRO1
  obtain ⟨ca0, ca1⟩ := bx_at (us := vs0) KA.out
  have hza := blk_lt KA.out
  go_wp2_with fail
  refine (HTO20.out _ HB.out).mono ?_
  rintro e w3_0 ⟨us0, rfl, ho, hb⟩
  have HB1 := Lib.hid (HB.out.trans (hb.mono HB.out.size))
  have KA1 := Lib.hid ((hb.block _ (blk_lt KA.out)).trans KA.out)
  clear HB KA
  have HB := HB1
  have KA := KA1
  clear HB1 KA1
  clear hza ca0 ca1
  have HX0 := Lib.hid ho
  have z3_0 := hb.size
  clear ho hb
  have st_0 : ∀ (a : Addr) (W : World), (store a (us0 0)).run Try.prog W = stored Try.prog W a (us0 0) .plain := fun a W => run_store _ _ _ _ _ (HX0.out.reads 0 (by omega)).one
  have st_1 : ∀ (a : Addr) (W : World), (store a (us0 1)).run Try.prog W = stored Try.prog W a (us0 1) .plain := fun a W => run_store _ _ _ _ _ (HX0.out.reads 1 (by omega)).one
  have hb := below_alloc1 w3_0 (.cells #[us0 0, us0 1] 38)
  have HB1 := Lib.hid (HB.out.trans (hb.mono HB.out.size))
  have KA1 := Lib.hid ((hb.block _ (blk_lt KA.out)).trans KA.out)
  clear HB KA
  have HB := HB1
  have KA := KA1
  clear HB1 KA1
  have HX01 := Lib.hid (HX0.out.kept hb)
  clear HX0
  have HX0 := HX01
  clear HX01
  have KX := Lib.hid (heap_alloc_new w3_0 (.cells #[us0 0, us0 1] 38))
  have zx := blk_lt KX.out
  clear hb
  go_wp2_with fail
  refine (HTO21.out _ HB.out).mono ?_
  rintro e w3_1 ⟨us1, rfl, ho, hb, hro⟩
  have HB1 := Lib.hid (HB.out.trans (hb.mono HB.out.size))
  have KA1 := Lib.hid ((hb.block _ (blk_lt KA.out)).trans KA.out)
  clear HB KA
  have HB := HB1
  have KA := KA1
  clear HB1 KA1
  have KX1 := Lib.hid ((hb.block _ (blk_lt KX.out)).trans KX.out)
  clear KX
  have KX := KX1
  clear KX1
  clear st_0 st_1
  have HX01 := Lib.hid (HX0.out.kept hb)
  clear HX0
  have HX0 := HX01
  clear HX01
  have z3_1 := hb.size
  (try simp at z3_1)
  have HX1 := Lib.hid (ho.mono (F' := iv (w3_0.heap.size + 1) w3_1.heap.size) (fun x hx => by unfold iv at *; (try simp at hx); omega))
  have HRO1 := Lib.hid hro
  clear ho hb hro
  obtain ⟨cx0, cx1⟩ := bx_at (us := us0) KX.out
  have hzx := blk_lt KX.out
  go_wp2_with fail
  refine (HI.out _ us0 us1 HX0.out.reads HX1.out.reads HRO1.out).mono ?_
  rintro e w4 ⟨rfl, hb⟩
  have HB1 := Lib.hid (HB.out.trans (hb.mono HB.out.size))
  have KA1 := Lib.hid ((hb.block _ (blk_lt KA.out)).trans KA.out)
  clear HB KA
  have HB := HB1
  have KA := KA1
  clear HB1 KA1
  have KX1 := Lib.hid ((hb.block _ (blk_lt KX.out)).trans KX.out)
  clear KX
  have KX := KX1
  clear KX1
  clear hzx cx0 cx1
  have HX01 := Lib.hid (HX0.out.kept hb)
  clear HX0
  have HX0 := HX01
  clear HX01
  have HX11 := Lib.hid (HX1.out.kept hb)
  clear HX1
  have HX1 := HX11
  clear HX11
  clear hb zx z3_0 z3_1 HRO1
  all_goals
    have hk := SR_of KX.out KA.out
    obtain ⟨cx0, cx1, ca0, ca1, -⟩ := id hk
    have HTO3 := Lib.hid (fun (V : World) (hV : Below w4.heap.size w4 V) => HTO20.out V (HB.out.trans (hV.mono HB.out.size)))
    have HX0R := Lib.hid HX0.out.reads
    have HLA := Lib.hid (blk_lt KA.out)
    go_upto_region 14 with fail
    go_cut [61] (fun s wx => s = .bool false ∧ Hid (SR w4 w3_0.heap.size w.heap.size us0 vs0 wx))
    case first =>
      go_region_held3 (fun W => W.cell? ⟨w3_0.heap.size, 0, none⟩ = some (us0 0) ∧ W.cell? ⟨w3_0.heap.size, 1, none⟩ = some (us0 1) ∧ W.cell? ⟨w.heap.size, 0, none⟩ = some (vs0 0) ∧ W.cell? ⟨w.heap.size, 1, none⟩ = some (vs0 1) ∧ InvR w4 w3_0.heap.size w.heap.size W) (first | assumption | exact SR_drew hk | go_keep) (first | (go_at_call 33; (with_reducible refine (HTO3.out _ (SR_b (by first | assumption | exact SR_drew hk))).mono ?_); rintro e wa ⟨ua, rfl, hoa, hba⟩; have hra := hoa.reads; have hk2 := SR_kept hba (by first | assumption | exact SR_drew hk)) | (go_at_call 26; (with_reducible refine (eqPerceptron_rec us0 _ g0 _ (by exact HX0R.out.kept (SR_b (by assumption))) (by assumption) HT0.out).mono ?_); rintro e wd ⟨rfl, hbd⟩; have hk3 := SR_kept hbd (by assumption)))
      all_goals
        rename_i hh
        have HH := Lib.hid hh
        clear hh
        go_wp2_with fail
        go_meet
        exact ⟨rfl, HH⟩
    case rest =>
      obtain ⟨rfl, HC⟩ := hcut
      have hb := SR_b HC.out
      clear hk HTO3 HX0R HLA cx0 cx1 ca0 ca1
      have HB1 := Lib.hid (HB.out.trans (hb.mono HB.out.size))
      have KA1 := Lib.hid ((hb.block _ (blk_lt KA.out)).trans KA.out)
      clear HB KA
      have HB := HB1
      have KA := KA1
      clear HB1 KA1
      have KX1 := Lib.hid ((hb.block _ (blk_lt KX.out)).trans KX.out)
      clear KX
      have KX := KX1
      clear KX1
      have HX01 := Lib.hid (HX0.out.kept hb)
      clear HX0
      have HX0 := HX01
      clear HX01
      have HX11 := Lib.hid (HX1.out.kept hb)
      clear HX1
      have HX1 := HX11
      clear HX11
      clear hb HC
      go_wp2_with fail
      refine (HTO21.out _ HB.out).mono ?_
      rintro e w6_1 ⟨ua1, rfl, ho, hb, hro⟩
      have HB1 := Lib.hid (HB.out.trans (hb.mono HB.out.size))
      have KA1 := Lib.hid ((hb.block _ (blk_lt KA.out)).trans KA.out)
      clear HB KA
      have HB := HB1
      have KA := KA1
      clear HB1 KA1
      have KX1 := Lib.hid ((hb.block _ (blk_lt KX.out)).trans KX.out)
      clear KX
      have KX := KX1
      clear KX1
      have HU := Lib.hid ho.reads
      have HX01 := Lib.hid (HX0.out.kept hb)
      clear HX0
      have HX0 := HX01
      clear HX01
      have HX11 := Lib.hid (HX1.out.kept hb)
      clear HX1
      have HX1 := HX11
      clear HX11
      clear ho hb hro
      go_wp2_with fail
      refine (eqFeatS_rec us1 ua1 g1 _ HX1.out.reads HU.out HT1.out).mono ?_
      rintro e w7_1 ⟨rfl, hb⟩
      have HB1 := Lib.hid (HB.out.trans (hb.mono HB.out.size))
      have KA1 := Lib.hid ((hb.block _ (blk_lt KA.out)).trans KA.out)
      clear HB KA
      have HB := HB1
      have KA := KA1
      clear HB1 KA1
      have KX1 := Lib.hid ((hb.block _ (blk_lt KX.out)).trans KX.out)
      clear KX
      have KX := KX1
      clear KX1
      have HX01 := Lib.hid (HX0.out.kept hb)
      clear HX0
      have HX0 := HX01
      clear HX01
      have HX11 := Lib.hid (HX1.out.kept hb)
      clear HX1
      have HX1 := HX11
      clear HX11
      clear hb
      clear HU
      go_wp2
      go_ret
      exact ⟨rfl, HB.out⟩
end Go.Proofs.Ytimkochgnjggdaa.wClassify
