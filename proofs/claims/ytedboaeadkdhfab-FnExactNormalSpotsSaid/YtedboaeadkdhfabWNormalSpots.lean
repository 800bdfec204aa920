/-
  Proved: the walk of the law on NormalSpots, out of what the two functions return.
  Conditions: what the two functions return for arguments that read as the law's own.
-/
import Derived.Test.YtedboaeadkdhfabOpen
import Derived.Test.YtedboaeadkdhfabWid
import Derived.Deep.RegionHeld3
import Derived.Deep.DeepCutAuto
namespace Go.Proofs.Ytedboaeadkdhfab.wNormalSpots
open Go.ChangeShapes Go.WideShapes Go.ChangeAt Go.RowKit Go.Joins
set_option linter.unusedVariables false
set_option linter.unusedSimpArgs false
open Go.Proofs.Ytedboaeadkdhfab.core
/-- The copy of a list, and that its room is not less than its length. -/
theorem to_room (vs : Nat → Value) (g : Nat → Dat) (w : World) (hq : costRec 1 g ≤ 1048576) (hr : ReadsRec w 1 vs g) (ht : tyrSpotS g) :
    Calls Try.prog 14 #[vs 0] w fun e w' => ∃ us : Nat → Value, e = .returned (us 0) ∧ OwnRec w' 1 us g (iv w.heap.size w'.heap.size) ∧ Below w.heap.size w w' ∧ ∃ (A : Option Addr) (n c : Nat), us 0 = .slice A n c ∧ n ≤ c := by
  have ht' := ht
  obtain ⟨n, f, hg, hf⟩ := ht
  have h0 := hr 0 (by omega)
  rw [hg] at h0
  obtain ⟨A, c, hv, hn, hR⟩ := h0.sl_inv
  have hc : cost (.sl n 2 f) ≤ 1048576 := by
    have e : costRec 1 g = cost (.sl n 2 f) := by simp [costRec, sumTo, hg]
    rw [← e]; exact hq
  rw [hv]
  refine (toSpotS_calls A n c f w hc hn hR ⟨n, f, rfl, hf⟩).mono ?_
  rintro e w' ⟨G, rfl, ho, hb⟩
  refine ⟨fun _ => .slice (some ⟨G, 0, none⟩) n n, rfl, ⟨fun _ => iv w.heap.size w'.heap.size, fun j hj => ?_, fun _ x _ hx => ⟨hx, hx.2⟩, fun i j x hi hj _ _ => by omega⟩, hb, _, _, _, rfl, Nat.le_refl _⟩
  obtain rfl : j = 0 := by omega
  rw [hg]
  exact ho
/-- The block is a box of numbers, and nothing of the first world has turned. -/
abbrev SQ (w0 : World) (g : Nat) (x0 x1 x2 x3 : Int) (W : World) : Prop := W.cell? ⟨g, 0, none⟩ = some (.int .i64 x0) ∧ W.cell? ⟨g, 1, none⟩ = some (.int .i64 x1) ∧ W.cell? ⟨g, 2, none⟩ = some (.int .i64 x2) ∧ W.cell? ⟨g, 3, none⟩ = some (.int .i64 x3) ∧ g < W.heap.size ∧ Below w0.heap.size w0 W
theorem SQ_kept {w0 : World} {g : Nat} {x0 x1 x2 x3 : Int} {W W' : World} (hb : Below W.heap.size W W') (h : SQ w0 g x0 x1 x2 x3 W) : SQ w0 g x0 x1 x2 x3 W' := by
  obtain ⟨h0, h1, h2, h3, hz, hB⟩ := h
  exact ⟨(hb.cell (p := ⟨g, 0, none⟩) hz).trans h0, (hb.cell (p := ⟨g, 1, none⟩) hz).trans h1, (hb.cell (p := ⟨g, 2, none⟩) hz).trans h2, (hb.cell (p := ⟨g, 3, none⟩) hz).trans h3, Nat.lt_of_lt_of_le hz hb.size, hB.trans (hb.mono hB.size)⟩
theorem SQ_drew {w0 : World} {g : Nat} {x0 x1 x2 x3 : Int} {W : World} (h : SQ w0 g x0 x1 x2 x3 W) : SQ w0 g x0 x1 x2 x3 W.drew := SQ_kept ((Below.refl _ _).drew) h
theorem SQ_b {w0 : World} {g : Nat} {x0 x1 x2 x3 : Int} {W : World} (h : SQ w0 g x0 x1 x2 x3 W) : Below w0.heap.size w0 W := h.2.2.2.2.2
theorem SQ_of {w0 : World} {g : Nat} {x0 x1 x2 x3 : Int} {T : TypeId} (h : w0.heap[g]? = some (.cells #[.int .i64 x0, .int .i64 x1, .int .i64 x2, .int .i64 x3] T (0, 0))) : SQ w0 g x0 x1 x2 x3 w0 :=
  ⟨by rw [cell_of_block h]; rfl, by rw [cell_of_block h]; rfl, by rw [cell_of_block h]; rfl, by rw [cell_of_block h]; rfl, (Array.getElem?_eq_some_iff.1 h).1, Below.refl _ _⟩
theorem reads_int {w W : World} {v : Value} {d : Dat} (ht : tyInt d) (h : Reads w v d) : Reads W v d := by
  obtain ⟨z, rfl⟩ := ht
  cases h
  constructor
  assumption
theorem blk_lt {w : World} {b : Nat} {o : Obj} (h : w.heap[b]? = some o) : b < w.heap.size := (Array.getElem?_eq_some_iff.1 h).1

set_option maxRecDepth 100000 in
set_option maxHeartbeats 8000000 in
theorem walkI (vs0 : Nat → Value) (g0 : Nat → Dat) (x0 x1 x2 x3 : Int) (w : World) (hr0 : ReadsRec w 1 vs0 g0) (ht0 : tyrSpotS g0)
    (hm : costRec 1 g0 ≤ 1048576 → ∃ (R : Nat → Dat) (r1 : Int), tyrSpotS R ∧ cntRec 1 R ≤ 100000000000 ∧ (∀ (W : World) (us0 : Nat → Value), ReadsRec W 1 us0 g0 → (∃ (A : Option Addr) (n c : Nat), us0 0 = .slice A n c ∧ n ≤ c) → Calls Try.prog 13 #[us0 0, .agg #[.int .i64 x0, .int .i64 x1, .int .i64 x2, .int .i64 x3]] W fun e W' => ∃ xs : Nat → Value, e = .returned (.tuple #[xs 0, .int .i64 r1]) ∧ OwnRec W' 1 xs R (iv W.heap.size W'.heap.size) ∧ Below W.heap.size W W') ∧ (∀ (W : World) (us0 : Nat → Value), ReadsRec W 1 us0 g0 → (∃ (A : Option Addr) (n c : Nat), us0 0 = .slice A n c ∧ n ≤ c) → Calls Try.prog 16 #[us0 0, .agg #[.int .i64 x0, .int .i64 x1, .int .i64 x2, .int .i64 x3]] W fun e W' => ∃ xs : Nat → Value, e = .returned (.tuple #[xs 0, .int .i64 r1]) ∧ OwnRec W' 1 xs R (iv W.heap.size W'.heap.size) ∧ Below W.heap.size W W')) :
    Calls Try.prog 3 #[vs0 0, .agg #[.int .i64 x0, .int .i64 x1, .int .i64 x2, .int .i64 x3]] w fun e w' => e = .returned (.bool true) ∧ Below w.heap.size w w' := by
  have HT := Lib.hid ht0
  obtain ⟨n, f, hg, hf⟩ := ht0
  have hq0 := hr0 0 (by omega)
  rw [hg] at hq0
  obtain ⟨A, c, hv, hn, -⟩ := hq0.sl_inv
  clear hq0
  have HRD := Lib.hid (fun (V : World) (hV : Below w.heap.size w V) => hr0.kept hV)
  have HM := Lib.hid hm
  clear hm
  have HTO := Lib.hid (fun (hq : costRec 1 g0 ≤ 1048576) (V : World) (hV : Below w.heap.size w V) => to_room vs0 g0 V hq (HRD.out V hV) HT.out)
  rw [hv] at HTO
  rw [hv]
  unfold maxLen at hn
  have HB := Lib.hid (below_alloc1 w (.cells #[.int .i64 x0, .int .i64 x1, .int .i64 x2, .int .i64 x3] 24))
  have KB := Lib.hid (heap_alloc_new w (.cells #[.int .i64 x0, .int .i64 x1, .int .i64 x2, .int .i64 x3] 24))
  have HSZ := Lib.hid (szSpotS_rec vs0 g0 1048576 (w.alloc (.cells #[.int .i64 x0, .int .i64 x1, .int .i64 x2, .int .i64 x3] 24)) (by omega) (by omega) (HRD.out _ HB.out) HT.out)
  rw [hv] at HSZ
  clear hg hf hv hr0
  go_enter Try.func3, Try.ntmps3
  go_wp2_with fail
  refine HSZ.out.mono ?_
  rintro e w0 ⟨rfl, hb⟩
  have HB1 := Lib.hid (HB.out.trans (hb.mono HB.out.size))
  have KB1 := Lib.hid ((hb.block _ (blk_lt KB.out)).trans KB.out)
  clear HB KB
  have HB := HB1
  have KB := KB1
  clear HB1 KB1
  clear hb HSZ
  by_cases hq : ((costRec 1 g0 : Nat) : Int) ≤ 1048576
  rotate_left
  · rw [left_no hq]
    go_wp2
    go_ret
    exact ⟨rfl, HB.out⟩
  rw [left_yes hq]
  have hq' : ¬ (1048576 - ((costRec 1 g0 : Nat) : Int) < 0) := by omega
  have HQ := Lib.hid (show costRec 1 g0 ≤ 1048576 by omega)
  obtain ⟨R, r1, htR, hcR, hS, hI⟩ := HM.out HQ.out
  have HS := Lib.hid hS
  have HI := Lib.hid hI
  clear hS hI HM
  have HTO2 := Lib.hid (HTO.out HQ.out)
  clear HTO
  have HTR := Lib.hid htR
  have HCR := Lib.hid hcR
  clear htR hcR
  have HCX := Lib.hid (show 1 + cntRec 1 g0 ≤ 1000000000000 by have h1 := cntRec_le (widrSpotS HT.out); have h2 := HQ.out; omega)
  have HTO3 := Lib.hid (fun (V : World) (hV : Below w0.heap.size w0 V) => HTO2.out V (HB.out.trans (hV.mono HB.out.size)))
  have hk := SQ_of KB.out
  obtain ⟨c0, c1, c2, c3, cz, -⟩ := id hk
  go_upto_region 5 with fail
  go_cut [6, 7] (fun z0 z1 wx => ∃ xw : Nat → Value, z0 = xw 0 ∧ z1 = .int .i64 r1 ∧ Hid (OwnRec wx 1 xw R (iv w0.heap.size wx.heap.size)) ∧ Hid (SQ w0 w.heap.size x0 x1 x2 x3 wx))
  case first =>
    go_region_held3 (fun W => W.cell? ⟨w.heap.size, 0, none⟩ = some (.int .i64 x0) ∧ W.cell? ⟨w.heap.size, 1, none⟩ = some (.int .i64 x1) ∧ W.cell? ⟨w.heap.size, 2, none⟩ = some (.int .i64 x2) ∧ W.cell? ⟨w.heap.size, 3, none⟩ = some (.int .i64 x3) ∧ w.heap.size < W.heap.size ∧ Below w0.heap.size w0 W) (first | assumption | exact SQ_drew hk | go_keep) (first | (go_at_call 14; (with_reducible refine (HTO3.out _ (SQ_b (by first | assumption | exact SQ_drew hk))).mono ?_); rintro e wt ⟨ut, rfl, ho, hb, hro⟩; have hu := ho.reads; have hk1 := SQ_kept hb (by first | assumption | exact SQ_drew hk); clear ho) | (go_at_call 15; (with_reducible refine (toBox_calls _ _ _ _ _).mono ?_); rintro e wb ⟨rfl, hb2⟩; have hk2 := SQ_kept hb2 (by first | assumption | exact SQ_drew hk); (try have hu := hu.kept hb2)) | (go_at_call 13; (with_reducible refine (HS.out _ _ (by assumption) (by assumption)).mono ?_); rintro e wc ⟨xw, rfl, ho2, hb3⟩; have HOW := Lib.hid (ho2.mono (F' := iv w0.heap.size wc.heap.size) (fun x hx => ⟨Nat.le_trans (SQ_b (by assumption)).size hx.1, hx.2⟩)); have hk3 := SQ_kept hb3 (by assumption)))
    all_goals
      rename_i hh
      have HH := Lib.hid hh
      clear hh
      go_wp2_with fail
      go_meet
      exact ⟨xw, rfl, rfl, HOW, HH⟩
  case rest =>
    obtain ⟨xw, rfl, rfl, HW, HSQ⟩ := hcut
    clear hk HTO3 cz c0 c1 c2 c3
    obtain ⟨w2, hwc⟩ : ∃ v, v = wc := ⟨_, rfl⟩
    subst hwc
    have hb := SQ_b HSQ.out
    have HB1 := Lib.hid (HB.out.trans (hb.mono HB.out.size))
    have KB1 := Lib.hid ((hb.block _ (blk_lt KB.out)).trans KB.out)
    clear HB KB
    have HB := HB1
    have KB := KB1
    clear HB1 KB1
    have z2 := hb.size
    have z0 := blk_lt KB.out
    clear hb HSQ
    go_wp2_with fail
    refine (HTO2.out _ HB.out).mono ?_
    rintro e w3 ⟨us, rfl, ho, hb, hro⟩
    have HB1 := Lib.hid (HB.out.trans (hb.mono HB.out.size))
    have KB1 := Lib.hid ((hb.block _ (blk_lt KB.out)).trans KB.out)
    clear HB KB
    have HB := HB1
    have KB := KB1
    clear HB1 KB1
    have HX := Lib.hid ho
    have HRO := Lib.hid hro
    have z3 := hb.size
    have HW1 := Lib.hid (HW.out.kept hb)
    clear HW
    have HW := HW1
    clear HW1
    clear ho hb hro
    have hk := SQ_of KB.out
    obtain ⟨c0, c1, c2, c3, cz, -⟩ := id hk
    go_wp2_with fail
    refine (toBox_calls _ _ _ _ _).mono ?_
    rintro e w3b ⟨rfl, hb⟩
    have HB1 := Lib.hid (HB.out.trans (hb.mono HB.out.size))
    have KB1 := Lib.hid ((hb.block _ (blk_lt KB.out)).trans KB.out)
    clear HB KB
    have HB := HB1
    have KB := KB1
    clear HB1 KB1
    have z3b := hb.size
    have HW1 := Lib.hid (HW.out.kept hb)
    clear HW
    have HW := HW1
    clear HW1
    have HX1 := Lib.hid (HX.out.kept hb)
    clear HX
    have HX := HX1
    clear HX1
    clear hb hk cz c0 c1 c2 c3
    go_wp2_with fail
    refine (HI.out _ us HX.out.reads HRO.out).mono ?_
    rintro e w4 ⟨xg, rfl, ho, hb⟩
    have HB1 := Lib.hid (HB.out.trans (hb.mono HB.out.size))
    have KB1 := Lib.hid ((hb.block _ (blk_lt KB.out)).trans KB.out)
    clear HB KB
    have HB := HB1
    have KB := KB1
    clear HB1 KB1
    have HG := Lib.hid ho
    have z4 := hb.size
    have HW1 := Lib.hid (HW.out.kept hb)
    clear HW
    have HW := HW1
    clear HW1
    have HX1 := Lib.hid (HX.out.kept hb)
    clear HX
    have HX := HX1
    clear HX1
    clear ho hb HRO
    have hD1 : ∀ x, iv w0.heap.size w2.heap.size x → iv w2.heap.size w3.heap.size x → False := fun x h1 h2 => by unfold iv at *; omega
    have hD2 : ∀ x, iv w0.heap.size w2.heap.size x → iv w3b.heap.size w4.heap.size x → False := fun x h1 h2 => by unfold iv at *; omega
    have hD3 : ∀ x, iv w3b.heap.size w4.heap.size x → iv w2.heap.size w3.heap.size x → False := fun x h1 h2 => by unfold iv at *; omega
    have hE2 : ∀ x, iv w2.heap.size w3.heap.size x → w.heap.size < x := fun x h => by unfold iv at *; omega
    have hE3 : ∀ x, iv w3b.heap.size w4.heap.size x → w.heap.size < x := fun x h => by unfold iv at *; omega
    have HD1 := Lib.hid hD1
    clear hD1
    have HD2 := Lib.hid hD2
    clear hD2
    have HD3 := Lib.hid hD3
    clear hD3
    have HE2 := Lib.hid hE2
    clear hE2
    have HE3 := Lib.hid hE3
    clear hE3
    clear z0 z2 z3 z3b z4
    all_goals
      go_wp2_with fail
      refine (eqSpotS_rec xg xw R _ HG.out.reads HW.out.reads HTR.out).mono ?_
      rintro e w5 ⟨rfl, hb⟩
      have HB1 := Lib.hid (HB.out.trans (hb.mono HB.out.size))
      have KB1 := Lib.hid ((hb.block _ (blk_lt KB.out)).trans KB.out)
      clear HB KB
      have HB := HB1
      have KB := KB1
      clear HB1 KB1
      have HW1 := Lib.hid (HW.out.kept hb)
      clear HW
      have HW := HW1
      clear HW1
      have HX1 := Lib.hid (HX.out.kept hb)
      clear HX
      have HX := HX1
      clear HX1
      have HG1 := Lib.hid (HG.out.kept hb)
      clear HG
      have HG := HG1
      clear HG1
      clear hb
      go_wp2_with fail
      refine (HTO2.out _ HB.out).mono ?_
      rintro e w6 ⟨ua, rfl, ho, hb, hro⟩
      have HB1 := Lib.hid (HB.out.trans (hb.mono HB.out.size))
      have KB1 := Lib.hid ((hb.block _ (blk_lt KB.out)).trans KB.out)
      clear HB KB
      have HB := HB1
      have KB := KB1
      clear HB1 KB1
      have HU := Lib.hid ho.reads
      have HW1 := Lib.hid (HW.out.kept hb)
      clear HW
      have HW := HW1
      clear HW1
      have HX1 := Lib.hid (HX.out.kept hb)
      clear HX
      have HX := HX1
      clear HX1
      have HG1 := Lib.hid (HG.out.kept hb)
      clear HG
      have HG := HG1
      clear HG1
      clear ho hb hro
      go_wp2_with fail
      refine (eqSpotS_rec us ua g0 _ HX.out.reads HU.out HT.out).mono ?_
      rintro e w7 ⟨rfl, hb⟩
      have HB1 := Lib.hid (HB.out.trans (hb.mono HB.out.size))
      have KB1 := Lib.hid ((hb.block _ (blk_lt KB.out)).trans KB.out)
      clear HB KB
      have HB := HB1
      have KB := KB1
      clear HB1 KB1
      have HW1 := Lib.hid (HW.out.kept hb)
      clear HW
      have HW := HW1
      clear HW1
      have HX1 := Lib.hid (HX.out.kept hb)
      clear HX
      have HX := HX1
      clear HX1
      have HG1 := Lib.hid (HG.out.kept hb)
      clear HG
      have HG := HG1
      clear HG1
      clear hb
      clear HU
      go_wp2_with fail
      refine (markSpotS_rec us g0 _ 1 _ _ (by rfl) (by omega) HCX.out HX.out HT.out).mono ?_
      rintro e w8 ⟨rfl, -, ho⟩
      have HB1 := Lib.hid (HB.out.trans (ho.below (fun x hx => Nat.le_of_lt (HE2.out x hx)) HB.out.size))
      have KB1 := Lib.hid ((ho.block _ (blk_lt KB.out) (fun hx => Nat.lt_irrefl _ (HE2.out _ hx))).trans KB.out)
      clear HB KB
      have HB := HB1
      have KB := KB1
      clear HB1 KB1
      have HW1 := Lib.hid (HW.out.only ho HD1.out)
      have HG1 := Lib.hid (HG.out.only ho HD3.out)
      clear HW HG HX ho
      have HW := HW1
      have HG := HG1
      clear HW1 HG1
      generalize 1 + cntRec 1 g0 = z1
      have hn1 : ¬ ((z1 : Int) < 0) := by omega
      go_wp2_with fail
      refine (eqSpotS_rec xg xw R _ HG.out.reads HW.out.reads HTR.out).mono ?_
      rintro e w9 ⟨rfl, hb⟩
      have HB1 := Lib.hid (HB.out.trans (hb.mono HB.out.size))
      have KB1 := Lib.hid ((hb.block _ (blk_lt KB.out)).trans KB.out)
      clear HB KB
      have HB := HB1
      have KB := KB1
      clear HB1 KB1
      have HW1 := Lib.hid (HW.out.kept hb)
      clear HW
      have HW := HW1
      clear HW1
      have HG1 := Lib.hid (HG.out.kept hb)
      clear HG
      have HG := HG1
      clear HG1
      clear hb
      go_wp2_with fail
      refine (markSpotS_rec xg R _ 1 _ _ (by rfl) (by omega) (by have := HCR.out; omega) HG.out HTR.out).mono ?_
      rintro e w10 ⟨rfl, hq, ho⟩
      have HB1 := Lib.hid (HB.out.trans (ho.below (fun x hx => Nat.le_of_lt (HE3.out x hx)) HB.out.size))
      have KB1 := Lib.hid ((ho.block _ (blk_lt KB.out) (fun hx => Nat.lt_irrefl _ (HE3.out _ hx))).trans KB.out)
      clear HB KB
      have HB := HB1
      have KB := KB1
      clear HB1 KB1
      have HW1 := Lib.hid (HW.out.only ho HD2.out)
      clear HW HG ho
      have HW := HW1
      have HG := Lib.hid hq
      clear HW1 hq
      generalize hz2n : 1 + cntRec 1 R = z2
      have HN2 := Lib.hid hz2n
      clear hz2n
      have hn2 : ¬ ((z2 : Int) < 0) := by omega
      have hn3 : ((z2 : Int) != (z2 : Int)) = false := by simp
      go_wp2_with fail
      refine (heldSpotS_rec xg R 1 _ _ (by rfl) (by omega) (by have := HCR.out; omega) HG.out.reads HTR.out).mono ?_
      rintro e w11 ⟨rfl, hb⟩
      rw [HN2.out]
      have HB1 := Lib.hid (HB.out.trans (hb.mono HB.out.size))
      have KB1 := Lib.hid ((hb.block _ (blk_lt KB.out)).trans KB.out)
      clear HB KB
      have HB := HB1
      have KB := KB1
      clear HB1 KB1
      have HW1 := Lib.hid (HW.out.kept hb)
      clear HW
      have HW := HW1
      clear HW1
      have HG1 := Lib.hid (HG.out.kept hb)
      clear HG
      have HG := HG1
      clear HG1
      clear hb
      have HTO3 := Lib.hid (fun (V : World) (hV : Below w11.heap.size w11 V) => HTO2.out V (HB.out.trans (hV.mono HB.out.size)))
      have hk := SQ_of KB.out
      obtain ⟨c0, c1, c2, c3, cz, -⟩ := id hk
      go_upto_region 24 with fail
      go_cut [14, 15] (fun z0 z1 wx => ∃ xh : Nat → Value, z0 = xh 0 ∧ z1 = .int .i64 r1 ∧ Hid (ReadsRec wx 1 xh R) ∧ Hid (SQ w11 w.heap.size x0 x1 x2 x3 wx))
      case first =>
        go_region_held3 (fun W => W.cell? ⟨w.heap.size, 0, none⟩ = some (.int .i64 x0) ∧ W.cell? ⟨w.heap.size, 1, none⟩ = some (.int .i64 x1) ∧ W.cell? ⟨w.heap.size, 2, none⟩ = some (.int .i64 x2) ∧ W.cell? ⟨w.heap.size, 3, none⟩ = some (.int .i64 x3) ∧ w.heap.size < W.heap.size ∧ Below w11.heap.size w11 W) (first | assumption | exact SQ_drew hk | go_keep) (first | (go_at_call 14; (with_reducible refine (HTO3.out _ (SQ_b (by first | assumption | exact SQ_drew hk))).mono ?_); rintro e wt ⟨ut, rfl, ho, hb, hro⟩; have hu := ho.reads; have hk1 := SQ_kept hb (by first | assumption | exact SQ_drew hk); clear ho) | (go_at_call 15; (with_reducible refine (toBox_calls _ _ _ _ _).mono ?_); rintro e wb ⟨rfl, hb2⟩; have hk2 := SQ_kept hb2 (by first | assumption | exact SQ_drew hk); (try have hu := hu.kept hb2)) | (go_at_call 16; (with_reducible refine (HI.out _ _ (by assumption) (by assumption)).mono ?_); rintro e wc ⟨xh, rfl, ho2, hb3⟩; have HOW := Lib.hid ho2.reads; have hk3 := SQ_kept hb3 (by assumption)))
        all_goals
          rename_i hh
          have HH := Lib.hid hh
          clear hh
          go_wp2_with fail
          go_meet
          exact ⟨xh, rfl, rfl, HOW, HH⟩
      case rest =>
        obtain ⟨xh, rfl, rfl, HH, HSQ⟩ := hcut
        clear hk HTO3 cz c0 c1 c2 c3
        obtain ⟨w13, hwc⟩ : ∃ v, v = wc := ⟨_, rfl⟩
        subst hwc
        have hb := SQ_b HSQ.out
        have HB1 := Lib.hid (HB.out.trans (hb.mono HB.out.size))
        have KB1 := Lib.hid ((hb.block _ (blk_lt KB.out)).trans KB.out)
        clear HB KB
        have HB := HB1
        have KB := KB1
        clear HB1 KB1
        have HW1 := Lib.hid (HW.out.kept hb)
        clear HW
        have HW := HW1
        clear HW1
        have HG1 := Lib.hid (HG.out.kept hb)
        clear HG
        have HG := HG1
        clear HG1
        clear hb HSQ
        go_wp2_with fail
        refine (eqSpotS_rec xh xw R _ HH.out HW.out.reads HTR.out).mono ?_
        rintro e w14 ⟨rfl, hb⟩
        have HB1 := Lib.hid (HB.out.trans (hb.mono HB.out.size))
        have KB1 := Lib.hid ((hb.block _ (blk_lt KB.out)).trans KB.out)
        clear HB KB
        have HB := HB1
        have KB := KB1
        clear HB1 KB1
        have HW1 := Lib.hid (HW.out.kept hb)
        clear HW
        have HW := HW1
        clear HW1
        have HG1 := Lib.hid (HG.out.kept hb)
        clear HG
        have HG := HG1
        clear HG1
        clear hb
        clear HH
        go_wp2_with fail
        refine (heldSpotS_rec xg R 1 _ _ (by rfl) (by omega) (by have := HCR.out; omega) HG.out.reads HTR.out).mono ?_
        rintro e w15 ⟨rfl, hb⟩
        rw [HN2.out]
        have HB1 := Lib.hid (HB.out.trans (hb.mono HB.out.size))
        have KB1 := Lib.hid ((hb.block _ (blk_lt KB.out)).trans KB.out)
        clear HB KB
        have HB := HB1
        have KB := KB1
        clear HB1 KB1
        clear hb
        go_wp2
        go_ret
        exact ⟨rfl, HB.out⟩

theorem walk (vs0 : Nat → Value) (g0 : Nat → Dat) (vs1 : Nat → Value) (g1 : Nat → Dat) (w : World) (hr0 : ReadsRec w 1 vs0 g0) (ht0 : tyrSpotS g0) (hr1 : ReadsRec w 4 vs1 g1) (ht1 : tyrBox g1)
    (hm : costRec 1 g0 ≤ 1048576 → ∃ (R : Nat → Dat) (r1 : Int), tyrSpotS R ∧ cntRec 1 R ≤ 100000000000 ∧ (∀ (W : World) (us0 : Nat → Value) (us1 : Nat → Value), ReadsRec W 1 us0 g0 → (∃ (A : Option Addr) (n c : Nat), us0 0 = .slice A n c ∧ n ≤ c) → ReadsRec W 4 us1 g1 → Calls Try.prog 13 #[us0 0, .agg #[us1 0, us1 1, us1 2, us1 3]] W fun e W' => ∃ xs : Nat → Value, e = .returned (.tuple #[xs 0, .int .i64 r1]) ∧ OwnRec W' 1 xs R (iv W.heap.size W'.heap.size) ∧ Below W.heap.size W W') ∧ (∀ (W : World) (us0 : Nat → Value) (us1 : Nat → Value), ReadsRec W 1 us0 g0 → (∃ (A : Option Addr) (n c : Nat), us0 0 = .slice A n c ∧ n ≤ c) → ReadsRec W 4 us1 g1 → Calls Try.prog 16 #[us0 0, .agg #[us1 0, us1 1, us1 2, us1 3]] W fun e W' => ∃ xs : Nat → Value, e = .returned (.tuple #[xs 0, .int .i64 r1]) ∧ OwnRec W' 1 xs R (iv W.heap.size W'.heap.size) ∧ Below W.heap.size W W')) :
    Calls Try.prog 3 #[vs0 0, .agg #[vs1 0, vs1 1, vs1 2, vs1 3]] w fun e w' => e = .returned (.bool true) ∧ Below w.heap.size w w' := by
  have ha1 : ∀ W, ReadsRec W 4 vs1 g1 := fun W j hj => by
    rcases (show j = 0 ∨ j = 1 ∨ j = 2 ∨ j = 3 by omega) with rfl | rfl | rfl | rfl
    · exact reads_int ht1.1 (hr1 0 (by omega))
    · exact reads_int ht1.2.1 (hr1 1 (by omega))
    · exact reads_int ht1.2.2.1 (hr1 2 (by omega))
    · exact reads_int ht1.2.2.2 (hr1 3 (by omega))
  obtain ⟨⟨x0, hx0⟩, ⟨x1, hx1⟩, ⟨x2, hx2⟩, ⟨x3, hx3⟩⟩ := ht1
  have hv0 := hr1 0 (by omega)
  rw [hx0] at hv0
  have hw0 := hv0.int_inv.1
  have hv1 := hr1 1 (by omega)
  rw [hx1] at hv1
  have hw1 := hv1.int_inv.1
  have hv2 := hr1 2 (by omega)
  rw [hx2] at hv2
  have hw2 := hv2.int_inv.1
  have hv3 := hr1 3 (by omega)
  rw [hx3] at hv3
  have hw3 := hv3.int_inv.1
  have hm' : costRec 1 g0 ≤ 1048576 → ∃ (R : Nat → Dat) (r1 : Int), tyrSpotS R ∧ cntRec 1 R ≤ 100000000000 ∧ (∀ (W : World) (us0 : Nat → Value), ReadsRec W 1 us0 g0 → (∃ (A : Option Addr) (n c : Nat), us0 0 = .slice A n c ∧ n ≤ c) → Calls Try.prog 13 #[us0 0, .agg #[.int .i64 x0, .int .i64 x1, .int .i64 x2, .int .i64 x3]] W fun e W' => ∃ xs : Nat → Value, e = .returned (.tuple #[xs 0, .int .i64 r1]) ∧ OwnRec W' 1 xs R (iv W.heap.size W'.heap.size) ∧ Below W.heap.size W W') ∧ (∀ (W : World) (us0 : Nat → Value), ReadsRec W 1 us0 g0 → (∃ (A : Option Addr) (n c : Nat), us0 0 = .slice A n c ∧ n ≤ c) → Calls Try.prog 16 #[us0 0, .agg #[.int .i64 x0, .int .i64 x1, .int .i64 x2, .int .i64 x3]] W fun e W' => ∃ xs : Nat → Value, e = .returned (.tuple #[xs 0, .int .i64 r1]) ∧ OwnRec W' 1 xs R (iv W.heap.size W'.heap.size) ∧ Below W.heap.size W W') := fun hq => by
    obtain ⟨R, r1, h1, h2, h3, h4⟩ := hm hq
    refine ⟨R, r1, h1, h2, fun W us0 hr hc => ?_, fun W us0 hr hc => ?_⟩
    · have := h3 W us0 vs1 hr hc (ha1 W)
      simpa only [hw0, hw1, hw2, hw3] using this
    · have := h4 W us0 vs1 hr hc (ha1 W)
      simpa only [hw0, hw1, hw2, hw3] using this
  simp only [hw0, hw1, hw2, hw3]
  exact walkI vs0 g0 x0 x1 x2 x3 w hr0 ht0 hm'

end Go.Proofs.Ytedboaeadkdhfab.wNormalSpots
