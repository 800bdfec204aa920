/-
  Proved: the walk of the law on OutsideOf, out of what the two functions return.
  Conditions: what the two functions return for arguments that read as the law's own.
-/
import Derived.Test.YthpmckfjlbiiiaaOpen
import Derived.Test.YthpmckfjlbiiiaaWid
import Derived.Deep.RegionHeld3
import Derived.Deep.DeepCutAuto
namespace Go.Proofs.Ythpmckfjlbiiiaa.wOutsideOf
open Go.ChangeShapes Go.WideShapes Go.ChangeAt Go.RowKit Go.Joins
set_option linter.unusedVariables false
set_option linter.unusedSimpArgs false
open Go.Proofs.Ythpmckfjlbiiiaa.core
/-- The copy of a list, and that its room is not less than its length. -/
theorem to_roomFeatS (vs : Nat → Value) (g : Nat → Dat) (w : World) (hq : costRec 1 g ≤ 1048576) (hr : ReadsRec w 1 vs g) (ht : tyrFeatS g) :
    Calls Try.prog 16 #[vs 0] w fun e w' => ∃ us : Nat → Value, e = .returned (us 0) ∧ OwnRec w' 1 us g (iv w.heap.size w'.heap.size) ∧ Below w.heap.size w w' ∧ ∃ (A : Option Addr) (n c : Nat), us 0 = .slice A n c ∧ n ≤ c := by
  have ht' := ht
  obtain ⟨n, f, hg, hf⟩ := ht
  have h0 := hr 0 (by omega)
  rw [hg] at h0
  obtain ⟨A, c, hv, hn, hR⟩ := h0.sl_inv
  have hc : cost (.sl n 3 f) ≤ 1048576 := by
    have e : costRec 1 g = cost (.sl n 3 f) := by simp [costRec, sumTo, hg]
    rw [← e]; exact hq
  rw [hv]
  refine (toFeatS_calls A n c f w hc hn hR ⟨n, f, rfl, hf⟩).mono ?_
  rintro e w' ⟨G, rfl, ho, hb⟩
  refine ⟨fun _ => .slice (some ⟨G, 0, none⟩) n n, rfl, ⟨fun _ => iv w.heap.size w'.heap.size, fun j hj => ?_, fun _ x _ hx => ⟨hx, hx.2⟩, fun i j x hi hj _ _ => by omega⟩, hb, _, _, _, rfl, Nat.le_refl _⟩
  obtain rfl : j = 0 := by omega
  rw [hg]
  exact ho
/-- What the struct's cells hold, and that nothing else has turned. -/
structure InvA (w : World) (vs0 : Nat → Value) (g0 : Nat → Dat) (vs1 : Nat → Value) (g1 : Nat → Dat) (W : World) : Prop where
  below : Below w.heap.size w W
  z : w.heap.size + 1 ≤ W.heap.size
  r0 : ReadsRec W 1 vs0 g0
  r1 : ReadsRec W 4 vs1 g1
abbrev SA (w : World) (vs0 : Nat → Value) (g0 : Nat → Dat) (vs1 : Nat → Value) (g1 : Nat → Dat) (W : World) : Prop := W.cell? ⟨w.heap.size, 0, none⟩ = some (vs1 0) ∧ W.cell? ⟨w.heap.size, 1, none⟩ = some (vs1 1) ∧ W.cell? ⟨w.heap.size, 2, none⟩ = some (vs1 2) ∧ W.cell? ⟨w.heap.size, 3, none⟩ = some (vs1 3) ∧ InvA w vs0 g0 vs1 g1 W
section

variable {w W W' : World} {vs0 : Nat → Value} {g0 : Nat → Dat} {vs1 : Nat → Value} {g1 : Nat → Dat}
theorem SA_inv (h : SA w vs0 g0 vs1 g1 W) : InvA w vs0 g0 vs1 g1 W := h.2.2.2.2
theorem SA_kept (hb : Below W.heap.size W W') (h : SA w vs0 g0 vs1 g1 W) : SA w vs0 g0 vs1 g1 W' := by
  obtain ⟨h0, h1, h2, h3, hi⟩ := h
  have z := hi.z
  have hs := hb.size
  exact ⟨(hb.cell (p := ⟨w.heap.size, 0, none⟩) (by show w.heap.size < W.heap.size; omega)).trans h0, (hb.cell (p := ⟨w.heap.size, 1, none⟩) (by show w.heap.size < W.heap.size; omega)).trans h1, (hb.cell (p := ⟨w.heap.size, 2, none⟩) (by show w.heap.size < W.heap.size; omega)).trans h2, (hb.cell (p := ⟨w.heap.size, 3, none⟩) (by show w.heap.size < W.heap.size; omega)).trans h3, ⟨hi.below.trans (hb.mono hi.below.size), by omega, hi.r0.kept hb, hi.r1.kept hb⟩⟩
theorem SA_drew (h : SA w vs0 g0 vs1 g1 W) : SA w vs0 g0 vs1 g1 W.drew := SA_kept ((Below.refl _ _).drew) h
theorem SA_r0 (h : SA w vs0 g0 vs1 g1 W) : ReadsRec W 1 vs0 g0 := (SA_inv h).r0
theorem SA_r1 (h : SA w vs0 g0 vs1 g1 W) : ReadsRec W 4 vs1 g1 := (SA_inv h).r1
theorem SA_below (h : SA w vs0 g0 vs1 g1 W) : Below w.heap.size w W := (SA_inv h).below
theorem SA_start (h0 : ReadsRec w 1 vs0 g0) (h1 : ReadsRec w 4 vs1 g1) : SA w vs0 g0 vs1 g1 (w.alloc (.cells #[vs1 0, vs1 1, vs1 2, vs1 3] 36)) := by
  have hb : Below w.heap.size w (w.alloc (.cells #[vs1 0, vs1 1, vs1 2, vs1 3] 36)) := ((Below.refl _ _).alloc (Nat.le_refl _) _)
  exact ⟨by simp, by simp, by simp, by simp, ⟨hb, by simp, h0.kept hb, h1.kept hb⟩⟩
end
/-- Besides: the copies, that of the struct in cells of its own. -/
structure InvB (w : World) (vs0 : Nat → Value) (g0 : Nat → Dat) (vs1 : Nat → Value) (g1 : Nat → Dat) (us0 us1 : Nat → Value) (k1 : Nat) (W : World) : Prop where
  base : SA w vs0 g0 vs1 g1 W
  kz1 : k1 < W.heap.size
  c0 : ReadsRec W 1 us0 g0
  c1 : ReadsRec W 4 us1 g1
abbrev SB (w : World) (vs0 : Nat → Value) (g0 : Nat → Dat) (vs1 : Nat → Value) (g1 : Nat → Dat) (us0 us1 : Nat → Value) (k1 : Nat) (W : World) : Prop := W.cell? ⟨k1, 0, none⟩ = some (us1 0) ∧ W.cell? ⟨k1, 1, none⟩ = some (us1 1) ∧ W.cell? ⟨k1, 2, none⟩ = some (us1 2) ∧ W.cell? ⟨k1, 3, none⟩ = some (us1 3) ∧ W.cell? ⟨w.heap.size, 0, none⟩ = some (vs1 0) ∧ W.cell? ⟨w.heap.size, 1, none⟩ = some (vs1 1) ∧ W.cell? ⟨w.heap.size, 2, none⟩ = some (vs1 2) ∧ W.cell? ⟨w.heap.size, 3, none⟩ = some (vs1 3) ∧ InvB w vs0 g0 vs1 g1 us0 us1 k1 W
section

variable {w W W' : World} {vs0 : Nat → Value} {g0 : Nat → Dat} {vs1 : Nat → Value} {g1 : Nat → Dat} {us0 us1 : Nat → Value} {k1 : Nat}
theorem SB_inv (h : SB w vs0 g0 vs1 g1 us0 us1 k1 W) : InvB w vs0 g0 vs1 g1 us0 us1 k1 W := h.2.2.2.2.2.2.2.2
theorem SB_kept (hb : Below W.heap.size W W') (h : SB w vs0 g0 vs1 g1 us0 us1 k1 W) : SB w vs0 g0 vs1 g1 us0 us1 k1 W' := by
  obtain ⟨b0, b1, b2, b3, h0, h1, h2, h3, hi⟩ := h
  have hs := hb.size
  have ha := SA_kept hb hi.base
  obtain ⟨d0, d1, d2, d3, _⟩ := id ha
  exact ⟨(hb.cell (p := ⟨k1, 0, none⟩) hi.kz1).trans b0, (hb.cell (p := ⟨k1, 1, none⟩) hi.kz1).trans b1, (hb.cell (p := ⟨k1, 2, none⟩) hi.kz1).trans b2, (hb.cell (p := ⟨k1, 3, none⟩) hi.kz1).trans b3, d0, d1, d2, d3, ⟨ha, Nat.lt_of_lt_of_le hi.kz1 hs, hi.c0.kept hb, hi.c1.kept hb⟩⟩
theorem SB_drew (h : SB w vs0 g0 vs1 g1 us0 us1 k1 W) : SB w vs0 g0 vs1 g1 us0 us1 k1 W.drew := SB_kept ((Below.refl _ _).drew) h
theorem SB_a (h : SB w vs0 g0 vs1 g1 us0 us1 k1 W) : SA w vs0 g0 vs1 g1 W := (SB_inv h).base
theorem SB_c0 (h : SB w vs0 g0 vs1 g1 us0 us1 k1 W) : ReadsRec W 1 us0 g0 := (SB_inv h).c0
theorem SB_c1 (h : SB w vs0 g0 vs1 g1 us0 us1 k1 W) : ReadsRec W 4 us1 g1 := (SB_inv h).c1
end
set_option maxRecDepth 100000 in
set_option maxHeartbeats 8000000 in
theorem walk (vs0 : Nat → Value) (g0 : Nat → Dat) (vs1 : Nat → Value) (g1 : Nat → Dat) (w : World) (hr0 : ReadsRec w 1 vs0 g0) (ht0 : tyrFeatS g0) (hr1 : ReadsRec w 4 vs1 g1) (ht1 : tyrEnvelope g1)
    (hm : costRec 1 g0 ≤ 1048576 → costRec 4 g1 ≤ 1048576 → ∃ (r0 : Int) (r1 : Int), (∀ (W : World) (us0 : Nat → Value) (us1 : Nat → Value), ReadsRec W 1 us0 g0 → (∃ (A : Option Addr) (n c : Nat), us0 0 = .slice A n c ∧ n ≤ c) → ReadsRec W 4 us1 g1 → Calls Try.prog 27 #[us0 0, .agg #[us1 0, us1 1, us1 2, us1 3]] W fun e W' => e = .returned (.tuple #[.int .i64 r0, .int .i64 r1]) ∧ Below W.heap.size W W') ∧ (∀ (W : World) (us0 : Nat → Value) (us1 : Nat → Value), ReadsRec W 1 us0 g0 → (∃ (A : Option Addr) (n c : Nat), us0 0 = .slice A n c ∧ n ≤ c) → ReadsRec W 4 us1 g1 → Calls Try.prog 28 #[us0 0, .agg #[us1 0, us1 1, us1 2, us1 3]] W fun e W' => e = .returned (.tuple #[.int .i64 r0, .int .i64 r1]) ∧ Below W.heap.size W W')) :
    Calls Try.prog 5 #[vs0 0, .agg #[vs1 0, vs1 1, vs1 2, vs1 3]] w fun e w' => e = .returned (.bool true) ∧ Below w.heap.size w w' := by
  have HM := Lib.hid hm
  have HK := Lib.hid (SA_start hr0 hr1)
  have HT0 := Lib.hid ht0
  have HT1 := Lib.hid ht1
  obtain ⟨n0, f0, hg0, hf0⟩ := ht0
  have hq0 := hr0 0 (by omega)
  rw [hg0] at hq0
  obtain ⟨A0, ca0, hv0, hn0, -⟩ := hq0.sl_inv
  have HTO0 := Lib.hid (fun (hq : costRec 1 g0 ≤ 1048576) (V : World) (hV : SA w vs0 g0 vs1 g1 V) => to_roomFeatS vs0 g0 V hq (SA_r0 hV) HT0.out)
  have HSZ0 := Lib.hid (fun (left : Int) (V : World) (hV : SA w vs0 g0 vs1 g1 V) (h1 : _) (h2 : _) => szFeatS_rec vs0 g0 left V h1 h2 (SA_r0 hV) HT0.out)
  rw [hv0] at HTO0 HSZ0
  rw [hv0]
  unfold maxLen at hn0
  clear hg0 hf0 hq0 hv0 hr0 hr1 ht1 hm
  go_enter Try.func5, Try.ntmps5
  go_wp2_with fail
  refine (HSZ0.out _ _ HK.out (by omega) (by omega)).mono ?_
  rintro e w1 ⟨rfl, hb⟩
  have HK1 := Lib.hid (SA_kept hb HK.out)
  clear hb HK HSZ0
  by_cases hq0 : ((costRec 1 g0 : Nat) : Int) ≤ 1048576
  rotate_left
  · rw [left_no hq0]
    have HB := Lib.hid (SA_below HK1.out)
    clear HK1
    go_wp2
    go_ret
    exact ⟨rfl, HB.out⟩
  rw [left_yes hq0]
  have hq0' : ¬ (1048576 - ((costRec 1 g0 : Nat) : Int) < 0) := by omega
  obtain ⟨c0, c1, c2, c3, -⟩ := id HK1.out
  go_wp2_with fail
  refine (szEnvelope_rec vs1 g1 _ _ (by omega) (by omega) (SA_r1 HK1.out) HT1.out).mono ?_
  rintro e w2 ⟨rfl, hb⟩
  have HK := Lib.hid (SA_kept hb HK1.out)
  clear c0 c1 c2 c3 hb HK1
  by_cases hq1 : ((costRec 4 g1 : Nat) : Int) ≤ 1048576 - ((costRec 1 g0 : Nat) : Int)
  rotate_left
  · rw [left_no hq1]
    have HB := Lib.hid (SA_below HK.out)
    clear HK
    go_wp2
    go_ret
    exact ⟨rfl, HB.out⟩
  rw [left_yes hq1]
  have hq1' : ¬ (1048576 - ((costRec 1 g0 : Nat) : Int) - ((costRec 4 g1 : Nat) : Int) < 0) := by omega
  obtain ⟨r0, r1, hS, hI⟩ := HM.out (by omega) (by omega)
  have HS := Lib.hid hS
  have HI := Lib.hid hI
  have HTO := Lib.hid (HTO0.out (by omega))
  have HQ1 := Lib.hid (show costRec 4 g1 ≤ 1048576 by omega)
  clear hS hI HM HTO0
  obtain ⟨c0, c1, c2, c3, -⟩ := id HK.out
  have hk := HK.out
  go_upto_region 8 with fail
  go_cut [6, 7] (fun z0 z1 wx => z0 = .int .i64 r0 ∧ z1 = .int .i64 r1 ∧ Hid (SA w vs0 g0 vs1 g1 wx))
  case first =>
    go_region_held3 (fun W => W.cell? ⟨w.heap.size, 0, none⟩ = some (vs1 0) ∧ W.cell? ⟨w.heap.size, 1, none⟩ = some (vs1 1) ∧ W.cell? ⟨w.heap.size, 2, none⟩ = some (vs1 2) ∧ W.cell? ⟨w.heap.size, 3, none⟩ = some (vs1 3) ∧ InvA w vs0 g0 vs1 g1 W) (first | assumption | exact SA_drew hk | go_keep)
      (first
        | (go_at_call 16; (with_reducible refine (HTO.out _ (by first | assumption | exact SA_drew hk)).mono ?_); rintro e wt0 ⟨ut0, rfl, ho0, hb0, hro0⟩; have hu0 := ho0.reads; have hk0 := SA_kept hb0 (by first | assumption | exact SA_drew hk); (try have hu1 := hu1.kept hb0))
        | (go_at_call 25; (with_reducible refine (toEnvelope_rec vs1 g1 _ HQ1.out (by first | exact SA_r1 (by assumption) | exact SA_r1 (SA_drew hk)) HT1.out).mono ?_); rintro e wt1 ⟨ut1, rfl, ho1, hb1⟩; have hu1 := ho1.reads; have hk1 := SA_kept hb1 (by first | assumption | exact SA_drew hk); (try have hu0 := hu0.kept hb1))
        | (go_at_call 27; refine (HS.out _ ut0 ut1 (by assumption) hro0 (by assumption)).mono ?_; rintro e wc ⟨rfl, hbc⟩; have hk9 := SA_kept hbc (by assumption)))
    all_goals
      rename_i hh
      have HH := Lib.hid hh
      clear hh
      go_wp2_with fail
      go_meet
      exact ⟨rfl, rfl, HH⟩
  case rest =>
    obtain ⟨rfl, rfl, HC⟩ := hcut
    clear hk HK c0 c1 c2 c3
    go_wp2_with fail
    refine (HTO.out _ HC.out).mono ?_
    rintro e w3 ⟨us0, rfl, ho, hb, hro⟩
    have HK := Lib.hid (SA_kept hb HC.out)
    have HX0 := Lib.hid ho.reads
    have HRO := Lib.hid hro
    clear ho hb hro HC
    obtain ⟨c0, c1, c2, c3, -⟩ := id HK.out
    go_wp2_with fail
    refine (toEnvelope_rec vs1 g1 _ HQ1.out (SA_r1 HK.out) HT1.out).mono ?_
    rintro e wx0 ⟨us1, rfl, ho, hb⟩
    have HK1 := Lib.hid (SA_kept hb HK.out)
    have HU1 := Lib.hid ho.reads
    have HX1 := Lib.hid (HX0.out.kept hb)
    have st0_0 : ∀ (a : Addr) (W : World), (store a (us1 0)).run Try.prog W = stored Try.prog W a (us1 0) .plain := fun a W => run_store _ _ _ _ _ (HU1.out 0 (by omega)).one
    have st0_1 : ∀ (a : Addr) (W : World), (store a (us1 1)).run Try.prog W = stored Try.prog W a (us1 1) .plain := fun a W => run_store _ _ _ _ _ (HU1.out 1 (by omega)).one
    have st0_2 : ∀ (a : Addr) (W : World), (store a (us1 2)).run Try.prog W = stored Try.prog W a (us1 2) .plain := fun a W => run_store _ _ _ _ _ (HU1.out 2 (by omega)).one
    have st0_3 : ∀ (a : Addr) (W : World), (store a (us1 3)).run Try.prog W = stored Try.prog W a (us1 3) .plain := fun a W => run_store _ _ _ _ _ (HU1.out 3 (by omega)).one
    clear c0 c1 c2 c3 hb ho HK HX0
    have HA := Lib.hid (SA_kept (below_alloc1 wx0 (.cells #[us1 0, us1 1, us1 2, us1 3] 26)) HK1.out)
    have HKB := Lib.hid (show SB w vs0 g0 vs1 g1 us0 us1 wx0.heap.size (wx0.alloc (.cells #[us1 0, us1 1, us1 2, us1 3] 26)) from ⟨by simp, by simp, by simp, by simp, HA.out.1, HA.out.2.1, HA.out.2.2.1, HA.out.2.2.2.1, ⟨HA.out, (by simp), HX1.out.kept (below_alloc1 _ _), HU1.out.kept (below_alloc1 _ _)⟩⟩)
    obtain ⟨d0, d1, d2, d3, c0, c1, c2, c3, -⟩ := id HKB.out
    go_wp2_with fail
    refine (HI.out _ us0 us1 (SB_c0 HKB.out) HRO.out (SB_c1 HKB.out)).mono ?_
    rintro e w9 ⟨rfl, hb⟩
    have HK9 := Lib.hid (SB_kept hb HKB.out)
    clear d0 d1 d2 d3 c0 c1 c2 c3 st0_0 st0_1 st0_2 st0_3 hb HKB HA HK1 HU1 HX1
    go_wp2_with fail
    refine (HTO.out _ (SB_a HK9.out)).mono ?_
    rintro e w5 ⟨ua0, rfl, ho, hb, hro⟩
    have HKC := Lib.hid (SB_kept hb HK9.out)
    have HU := Lib.hid ho.reads
    clear ho hb hro HK9
    go_wp2_with fail
    refine (eqFeatS_rec us0 ua0 g0 _ (SB_c0 HKC.out) HU.out HT0.out).mono ?_
    rintro e w6 ⟨rfl, hb⟩
    have HKD := Lib.hid (SB_kept hb HKC.out)
    clear hb HKC HU
    obtain ⟨d0, d1, d2, d3, c0, c1, c2, c3, -⟩ := id HKD.out
    have hk := HKD.out
    go_wp2
    go_region_held3 (fun W => W.cell? ⟨wx0.heap.size, 0, none⟩ = some (us1 0) ∧ W.cell? ⟨wx0.heap.size, 1, none⟩ = some (us1 1) ∧ W.cell? ⟨wx0.heap.size, 2, none⟩ = some (us1 2) ∧ W.cell? ⟨wx0.heap.size, 3, none⟩ = some (us1 3) ∧ W.cell? ⟨w.heap.size, 0, none⟩ = some (vs1 0) ∧ W.cell? ⟨w.heap.size, 1, none⟩ = some (vs1 1) ∧ W.cell? ⟨w.heap.size, 2, none⟩ = some (vs1 2) ∧ W.cell? ⟨w.heap.size, 3, none⟩ = some (vs1 3) ∧ InvB w vs0 g0 vs1 g1 us0 us1 wx0.heap.size W) (first | assumption | exact SB_drew hk | go_keep) (first | (go_at_call 25; refine (toEnvelope_rec vs1 g1 _ HQ1.out (by exact SA_r1 (SB_a (by assumption))) HT1.out).mono ?_; rintro e wa ⟨ua, rfl, hoa, hba⟩; have hra := hoa.reads; have hk2 := SB_kept hba (by assumption)) | (go_at_call 18; refine (eqEnvelope_rec us1 _ g1 _ (by exact SB_c1 (by assumption)) (by assumption) HT1.out).mono ?_; rintro e wd ⟨rfl, hbd⟩; have hk3 := SB_kept hbd (by assumption)))
    all_goals
      rename_i hh
      have HF := Lib.hid (SA_below (SB_a hh))
      clear hh
      go_wp2
      go_ret
      exact ⟨rfl, HF.out⟩
end Go.Proofs.Ythpmckfjlbiiiaa.wOutsideOf
