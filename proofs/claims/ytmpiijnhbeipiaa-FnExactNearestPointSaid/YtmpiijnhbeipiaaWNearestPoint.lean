/-
  Proved: the walk of the law on NearestPoint, out of what the two functions return.
  Conditions: what the two functions return for arguments that read as the law's own.
-/
import Derived.Test.YtmpiijnhbeipiaaOpen
import Derived.Deep.RegionHeld3
import Derived.Deep.DeepCutAuto
namespace Go.Proofs.Ytmpiijnhbeipiaa.wNearestPoint
open Go.ChangeShapes Go.WideShapes Go.ChangeAt Go.RowKit Go.Joins
set_option linter.unusedVariables false
set_option linter.unusedSimpArgs false
open Go.Proofs.Ytmpiijnhbeipiaa.core
/-- What the arguments' cells hold, and that nothing else has turned. -/
structure InvA (w : World) (vs0 : Nat → Value) (g0 : Nat → Dat) (vs1 : Nat → Value) (g1 : Nat → Dat) (W : World) : Prop where
  below : Below w.heap.size w W
  z : w.heap.size + 1 + 1 ≤ W.heap.size
  r0 : ReadsRec W 1 vs0 g0
  r1 : ReadsRec W 3 vs1 g1
abbrev SA (w : World) (vs0 : Nat → Value) (g0 : Nat → Dat) (vs1 : Nat → Value) (g1 : Nat → Dat) (W : World) : Prop := W.cell? ⟨w.heap.size, 0, none⟩ = some (vs0 0) ∧ W.cell? ⟨w.heap.size + 1, 0, none⟩ = some (vs1 0) ∧ W.cell? ⟨w.heap.size + 1, 1, none⟩ = some (vs1 1) ∧ W.cell? ⟨w.heap.size + 1, 2, none⟩ = some (vs1 2) ∧ InvA w vs0 g0 vs1 g1 W
section
variable {w W W' : World} {vs0 : Nat → Value} {g0 : Nat → Dat} {vs1 : Nat → Value} {g1 : Nat → Dat}
theorem SA_inv (h : SA w vs0 g0 vs1 g1 W) : InvA w vs0 g0 vs1 g1 W := h.2.2.2.2
theorem SA_kept (hb : Below W.heap.size W W') (h : SA w vs0 g0 vs1 g1 W) : SA w vs0 g0 vs1 g1 W' := by
  obtain ⟨h0, h1, h2, h3, hi⟩ := h
  have z := hi.z
  have hs := hb.size
  exact ⟨(hb.cell (p := ⟨w.heap.size, 0, none⟩) (by show w.heap.size < W.heap.size; omega)).trans h0, (hb.cell (p := ⟨w.heap.size + 1, 0, none⟩) (by show w.heap.size + 1 < W.heap.size; omega)).trans h1, (hb.cell (p := ⟨w.heap.size + 1, 1, none⟩) (by show w.heap.size + 1 < W.heap.size; omega)).trans h2, (hb.cell (p := ⟨w.heap.size + 1, 2, none⟩) (by show w.heap.size + 1 < W.heap.size; omega)).trans h3, ⟨hi.below.trans (hb.mono hi.below.size), by omega, hi.r0.kept hb, hi.r1.kept hb⟩⟩
theorem SA_drew (h : SA w vs0 g0 vs1 g1 W) : SA w vs0 g0 vs1 g1 W.drew := SA_kept ((Below.refl _ _).drew) h
theorem SA_r0 (h : SA w vs0 g0 vs1 g1 W) : ReadsRec W 1 vs0 g0 := (SA_inv h).r0
theorem SA_r1 (h : SA w vs0 g0 vs1 g1 W) : ReadsRec W 3 vs1 g1 := (SA_inv h).r1
theorem SA_below (h : SA w vs0 g0 vs1 g1 W) : Below w.heap.size w W := (SA_inv h).below
theorem SA_start (h0 : ReadsRec w 1 vs0 g0) (h1 : ReadsRec w 3 vs1 g1) : SA w vs0 g0 vs1 g1 ((w.alloc (.cells #[vs0 0] 33)).alloc (.cells #[vs1 0, vs1 1, vs1 2] 26)) := by
  have hb : Below w.heap.size w ((w.alloc (.cells #[vs0 0] 33)).alloc (.cells #[vs1 0, vs1 1, vs1 2] 26)) := (((Below.refl _ _).alloc (Nat.le_refl _) _).alloc (by simp; try omega) _)
  exact ⟨by simp, by simp, by simp, by simp, ⟨hb, by simp, h0.kept hb, h1.kept hb⟩⟩
end
/-- Besides: the copies, in cells of their own. -/
structure InvB (w : World) (vs0 : Nat → Value) (g0 : Nat → Dat) (vs1 : Nat → Value) (g1 : Nat → Dat) (us0 : Nat → Value) (k0 : Nat) (W : World) : Prop where
  base : SA w vs0 g0 vs1 g1 W
  kz0 : k0 < W.heap.size
  c0 : ReadsRec W 1 us0 g0
abbrev SB (w : World) (vs0 : Nat → Value) (g0 : Nat → Dat) (vs1 : Nat → Value) (g1 : Nat → Dat) (us0 : Nat → Value) (k0 : Nat) (W : World) : Prop := W.cell? ⟨k0, 0, none⟩ = some (us0 0) ∧ W.cell? ⟨w.heap.size, 0, none⟩ = some (vs0 0) ∧ W.cell? ⟨w.heap.size + 1, 0, none⟩ = some (vs1 0) ∧ W.cell? ⟨w.heap.size + 1, 1, none⟩ = some (vs1 1) ∧ W.cell? ⟨w.heap.size + 1, 2, none⟩ = some (vs1 2) ∧ InvB w vs0 g0 vs1 g1 us0 k0 W
section
variable {w W W' : World} {vs0 : Nat → Value} {g0 : Nat → Dat} {vs1 : Nat → Value} {g1 : Nat → Dat} {us0 : Nat → Value} {k0 : Nat}
theorem SB_inv (h : SB w vs0 g0 vs1 g1 us0 k0 W) : InvB w vs0 g0 vs1 g1 us0 k0 W := h.2.2.2.2.2
theorem SB_kept (hb : Below W.heap.size W W') (h : SB w vs0 g0 vs1 g1 us0 k0 W) : SB w vs0 g0 vs1 g1 us0 k0 W' := by
  obtain ⟨b0, h0, h1, h2, h3, hi⟩ := h
  have hs := hb.size
  have ha := SA_kept hb hi.base
  obtain ⟨d0, d1, d2, d3, _⟩ := id ha
  exact ⟨(hb.cell (p := ⟨k0, 0, none⟩) hi.kz0).trans b0, d0, d1, d2, d3, ⟨ha, Nat.lt_of_lt_of_le hi.kz0 hs, hi.c0.kept hb⟩⟩
theorem SB_drew (h : SB w vs0 g0 vs1 g1 us0 k0 W) : SB w vs0 g0 vs1 g1 us0 k0 W.drew := SB_kept ((Below.refl _ _).drew) h
theorem SB_a (h : SB w vs0 g0 vs1 g1 us0 k0 W) : SA w vs0 g0 vs1 g1 W := (SB_inv h).base
theorem SB_c0 (h : SB w vs0 g0 vs1 g1 us0 k0 W) : ReadsRec W 1 us0 g0 := (SB_inv h).c0
end

set_option maxRecDepth 100000 in
set_option maxHeartbeats 4000000 in
theorem walk (vs0 : Nat → Value) (g0 : Nat → Dat) (vs1 : Nat → Value) (g1 : Nat → Dat) (w : World) (hr0 : ReadsRec w 1 vs0 g0) (ht0 : tyrStroke g0) (hr1 : ReadsRec w 3 vs1 g1) (ht1 : tyrPoint g1)
    (hm : costRec 1 g0 ≤ 1048576 → ∃ (r0 : Int) (r1 : Int), (∀ (W : World) (us0 : Nat → Value) (us1 : Nat → Value), ReadsRec W 1 us0 g0 → ReadsRec W 3 us1 g1 → Calls Try.prog 34 #[.agg #[us0 0], .agg #[us1 0, us1 1, us1 2]] W fun e W' => e = .returned (.tuple #[.int .i64 r0, .int .i64 r1]) ∧ Below W.heap.size W W') ∧ (∀ (W : World) (us0 : Nat → Value) (us1 : Nat → Value), ReadsRec W 1 us0 g0 → ReadsRec W 3 us1 g1 → Calls Try.prog 35 #[.agg #[us0 0], .agg #[us1 0, us1 1, us1 2]] W fun e W' => e = .returned (.tuple #[.int .i64 r0, .int .i64 r1]) ∧ Below W.heap.size W W')) :
    Calls Try.prog 11 #[.agg #[vs0 0], .agg #[vs1 0, vs1 1, vs1 2]] w fun e w' => e = .returned (.bool true) ∧ Below w.heap.size w w' := by
  have HM := Lib.hid hm
  have HK := Lib.hid (SA_start hr0 hr1)
  clear hm hr0 hr1
  have HT0 := Lib.hid ht0
  clear ht0
  have HT1 := Lib.hid ht1
  clear ht1
  go_enter Try.func11, Try.ntmps11
  go_wp2_with fail
  refine (szStroke_rec vs0 g0 _ _ (by omega) (by omega) (SA_r0 HK.out) HT0.out).mono ?_
  rintro e w1 ⟨rfl, hb⟩
  have HK1 := Lib.hid (SA_kept hb HK.out)
  clear hb HK
  have HK := HK1
  clear HK1
  by_cases hq0 : ((costRec 1 g0 : Nat) : Int) ≤ 1048576
  rotate_left
  · rw [left_no hq0]
    have HB := Lib.hid (SA_below HK.out)
    clear HK
    go_wp2
    go_ret
    exact ⟨rfl, HB.out⟩
  rw [left_yes hq0]
  have hq0' : ¬ (1048576 - ((costRec 1 g0 : Nat) : Int) < 0) := by omega
  obtain ⟨c0, c1, c2, c3, -⟩ := id HK.out
  obtain ⟨r0, r1, hS, hI⟩ := HM.out (by omega)
  have HS := Lib.hid hS
  have HI := Lib.hid hI
  clear hS hI HM
  have HQ0 := Lib.hid (show costRec 1 g0 ≤ 1048576 by omega)
  have HQ1 := Lib.hid (show costRec 3 g1 ≤ 1048576 by obtain ⟨⟨_, e0⟩, ⟨_, e1⟩, ⟨_, e2⟩⟩ := HT1.out; simp [costRec, sumTo, cost, e0, e1, e2])
  have hq0n := hq0'
  have hk := HK.out
  go_upto_region 5 with fail
  go_cut [6, 7] (fun z0 z1 wx => z0 = .int .i64 r0 ∧ z1 = .int .i64 r1 ∧ Hid (SA w vs0 g0 vs1 g1 wx))
  case first =>
    go_region_held3 (fun W => W.cell? ⟨w.heap.size, 0, none⟩ = some (vs0 0) ∧ W.cell? ⟨w.heap.size + 1, 0, none⟩ = some (vs1 0) ∧ W.cell? ⟨w.heap.size + 1, 1, none⟩ = some (vs1 1) ∧ W.cell? ⟨w.heap.size + 1, 2, none⟩ = some (vs1 2) ∧ InvA w vs0 g0 vs1 g1 W) (first | assumption | exact SA_drew hk | go_keep)
      (first
        | (go_at_call 21; (with_reducible refine (toStroke_rec vs0 g0 _ HQ0.out (by exact SA_r0 (by assumption)) HT0.out).mono ?_); rintro e wt0 ⟨ut0, rfl, ho0, hb0⟩; have hu0 := ho0.reads; have hk0 := SA_kept hb0 (by assumption); (try have hu1 := hu1.kept hb0))
        | (go_at_call 17; (with_reducible refine (toPoint_rec vs1 g1 _ HQ1.out (by exact SA_r1 (by assumption)) HT1.out).mono ?_); rintro e wt1 ⟨ut1, rfl, ho1, hb1⟩; have hu1 := ho1.reads; have hk1 := SA_kept hb1 (by assumption); (try have hu0 := hu0.kept hb1))
        | (go_at_call 34; refine (HS.out _ ut0 ut1 (by assumption) (by assumption)).mono ?_; rintro e wc ⟨rfl, hbc⟩; have hk9 := SA_kept hbc (by assumption)))
    all_goals
      rename_i hh
      have HH := Lib.hid hh
      clear hh
      go_wp2_with fail
      go_meet
      exact ⟨rfl, rfl, HH⟩
  case rest =>
    obtain ⟨rfl, rfl, HC⟩ := hcut
    clear hk HK
    clear c0 c1 c2 c3
    have HK := HC
    clear HC
    obtain ⟨c0, c1, c2, c3, -⟩ := id HK.out
    go_wp2_with fail
    refine (toStroke_rec vs0 g0 _ HQ0.out (SA_r0 HK.out) HT0.out).mono ?_
    rintro e wx0 ⟨us0, rfl, ho, hb⟩
    have HK1 := Lib.hid (SA_kept hb HK.out)
    have HU0 := Lib.hid ho.reads
    have st0_0 : ∀ (a : Addr) (W : World), (store a (us0 0)).run Try.prog W = stored Try.prog W a (us0 0) .plain := fun a W => run_store _ _ _ _ _ (HU0.out 0 (by omega)).one
    clear c0 c1 c2 c3
    clear hb ho HK
    have HK := HK1
    clear HK1
    obtain ⟨c0, c1, c2, c3, -⟩ := id HK.out
    have lz0_0 : w.heap.size < wx0.heap.size := by have := (SA_inv HK.out).z; omega
    have lz0_1 : w.heap.size + 1 < wx0.heap.size := by have := (SA_inv HK.out).z; omega
    have HA := Lib.hid (SA_kept (below_alloc1 wx0 (.cells #[us0 0] 38)) HK.out)
    have HKB := Lib.hid (show SB w vs0 g0 vs1 g1 us0 wx0.heap.size (wx0.alloc (.cells #[us0 0] 38)) from ⟨by simp, HA.out.1, HA.out.2.1, HA.out.2.2.1, HA.out.2.2.2.1, ⟨HA.out, (by simp; try omega), HU0.out.kept (below_alloc1 _ _)⟩⟩)
    go_upto_region 7 with fail
    clear c0 c1 c2 c3
    clear st0_0
    clear HK HA
    have HK := HKB
    clear HKB
    obtain ⟨d0, c0, c1, c2, c3, -⟩ := id HK.out
    have hk := HK.out
    go_cut [9, 10] (fun z0 z1 wx => z0 = .int .i64 r0 ∧ z1 = .int .i64 r1 ∧ Hid (SB w vs0 g0 vs1 g1 us0 wx0.heap.size wx))
    case first =>
      go_region_held3 (fun W => W.cell? ⟨wx0.heap.size, 0, none⟩ = some (us0 0) ∧ W.cell? ⟨w.heap.size, 0, none⟩ = some (vs0 0) ∧ W.cell? ⟨w.heap.size + 1, 0, none⟩ = some (vs1 0) ∧ W.cell? ⟨w.heap.size + 1, 1, none⟩ = some (vs1 1) ∧ W.cell? ⟨w.heap.size + 1, 2, none⟩ = some (vs1 2) ∧ InvB w vs0 g0 vs1 g1 us0 wx0.heap.size W) (first | assumption | exact SB_drew hk | go_keep) (first | (go_at_call 17; (with_reducible refine (toPoint_rec vs1 g1 _ HQ1.out (by exact SA_r1 (SB_a (by assumption))) HT1.out).mono ?_); rintro e wt1 ⟨ut1, rfl, ho1, hb1⟩; have hu1 := ho1.reads; have hk1 := SB_kept hb1 (by assumption)) | (go_at_call 35; refine (HI.out _ us0 ut1 (by exact SB_c0 (by assumption)) (by assumption)).mono ?_; rintro e wc ⟨rfl, hbc⟩; have hk9 := SB_kept hbc (by assumption)))
      all_goals
        rename_i hh
        have HH := Lib.hid hh
        clear hh
        go_wp2_with fail
        go_meet
        exact ⟨rfl, rfl, HH⟩
    case rest =>
      obtain ⟨rfl, rfl, HC⟩ := hcut
      clear hk HK
      clear d0 c0 c1 c2 c3
      have HK := HC
      clear HC
      obtain ⟨d0, c0, c1, c2, c3, -⟩ := id HK.out
      all_goals
        have hk := HK.out
        go_wp2
        first | (go_region_held3 (fun W => W.cell? ⟨wx0.heap.size, 0, none⟩ = some (us0 0) ∧ W.cell? ⟨w.heap.size, 0, none⟩ = some (vs0 0) ∧ W.cell? ⟨w.heap.size + 1, 0, none⟩ = some (vs1 0) ∧ W.cell? ⟨w.heap.size + 1, 1, none⟩ = some (vs1 1) ∧ W.cell? ⟨w.heap.size + 1, 2, none⟩ = some (vs1 2) ∧ InvB w vs0 g0 vs1 g1 us0 wx0.heap.size W) (first | assumption | exact SB_drew hk | go_keep) (first | (go_at_call 21; refine (toStroke_rec vs0 g0 _ HQ0.out (by exact SA_r0 (SB_a (by assumption))) HT0.out).mono ?_; rintro e wa ⟨ua, rfl, hoa, hba⟩; have hra := hoa.reads; have hk2 := SB_kept hba (by assumption)) | (go_at_call 23; refine (eqStroke_rec us0 _ g0 _ (by exact SB_c0 (by assumption)) (by assumption) HT0.out).mono ?_; rintro e wd ⟨rfl, hbd⟩; have hk3 := SB_kept hbd (by assumption)))) | fail
        all_goals
          rename_i hh
          have HF := Lib.hid (SA_below (SB_a hh))
          clear hh
          go_wp2
          go_ret
          exact ⟨rfl, HF.out⟩

end Go.Proofs.Ytmpiijnhbeipiaa.wNearestPoint
