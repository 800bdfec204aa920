/-
  Proved: the walk of the law on HomeOf, out of what the two functions return.
  Conditions: what the two functions return for arguments that read as the law's own.
-/
import Derived.Test.YtofgdgdmmlgmnaaOpen
import Derived.Deep.RegionHeld3
import Derived.Deep.DeepCutAuto
namespace Go.Proofs.Ytofgdgdmmlgmnaa.wHomeOf
open Go.ChangeShapes Go.WideShapes Go.ChangeAt Go.RowKit Go.Joins
set_option linter.unusedVariables false
set_option linter.unusedSimpArgs false
open Go.Proofs.Ytofgdgdmmlgmnaa.core
/-- What the arguments' cells hold, and that nothing else has turned. -/
structure InvA (w : World) (vs0 : Nat → Value) (g0 : Nat → Dat) (W : World) : Prop where
  below : Below w.heap.size w W
  z : w.heap.size + 1 ≤ W.heap.size
  r0 : ReadsRec W 1 vs0 g0
abbrev SA (w : World) (vs0 : Nat → Value) (g0 : Nat → Dat) (W : World) : Prop := W.cell? ⟨w.heap.size, 0, none⟩ = some (vs0 0) ∧ InvA w vs0 g0 W
section
variable {w W W' : World} {vs0 : Nat → Value} {g0 : Nat → Dat}
theorem SA_inv (h : SA w vs0 g0 W) : InvA w vs0 g0 W := h.2
theorem SA_kept (hb : Below W.heap.size W W') (h : SA w vs0 g0 W) : SA w vs0 g0 W' := by
  obtain ⟨h0, hi⟩ := h
  have z := hi.z
  have hs := hb.size
  exact ⟨(hb.cell (p := ⟨w.heap.size, 0, none⟩) (by show w.heap.size < W.heap.size; omega)).trans h0, ⟨hi.below.trans (hb.mono hi.below.size), by omega, hi.r0.kept hb⟩⟩
theorem SA_drew (h : SA w vs0 g0 W) : SA w vs0 g0 W.drew := SA_kept ((Below.refl _ _).drew) h
theorem SA_r0 (h : SA w vs0 g0 W) : ReadsRec W 1 vs0 g0 := (SA_inv h).r0
theorem SA_below (h : SA w vs0 g0 W) : Below w.heap.size w W := (SA_inv h).below
theorem SA_start (h0 : ReadsRec w 1 vs0 g0) : SA w vs0 g0 (w.alloc (.cells #[vs0 0] 63)) := by
  have hb : Below w.heap.size w (w.alloc (.cells #[vs0 0] 63)) := ((Below.refl _ _).alloc (Nat.le_refl _) _)
  exact ⟨by simp, ⟨hb, by simp, h0.kept hb⟩⟩
end
/-- Besides: the copies, in cells of their own. -/
structure InvB (w : World) (vs0 : Nat → Value) (g0 : Nat → Dat) (us0 : Nat → Value) (k0 : Nat) (W : World) : Prop where
  base : SA w vs0 g0 W
  kz0 : k0 < W.heap.size
  c0 : ReadsRec W 1 us0 g0
abbrev SB (w : World) (vs0 : Nat → Value) (g0 : Nat → Dat) (us0 : Nat → Value) (k0 : Nat) (W : World) : Prop := W.cell? ⟨k0, 0, none⟩ = some (us0 0) ∧ W.cell? ⟨w.heap.size, 0, none⟩ = some (vs0 0) ∧ InvB w vs0 g0 us0 k0 W
section
variable {w W W' : World} {vs0 : Nat → Value} {g0 : Nat → Dat} {us0 : Nat → Value} {k0 : Nat}
theorem SB_inv (h : SB w vs0 g0 us0 k0 W) : InvB w vs0 g0 us0 k0 W := h.2.2
theorem SB_kept (hb : Below W.heap.size W W') (h : SB w vs0 g0 us0 k0 W) : SB w vs0 g0 us0 k0 W' := by
  obtain ⟨b0, h0, hi⟩ := h
  have hs := hb.size
  have ha := SA_kept hb hi.base
  obtain ⟨d0, _⟩ := id ha
  exact ⟨(hb.cell (p := ⟨k0, 0, none⟩) hi.kz0).trans b0, d0, ⟨ha, Nat.lt_of_lt_of_le hi.kz0 hs, hi.c0.kept hb⟩⟩
theorem SB_drew (h : SB w vs0 g0 us0 k0 W) : SB w vs0 g0 us0 k0 W.drew := SB_kept ((Below.refl _ _).drew) h
theorem SB_a (h : SB w vs0 g0 us0 k0 W) : SA w vs0 g0 W := (SB_inv h).base
theorem SB_c0 (h : SB w vs0 g0 us0 k0 W) : ReadsRec W 1 us0 g0 := (SB_inv h).c0
end

set_option maxRecDepth 100000 in
set_option maxHeartbeats 4000000 in
theorem walk (vs0 : Nat → Value) (g0 : Nat → Dat) (a1 : Int) (w : World) (hr0 : ReadsRec w 1 vs0 g0) (ht0 : tyrInk g0)
    (hm : costRec 1 g0 ≤ 1048576 → ∃ (r0 : Int) (r1 : Int), (∀ (W : World) (us0 : Nat → Value), ReadsRec W 1 us0 g0 → Calls Try.prog 39 #[.agg #[us0 0], .int .i64 a1] W fun e W' => e = .returned (.tuple #[.int .i64 r0, .int .i64 r1]) ∧ Below W.heap.size W W') ∧ (∀ (W : World) (us0 : Nat → Value), ReadsRec W 1 us0 g0 → Calls Try.prog 41 #[.agg #[us0 0], .int .i64 a1] W fun e W' => e = .returned (.tuple #[.int .i64 r0, .int .i64 r1]) ∧ Below W.heap.size W W')) :
    Calls Try.prog 11 #[.agg #[vs0 0], .int .i64 a1] w fun e w' => e = .returned (.bool true) ∧ Below w.heap.size w w' := by
  have HM := Lib.hid hm
  have HK := Lib.hid (SA_start hr0)
  clear hm hr0
  have HT0 := Lib.hid ht0
  clear ht0
  go_enter Try.func11, Try.ntmps11
  go_wp2_with fail
  refine (szInk_rec vs0 g0 _ _ (by omega) (by omega) (SA_r0 HK.out) HT0.out).mono ?_
  rintro e w1 ⟨rfl, hb⟩
  have HK1 := Lib.hid (SA_kept hb HK.out)
  clear hb HK
  have HK := HK1
  clear HK1
  by_cases hq0 : ((costRec 1 g0 : Nat) : Int) ≤ 1048576
  rotate_left
  · rw [left_no hq0]
    have HB := Lib.hid (SA_below HK.out)
    clear HK
    go_wp2
    go_ret
    exact ⟨rfl, HB.out⟩
  rw [left_yes hq0]
  have hq0' : ¬ (1048576 - ((costRec 1 g0 : Nat) : Int) < 0) := by omega
  obtain ⟨c0, -⟩ := id HK.out
  obtain ⟨r0, r1, hS, hI⟩ := HM.out (by omega)
  have HS := Lib.hid hS
  have HI := Lib.hid hI
  clear hS hI HM
  have HQ0 := Lib.hid (show costRec 1 g0 ≤ 1048576 by omega)
  have hq0n := hq0'
  go_wp2_with fail
  refine (toInk_rec vs0 g0 _ HQ0.out (SA_r0 HK.out) HT0.out).mono ?_
  rintro e w2 ⟨ut0, rfl, ho, hb⟩
  have HK1 := Lib.hid (SA_kept hb HK.out)
  have HU0 := Lib.hid ho.reads
  clear c0
  clear hb ho HK
  have HK := HK1
  clear HK1
  obtain ⟨c0, -⟩ := id HK.out
  go_wp2_with fail
  refine (HS.out _ ut0 HU0.out).mono ?_
  rintro e w3 ⟨rfl, hb⟩
  have HK1 := Lib.hid (SA_kept hb HK.out)
  clear c0
  clear hb HK HU0
  have HK := HK1
  clear HK1
  obtain ⟨c0, -⟩ := id HK.out
  go_wp2_with fail
  refine (toInk_rec vs0 g0 _ HQ0.out (SA_r0 HK.out) HT0.out).mono ?_
  rintro e wx0 ⟨us0, rfl, ho, hb⟩
  have HK1 := Lib.hid (SA_kept hb HK.out)
  have HU0 := Lib.hid ho.reads
  have st0_0 : ∀ (a : Addr) (W : World), (store a (us0 0)).run Try.prog W = stored Try.prog W a (us0 0) .plain := fun a W => run_store _ _ _ _ _ (HU0.out 0 (by omega)).one
  clear c0
  clear hb ho HK
  have HK := HK1
  clear HK1
  obtain ⟨c0, -⟩ := id HK.out
  have lz0_0 : w.heap.size < wx0.heap.size := by have := (SA_inv HK.out).z; omega
  have HA := Lib.hid (SA_kept (below_alloc1 wx0 (.cells #[us0 0] 68)) HK.out)
  have HKB := Lib.hid (show SB w vs0 g0 us0 wx0.heap.size (wx0.alloc (.cells #[us0 0] 68)) from ⟨by simp, HA.out.1, ⟨HA.out, (by simp; try omega), HU0.out.kept (below_alloc1 _ _)⟩⟩)
  go_wp2_with fail
  refine (HI.out _ us0 (SB_c0 HKB.out)).mono ?_
  rintro e w9 ⟨rfl, hb⟩
  have HK9 := Lib.hid (SB_kept hb HKB.out)
  clear c0
  clear st0_0
  clear hb HK HKB HA
  have HK := HK9
  clear HK9
  obtain ⟨d0, c0, -⟩ := id HK.out
  all_goals
    have hk := HK.out
    go_wp2
    first | (go_region_held3 (fun W => W.cell? ⟨wx0.heap.size, 0, none⟩ = some (us0 0) ∧ W.cell? ⟨w.heap.size, 0, none⟩ = some (vs0 0) ∧ InvB w vs0 g0 us0 wx0.heap.size W) (first | assumption | exact SB_drew hk | go_keep) (first | (go_at_call 40; refine (toInk_rec vs0 g0 _ HQ0.out (by exact SA_r0 (SB_a (by assumption))) HT0.out).mono ?_; rintro e wa ⟨ua, rfl, hoa, hba⟩; have hra := hoa.reads; have hk2 := SB_kept hba (by assumption)) | (go_at_call 42; refine (eqInk_rec us0 _ g0 _ (by exact SB_c0 (by assumption)) (by assumption) HT0.out).mono ?_; rintro e wd ⟨rfl, hbd⟩; have hk3 := SB_kept hbd (by assumption)))) | fail
    all_goals
      rename_i hh
      have HF := Lib.hid (SA_below (SB_a hh))
      clear hh
      go_wp2
      go_ret
      exact ⟨rfl, HF.out⟩

end Go.Proofs.Ytofgdgdmmlgmnaa.wHomeOf
