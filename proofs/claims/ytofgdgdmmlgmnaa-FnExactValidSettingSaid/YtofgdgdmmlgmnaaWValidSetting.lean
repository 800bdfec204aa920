/-
  Proved: the walk of the law on ValidSetting, out of what the two functions return.
  Conditions: what the two functions return for arguments that read as the law's own.
-/
import Derived.Test.YtofgdgdmmlgmnaaOpen
import Derived.Deep.RegionHeld3
import Derived.Deep.DeepCutAuto
namespace Go.Proofs.Ytofgdgdmmlgmnaa.wValidSetting
open Go.ChangeShapes Go.WideShapes Go.ChangeAt Go.RowKit Go.Joins
set_option linter.unusedVariables false
set_option linter.unusedSimpArgs false
open Go.Proofs.Ytofgdgdmmlgmnaa.core
/-- What the arguments' cells hold, and that nothing else has turned. -/
structure InvA (w : World) (vs0 : Nat → Value) (g0 : Nat → Dat) (W : World) : Prop where
  below : Below w.heap.size w W
  z : w.heap.size + 1 ≤ W.heap.size
  r0 : ReadsRec W 3 vs0 g0
abbrev SA (w : World) (vs0 : Nat → Value) (g0 : Nat → Dat) (W : World) : Prop := W.cell? ⟨w.heap.size, 0, none⟩ = some (vs0 0) ∧ W.cell? ⟨w.heap.size, 1, none⟩ = some (vs0 1) ∧ W.cell? ⟨w.heap.size, 2, none⟩ = some (vs0 2) ∧ InvA w vs0 g0 W
section
variable {w W W' : World} {vs0 : Nat → Value} {g0 : Nat → Dat}
theorem SA_inv (h : SA w vs0 g0 W) : InvA w vs0 g0 W := h.2.2.2
theorem SA_kept (hb : Below W.heap.size W W') (h : SA w vs0 g0 W) : SA w vs0 g0 W' := by
  obtain ⟨h0, h1, h2, hi⟩ := h
  have z := hi.z
  have hs := hb.size
  exact ⟨(hb.cell (p := ⟨w.heap.size, 0, none⟩) (by show w.heap.size < W.heap.size; omega)).trans h0, (hb.cell (p := ⟨w.heap.size, 1, none⟩) (by show w.heap.size < W.heap.size; omega)).trans h1, (hb.cell (p := ⟨w.heap.size, 2, none⟩) (by show w.heap.size < W.heap.size; omega)).trans h2, ⟨hi.below.trans (hb.mono hi.below.size), by omega, hi.r0.kept hb⟩⟩
theorem SA_drew (h : SA w vs0 g0 W) : SA w vs0 g0 W.drew := SA_kept ((Below.refl _ _).drew) h
theorem SA_r0 (h : SA w vs0 g0 W) : ReadsRec W 3 vs0 g0 := (SA_inv h).r0
theorem SA_below (h : SA w vs0 g0 W) : Below w.heap.size w W := (SA_inv h).below
theorem SA_start (h0 : ReadsRec w 3 vs0 g0) : SA w vs0 g0 (w.alloc (.cells #[vs0 0, vs0 1, vs0 2] 23)) := by
  have hb : Below w.heap.size w (w.alloc (.cells #[vs0 0, vs0 1, vs0 2] 23)) := ((Below.refl _ _).alloc (Nat.le_refl _) _)
  exact ⟨by simp, by simp, by simp, ⟨hb, by simp, h0.kept hb⟩⟩
end

set_option maxRecDepth 100000 in
set_option maxHeartbeats 4000000 in
theorem walk (vs0 : Nat → Value) (g0 : Nat → Dat) (w : World) (hr0 : ReadsRec w 3 vs0 g0) (ht0 : tyrSetting g0)
    (hm : ∃ (r0 : Bool), (∀ (W : World) (us0 : Nat → Value), ReadsRec W 3 us0 g0 → Calls Try.prog 12 #[.agg #[us0 0, us0 1, us0 2]] W fun e W' => e = .returned (.bool r0) ∧ Below W.heap.size W W') ∧ (∀ (W : World) (us0 : Nat → Value), ReadsRec W 3 us0 g0 → Calls Try.prog 14 #[.agg #[us0 0, us0 1, us0 2]] W fun e W' => e = .returned (.bool r0) ∧ Below W.heap.size W W')) :
    Calls Try.prog 3 #[.agg #[vs0 0, vs0 1, vs0 2]] w fun e w' => e = .returned (.bool true) ∧ Below w.heap.size w w' := by
  have HM := Lib.hid hm
  have HK := Lib.hid (SA_start hr0)
  clear hm hr0
  have HT0 := Lib.hid ht0
  clear ht0
  go_enter Try.func3, Try.ntmps3
  obtain ⟨r0, hS, hI⟩ := HM.out 
  have HS := Lib.hid hS
  have HI := Lib.hid hI
  clear hS hI HM
  have HQ0 := Lib.hid (show costRec 3 g0 ≤ 1048576 by obtain ⟨⟨_, e0⟩, ⟨_, e1⟩, ⟨_, e2⟩⟩ := HT0.out; simp [costRec, sumTo, cost, e0, e1, e2])
  obtain ⟨c0, c1, c2, -⟩ := id HK.out
  go_wp2_with fail
  refine (toSetting_rec vs0 g0 _ HQ0.out (SA_r0 HK.out) HT0.out).mono ?_
  rintro e w2 ⟨ut0, rfl, ho, hb⟩
  have HK1 := Lib.hid (SA_kept hb HK.out)
  have HU0 := Lib.hid ho.reads
  clear c0 c1 c2
  clear hb ho HK
  have HK := HK1
  clear HK1
  obtain ⟨c0, c1, c2, -⟩ := id HK.out
  go_wp2_with fail
  refine (HS.out _ ut0 HU0.out).mono ?_
  rintro e w3 ⟨rfl, hb⟩
  have HK1 := Lib.hid (SA_kept hb HK.out)
  clear c0 c1 c2
  clear hb HK HU0
  have HK := HK1
  clear HK1
  obtain ⟨c0, c1, c2, -⟩ := id HK.out
  cases r0
  all_goals
    go_wp2_with fail
    refine (toSetting_rec vs0 g0 _ HQ0.out (SA_r0 HK.out) HT0.out).mono ?_
    rintro e wz2 ⟨uz0, rfl, ho, hb⟩
    have HK1 := Lib.hid (SA_kept hb HK.out)
    have HU0 := Lib.hid ho.reads
    clear c0 c1 c2
    clear hb ho HK
    have HK := HK1
    clear HK1
    obtain ⟨c0, c1, c2, -⟩ := id HK.out
    go_wp2_with fail
    refine (HI.out _ uz0 HU0.out).mono ?_
    rintro e wz3 ⟨rfl, hb⟩
    have HF := Lib.hid (SA_below (SA_kept hb HK.out))
    clear c0 c1 c2
    clear hb HK
    go_wp2
    go_ret
    exact ⟨rfl, HF.out⟩

end Go.Proofs.Ytofgdgdmmlgmnaa.wValidSetting
