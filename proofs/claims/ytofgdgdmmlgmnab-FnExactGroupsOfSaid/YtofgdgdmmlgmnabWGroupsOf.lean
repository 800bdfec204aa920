/-
  Proved: the walk of the law on GroupsOf, out of what the two functions return.
  Conditions: what the two functions return for arguments that read as the law's own.
-/
import Derived.Test.YtofgdgdmmlgmnabOpen
import Derived.Test.YtofgdgdmmlgmnabWid
import Derived.Deep.RegionHeld3
import Derived.Deep.DeepCutAuto
namespace Go.Proofs.Ytofgdgdmmlgmnab.wGroupsOf
open Go.ChangeShapes Go.WideShapes Go.ChangeAt Go.RowKit Go.Joins
set_option linter.unusedVariables false
set_option linter.unusedSimpArgs false
open Go.Proofs.Ytofgdgdmmlgmnab.core
structure InvA (w : World) (vs0 : Nat → Value) (g0 : Nat → Dat)  (W : World) : Prop where
  below : Below w.heap.size w W
  z : w.heap.size + 1 ≤ W.heap.size
  r0 : ReadsRec W 1 vs0 g0
abbrev SA (w : World) (vs0 : Nat → Value) (g0 : Nat → Dat)  (W : World) : Prop := W.cell? ⟨w.heap.size, 0, none⟩ = some (vs0 0) ∧ InvA w vs0 g0  W
section
variable {w W W' : World} {vs0 : Nat → Value} {g0 : Nat → Dat} 
theorem SA_inv (h : SA w vs0 g0  W) : InvA w vs0 g0  W := h.2
theorem SA_kept (hb : Below W.heap.size W W') (h : SA w vs0 g0  W) : SA w vs0 g0  W' := by
  obtain ⟨h0, hi⟩ := h
  have z := hi.z
  have hs := hb.size
  exact ⟨(hb.cell (p := ⟨w.heap.size, 0, none⟩) (by show w.heap.size < W.heap.size; omega)).trans h0, ⟨hi.below.trans (hb.mono hi.below.size), by omega, hi.r0.kept hb⟩⟩
theorem SA_drew (h : SA w vs0 g0  W) : SA w vs0 g0  W.drew := SA_kept ((Below.refl _ _).drew) h
theorem SA_r0 (h : SA w vs0 g0  W) : ReadsRec W 1 vs0 g0 := (SA_inv h).r0
theorem SA_below (h : SA w vs0 g0  W) : Below w.heap.size w W := (SA_inv h).below
end
structure InvC (w : World) (vs0 : Nat → Value) (g0 : Nat → Dat) (R Q : Nat → Dat) (xw : Nat → Value) (lo0 hi0 : Nat) (us0 : Nat → Value) (lo1 hi1 : Nat) (xg : Nat → Value) (lo2 hi2 : Nat) (W : World) : Prop where
  below : Below w.heap.size w W
  z : w.heap.size + 1 ≤ W.heap.size
  r0 : ReadsRec W 1 vs0 g0
  l0 : w.heap.size + 1 ≤ lo0 ∧ lo0 ≤ hi0 ∧ hi0 ≤ W.heap.size
  o0 : OwnRec W 1 xw R (iv lo0 hi0)
  l1 : hi0 ≤ lo1 ∧ lo1 ≤ hi1 ∧ hi1 < W.heap.size
  o1 : OwnRec W 1 us0 g0 (iv lo1 hi1)
  l2 : hi1 + 1 ≤ lo2 ∧ lo2 ≤ hi2 ∧ hi2 ≤ W.heap.size
  o2 : OwnRec W 1 xg Q (iv lo2 hi2)
abbrev SC (w : World) (vs0 : Nat → Value) (g0 : Nat → Dat) (R Q : Nat → Dat) (xw : Nat → Value) (lo0 hi0 : Nat) (us0 : Nat → Value) (lo1 hi1 : Nat) (xg : Nat → Value) (lo2 hi2 : Nat) (W : World) : Prop := W.cell? ⟨hi1, 0, none⟩ = some (us0 0) ∧ W.cell? ⟨w.heap.size, 0, none⟩ = some (vs0 0) ∧ InvC w vs0 g0 R Q xw lo0 hi0 us0 lo1 hi1 xg lo2 hi2 W
section
variable {w W W' : World} {vs0 : Nat → Value} {g0 : Nat → Dat} {R Q : Nat → Dat} {xw : Nat → Value} {lo0 hi0 : Nat} {us0 : Nat → Value} {lo1 hi1 : Nat} {xg : Nat → Value} {lo2 hi2 : Nat}
theorem SC_inv (h : SC w vs0 g0 R Q xw lo0 hi0 us0 lo1 hi1 xg lo2 hi2 W) : InvC w vs0 g0 R Q xw lo0 hi0 us0 lo1 hi1 xg lo2 hi2 W := h.2.2
theorem SC_kept (hb : Below W.heap.size W W') (h : SC w vs0 g0 R Q xw lo0 hi0 us0 lo1 hi1 xg lo2 hi2 W) : SC w vs0 g0 R Q xw lo0 hi0 us0 lo1 hi1 xg lo2 hi2 W' := by
  obtain ⟨h0, h1, hi⟩ := h
  have z := hi.z
  have hs := hb.size
  have l0 := hi.l0
  have l1 := hi.l1
  have l2 := hi.l2
  exact ⟨(hb.cell (p := ⟨hi1, 0, none⟩) (by show hi1 < W.heap.size; omega)).trans h0, (hb.cell (p := ⟨w.heap.size, 0, none⟩) (by show w.heap.size < W.heap.size; omega)).trans h1, ⟨hi.below.trans (hb.mono hi.below.size), by omega, hi.r0.kept hb, ⟨l0.1, l0.2.1, by omega⟩, hi.o0.kept hb, ⟨l1.1, l1.2.1, by omega⟩, hi.o1.kept hb, ⟨l2.1, l2.2.1, by omega⟩, hi.o2.kept hb⟩⟩
theorem SC_drew (h : SC w vs0 g0 R Q xw lo0 hi0 us0 lo1 hi1 xg lo2 hi2 W) : SC w vs0 g0 R Q xw lo0 hi0 us0 lo1 hi1 xg lo2 hi2 W.drew := SC_kept ((Below.refl _ _).drew) h
theorem SC_r0 (h : SC w vs0 g0 R Q xw lo0 hi0 us0 lo1 hi1 xg lo2 hi2 W) : ReadsRec W 1 vs0 g0 := (SC_inv h).r0
theorem SC_o0 (h : SC w vs0 g0 R Q xw lo0 hi0 us0 lo1 hi1 xg lo2 hi2 W) : OwnRec W 1 xw R (iv lo0 hi0) := (SC_inv h).o0
theorem SC_o1 (h : SC w vs0 g0 R Q xw lo0 hi0 us0 lo1 hi1 xg lo2 hi2 W) : OwnRec W 1 us0 g0 (iv lo1 hi1) := (SC_inv h).o1
theorem SC_o2 (h : SC w vs0 g0 R Q xw lo0 hi0 us0 lo1 hi1 xg lo2 hi2 W) : OwnRec W 1 xg Q (iv lo2 hi2) := (SC_inv h).o2
theorem SC_below (h : SC w vs0 g0 R Q xw lo0 hi0 us0 lo1 hi1 xg lo2 hi2 W) : Below w.heap.size w W := (SC_inv h).below
end
structure InvD (w : World) (vs0 : Nat → Value) (g0 : Nat → Dat) (R Q : Nat → Dat) (xw : Nat → Value) (lo0 hi0 : Nat) (xg : Nat → Value) (lo1 hi1 : Nat) (W : World) : Prop where
  below : Below w.heap.size w W
  z : w.heap.size + 1 ≤ W.heap.size
  r0 : ReadsRec W 1 vs0 g0
  l0 : w.heap.size + 1 ≤ lo0 ∧ lo0 ≤ hi0 ∧ hi0 ≤ W.heap.size
  o0 : OwnRec W 1 xw R (iv lo0 hi0)
  l1 : hi0 ≤ lo1 ∧ lo1 ≤ hi1 ∧ hi1 ≤ W.heap.size
  o1 : OwnRec W 1 xg Q (iv lo1 hi1)
abbrev SD (w : World) (vs0 : Nat → Value) (g0 : Nat → Dat) (R Q : Nat → Dat) (xw : Nat → Value) (lo0 hi0 : Nat) (xg : Nat → Value) (lo1 hi1 : Nat) (W : World) : Prop := W.cell? ⟨w.heap.size, 0, none⟩ = some (vs0 0) ∧ InvD w vs0 g0 R Q xw lo0 hi0 xg lo1 hi1 W
section
variable {w W W' : World} {vs0 : Nat → Value} {g0 : Nat → Dat} {R Q : Nat → Dat} {xw : Nat → Value} {lo0 hi0 : Nat} {xg : Nat → Value} {lo1 hi1 : Nat}
theorem SD_inv (h : SD w vs0 g0 R Q xw lo0 hi0 xg lo1 hi1 W) : InvD w vs0 g0 R Q xw lo0 hi0 xg lo1 hi1 W := h.2
theorem SD_kept (hb : Below W.heap.size W W') (h : SD w vs0 g0 R Q xw lo0 hi0 xg lo1 hi1 W) : SD w vs0 g0 R Q xw lo0 hi0 xg lo1 hi1 W' := by
  obtain ⟨h0, hi⟩ := h
  have z := hi.z
  have hs := hb.size
  have l0 := hi.l0
  have l1 := hi.l1
  exact ⟨(hb.cell (p := ⟨w.heap.size, 0, none⟩) (by show w.heap.size < W.heap.size; omega)).trans h0, ⟨hi.below.trans (hb.mono hi.below.size), by omega, hi.r0.kept hb, ⟨l0.1, l0.2.1, by omega⟩, hi.o0.kept hb, ⟨l1.1, l1.2.1, by omega⟩, hi.o1.kept hb⟩⟩
theorem SD_drew (h : SD w vs0 g0 R Q xw lo0 hi0 xg lo1 hi1 W) : SD w vs0 g0 R Q xw lo0 hi0 xg lo1 hi1 W.drew := SD_kept ((Below.refl _ _).drew) h
theorem SD_r0 (h : SD w vs0 g0 R Q xw lo0 hi0 xg lo1 hi1 W) : ReadsRec W 1 vs0 g0 := (SD_inv h).r0
theorem SD_o0 (h : SD w vs0 g0 R Q xw lo0 hi0 xg lo1 hi1 W) : OwnRec W 1 xw R (iv lo0 hi0) := (SD_inv h).o0
theorem SD_o1 (h : SD w vs0 g0 R Q xw lo0 hi0 xg lo1 hi1 W) : OwnRec W 1 xg Q (iv lo1 hi1) := (SD_inv h).o1
theorem SD_below (h : SD w vs0 g0 R Q xw lo0 hi0 xg lo1 hi1 W) : Below w.heap.size w W := (SD_inv h).below
end
theorem SA_start {w : World} {vs0 : Nat → Value} {g0 : Nat → Dat} (h0 : ReadsRec w 1 vs0 g0) : SA w vs0 g0 (w.alloc (.cells #[vs0 0] 24)) := by
  have hb : Below w.heap.size w (w.alloc (.cells #[vs0 0] 24)) := ((Below.refl _ _).alloc (Nat.le_refl _) _)
  exact ⟨by simp, ⟨hb, by simp, h0.kept hb⟩⟩
section
variable {w W W' : World} {vs0 : Nat → Value} {g0 : Nat → Dat} {R Q Q' : Nat → Dat} {xw : Nat → Value} {lo0 hi0 : Nat} {us0 : Nat → Value} {lo1 hi1 : Nat} {xg : Nat → Value} {lo2 hi2 : Nat}
theorem C_D (hR0 : ∀ {V : World}, Below w.heap.size w V → ReadsRec V 1 vs0 g0) (ho : OnlyF (fun x => iv lo1 hi1 x) W W') (h : SC w vs0 g0 R Q xw lo0 hi0 us0 lo1 hi1 xg lo2 hi2 W) : SD w vs0 g0 R Q xw lo0 hi0 xg lo2 hi2 W' := by
  obtain ⟨h0, h1, hi⟩ := h
  have z := hi.z
  have hs := ho.size
  have l0 := hi.l0
  have l1 := hi.l1
  have l2 := hi.l2
  have hF : ∀ x, (fun x => iv lo1 hi1 x) x → lo1 ≤ x ∧ x < lo2 := fun x hx => by
    unfold iv at hx; omega
  have cel : ∀ (b q : Nat), b < W.heap.size → (b < lo1 ∨ lo2 ≤ b) → W'.cell? ⟨b, q, none⟩ = W.cell? ⟨b, q, none⟩ := fun b q hb hd => ho.cell (p := ⟨b, q, none⟩) hb (fun hx => by have := hF _ hx; simp at this; omega)
  have hbw : Below w.heap.size w W' := hi.below.trans (ho.below (fun x hx => by have := hF x hx; omega) (by omega))
  exact ⟨(cel (w.heap.size) 0 (by omega) (by omega)).trans h1, ⟨hbw, by omega, hR0 hbw, ⟨l0.1, l0.2.1, by omega⟩, hi.o0.only ho (fun x hx hx2 => by have := hF x hx2; unfold iv at hx; omega), ⟨by omega, l2.2.1, by omega⟩, hi.o2.only ho (fun x hx hx2 => by have := hF x hx2; unfold iv at hx; omega)⟩⟩
theorem D_D (hR0 : ∀ {V : World}, Below w.heap.size w V → ReadsRec V 1 vs0 g0) (ho : OnlyF (iv lo2 hi2) W W') (hq : OwnRec W' 1 xg Q' (iv lo2 hi2)) (h : SD w vs0 g0 R Q xw lo0 hi0 xg lo2 hi2 W) : SD w vs0 g0 R Q' xw lo0 hi0 xg lo2 hi2 W' := by
  obtain ⟨h0, hi⟩ := h
  have z := hi.z
  have hs := ho.size
  have l0 := hi.l0
  have l1 := hi.l1
  have cel : ∀ (b q : Nat), b < W.heap.size → (b < lo2 ∨ hi2 ≤ b) → W'.cell? ⟨b, q, none⟩ = W.cell? ⟨b, q, none⟩ := fun b q hb hd => ho.cell (p := ⟨b, q, none⟩) hb (fun hx => by unfold iv at hx; simp at hx; omega)
  have hbw : Below w.heap.size w W' := hi.below.trans (ho.below (fun x hx => by unfold iv at hx; omega) (by omega))
  exact ⟨(cel (w.heap.size) 0 (by omega) (by omega)).trans h0, ⟨hbw, by omega, hR0 hbw, ⟨l0.1, l0.2.1, by omega⟩, hi.o0.only ho (fun x hx hx2 => by unfold iv at hx hx2; omega), ⟨l1.1, l1.2.1, by omega⟩, hq⟩⟩
end

set_option maxRecDepth 100000 in
set_option maxHeartbeats 8000000 in
theorem walk (vs0 : Nat → Value) (g0 : Nat → Dat) (w : World) (hr0 : ReadsRec w 1 vs0 g0) (ht0 : tyrInk g0)
    (hm : costRec 1 g0 ≤ 1048576 → ∃ (R : Nat → Dat) (r1 : Int), tyrGroupS R ∧ cntRec 1 R ≤ 100000000000 ∧ (∀ (W : World) (us0 : Nat → Value), ReadsRec W 1 us0 g0 → Calls Try.prog 16 #[.agg #[us0 0]] W fun e W' => ∃ xs : Nat → Value, e = .returned (.tuple #[xs 0, .int .i64 r1]) ∧ OwnRec W' 1 xs R (iv W.heap.size W'.heap.size) ∧ Below W.heap.size W W') ∧ (∀ (W : World) (us0 : Nat → Value), ReadsRec W 1 us0 g0 → Calls Try.prog 17 #[.agg #[us0 0]] W fun e W' => ∃ xs : Nat → Value, e = .returned (.tuple #[xs 0, .int .i64 r1]) ∧ OwnRec W' 1 xs R (iv W.heap.size W'.heap.size) ∧ Below W.heap.size W W')) :
    Calls Try.prog 4 #[.agg #[vs0 0]] w fun e w' => e = .returned (.bool true) ∧ Below w.heap.size w w' := by
  have HM := Lib.hid hm
  have HK := Lib.hid (SA_start hr0)
  have HRD := Lib.hid (fun (V : World) (hV : Below w.heap.size w V) => hr0.kept hV)
  clear hm hr0
  have HT0 := Lib.hid ht0
  clear ht0
  go_enter Try.func4, Try.ntmps4
  go_wp2_with fail
  refine (szInk_rec vs0 g0 _ _ (by omega) (by omega) (SA_r0 HK.out) HT0.out).mono ?_
  rintro e w1 ⟨rfl, hb⟩
  have HK1 := Lib.hid (SA_kept hb HK.out)
  clear hb HK
  have HK := HK1
  clear HK1
  by_cases hq0 : ((costRec 1 g0 : Nat) : Int) ≤ 1048576
  rotate_left
  · rw [left_no hq0]
    have HB := Lib.hid (SA_below HK.out)
    clear HK
    go_wp2
    go_ret
    exact ⟨rfl, HB.out⟩
  rw [left_yes hq0]
  have hq0' : ¬ (1048576 - ((costRec 1 g0 : Nat) : Int) < 0) := by omega
  obtain ⟨c0, -⟩ := id HK.out
  have HQ0 := Lib.hid (show costRec 1 g0 ≤ 1048576 by omega)
  obtain ⟨R, r1, htR, hcR, hS, hI⟩ := HM.out (by omega)
  have HS := Lib.hid hS
  have HI := Lib.hid hI
  have HTR := Lib.hid htR
  have HCR := Lib.hid hcR
  clear hS hI htR hcR HM
  have HCX := Lib.hid (show 1 + cntRec 1 g0 ≤ 1000000000000 by have h1 := cntRec_le (widrInk HT0.out); have h2 := HQ0.out; omega)
  go_wp2_with fail
  refine (toInk_rec vs0 g0 _ HQ0.out (SA_r0 HK.out) HT0.out).mono ?_
  rintro e w2 ⟨ut, rfl, ho, hb⟩
  have HU := Lib.hid ho.reads
  have HK1 := Lib.hid (SA_kept hb HK.out)
  clear c0
  clear HK
  have HK := HK1
  clear HK1
  obtain ⟨c0, -⟩ := id HK.out
  clear hb ho
  have hz2 := (SA_inv HK.out).z
  go_wp2_with fail
  refine (HS.out _ ut HU.out).mono ?_
  rintro e w3 ⟨xw, rfl, ho, hb⟩
  have HW := Lib.hid ho
  have hz3 := hb.size
  have HK1 := Lib.hid (SA_kept hb HK.out)
  clear c0
  clear HK
  have HK := HK1
  clear HK1
  obtain ⟨c0, -⟩ := id HK.out
  clear hb ho HU
  have HA3 := Lib.hid (SA_kept (Below.refl w3.heap.size w3) HK.out)
  have lz3_0 : w.heap.size < w3.heap.size := by have := (SA_inv HK.out).z; omega
  go_wp2_with fail
  refine (toInk_rec vs0 g0 _ HQ0.out (SA_r0 HA3.out) HT0.out).mono ?_
  rintro e w4 ⟨us0, rfl, ho, hb⟩
  have HX := Lib.hid ho
  have HW4 := Lib.hid ((HW.out.kept (Below.refl w3.heap.size w3)).kept hb)
  have hz4 := hb.size
  try simp at hz4
  have HK1 := Lib.hid (SA_kept hb HA3.out)
  clear c0
  clear HK HA3 hb ho HW
  have HK := HK1
  clear HK1
  obtain ⟨c0, -⟩ := id HK.out
  have st_0 : ∀ (a : Addr) (W : World), (store a (us0 0)).run Try.prog W = stored Try.prog W a (us0 0) .plain := fun a W => run_store _ _ _ _ _ (HX.out.reads 0 (by omega)).one
  have HA4 := Lib.hid (SA_kept (below_alloc1 w4 (.cells #[us0 0] 31)) HK.out)
  have lz4_0 : w.heap.size < w4.heap.size := by have := (SA_inv HK.out).z; omega
  go_wp2_with fail
  refine (HI.out _ us0 (HX.out.reads.kept (below_alloc1 w4 (.cells #[us0 0] 31)))).mono ?_
  rintro e w5 ⟨xg, rfl, ho, hb⟩
  clear st_0
  have HG := Lib.hid ho
  have HX5 := Lib.hid ((HX.out.kept (below_alloc1 w4 (.cells #[us0 0] 31))).kept hb)
  have HW5 := Lib.hid ((HW4.out.kept (below_alloc1 w4 (.cells #[us0 0] 31))).kept hb)
  have hz5 := hb.size
  simp at hz5
  have bx0 : w5.cell? ⟨w4.heap.size, 0, none⟩ = some (us0 0) := (hb.cell (p := ⟨w4.heap.size, 0, none⟩) (by simp)).trans (by simp)
  have HK1 := Lib.hid (SA_kept hb HA4.out)
  clear c0
  clear HK HA4 hb ho HX HW4
  have HK := HK1
  clear HK1
  obtain ⟨c0, -⟩ := id HK.out
  have lz5_0 : w.heap.size < w5.heap.size := by have := (SA_inv HK.out).z; omega
  have lzx : w4.heap.size < w5.heap.size := by omega
  have HA5 := Lib.hid (SA_kept (Below.refl w5.heap.size w5) HK.out)
  have zA := (SA_inv HK.out).z
  have hzz : w5.heap.size ≤ w5.heap.size := by exact Nat.le_refl _
  have HKC := Lib.hid (show SC w vs0 g0 R R xw w2.heap.size w3.heap.size us0 (w3.heap.size) w4.heap.size xg (w4.heap.size + 1) w5.heap.size w5 from ⟨bx0, HA5.out.1, ⟨(SA_inv HA5.out).below, (SA_inv HA5.out).z, (SA_inv HA5.out).r0, ⟨by omega, by omega, by omega⟩, HW5.out.kept (Below.refl w5.heap.size w5), ⟨by omega, by omega, by omega⟩, HX5.out.kept (Below.refl w5.heap.size w5) |>.mono (fun x hx => by unfold iv at *; (try simp at hx); omega), ⟨by omega, by omega, by omega⟩, HG.out.kept (Below.refl w5.heap.size w5) |>.mono (fun x hx => by unfold iv at *; (try simp at hx); omega)⟩⟩)
  go_wp2_with fail
  refine (eqGroupS_rec xg xw R _ (SC_o2 HKC.out).reads (SC_o0 HKC.out).reads HTR.out).mono ?_
  rintro e w6 ⟨rfl, hb⟩
  have HKS := Lib.hid (SC_kept hb HKC.out)
  clear c0
  clear hb HKC HK HA5 HX5 HW5 HG zA hzz bx0
  have hk := HKS.out
  obtain ⟨c0, c1, -⟩ := id hk
  go_upto_region 10 with fail
  go_cut [45] (fun s wx => s = .bool false ∧ Hid (SC w vs0 g0 R R xw w2.heap.size w3.heap.size us0 (w3.heap.size) w4.heap.size xg (w4.heap.size + 1) w5.heap.size wx))
  case first =>
    first | (go_region_held3 (fun W => W.cell? ⟨w4.heap.size, 0, none⟩ = some (us0 0) ∧ W.cell? ⟨w.heap.size, 0, none⟩ = some (vs0 0) ∧ InvC w vs0 g0 R R xw w2.heap.size w3.heap.size us0 (w3.heap.size) w4.heap.size xg (w4.heap.size + 1) w5.heap.size W) (first | assumption | exact SC_drew hk | go_keep) (first | (go_at_call 9; (with_reducible refine (toInk_rec vs0 g0 _ HQ0.out (by exact SC_r0 (by assumption)) HT0.out).mono ?_); rintro e wa ⟨ua, rfl, hoa, hba⟩; have hra := hoa.reads; have hk2 := SC_kept hba (by assumption)) | (go_at_call 12; (with_reducible refine (eqInk_rec us0 _ g0 _ (by exact (SC_o1 (by assumption)).reads) (by assumption) HT0.out).mono ?_); rintro e wd ⟨rfl, hbd⟩; have hk3 := SC_kept hbd (by assumption)))) | fail
    all_goals
      rename_i hh
      have HH := Lib.hid hh
      clear hh
      go_wp2_with fail
      go_meet
      exact ⟨rfl, HH⟩
  case rest =>
    obtain ⟨rfl, HC⟩ := hcut
    clear hk c0 c1
    clear HKS
    have HKS := HC
    clear HC
    have hk := HKS.out
    obtain ⟨c0, c1, -⟩ := id hk
    go_wp2_with fail
    refine (markInk_rec us0 g0 _ 1 _ _ (by rfl) (by omega) HCX.out (SC_o1 HKS.out) HT0.out).mono ?_
    rintro e w7 ⟨rfl, -, hw⟩
    have HKD := Lib.hid (C_D (w := w) (fun hV => HRD.out _ hV) hw HKS.out)
    clear hk c0 c1
    clear hw HKS
    obtain ⟨c0, -⟩ := id HKD.out
    generalize 1 + cntRec 1 g0 = z1
    have hn1 : ¬ ((z1 : Int) < 0) := by omega
    go_wp2_with fail
    refine (eqGroupS_rec xg xw R _ (SD_o1 HKD.out).reads (SD_o0 HKD.out).reads HTR.out).mono ?_
    rintro e w8 ⟨rfl, hb⟩
    have HK1 := Lib.hid (SD_kept hb HKD.out)
    clear c0
    clear hb HKD
    have HKD := HK1
    clear HK1
    obtain ⟨c0, -⟩ := id HKD.out
    go_wp2_with fail
    refine (markGroupS_rec xg R _ 1 _ _ (by rfl) (by omega) (by have := HCR.out; omega) (SD_o1 HKD.out) HTR.out).mono ?_
    rintro e w9 ⟨rfl, hq, hw⟩
    have HK1 := Lib.hid (D_D (fun hV => HRD.out _ hV) hw hq HKD.out)
    clear c0
    clear hq hw HKD
    have HKD := HK1
    clear HK1
    obtain ⟨c0, -⟩ := id HKD.out
    generalize hz2n : 1 + cntRec 1 R = z2
    have HN2 := Lib.hid hz2n
    clear hz2n
    have hn2 : ¬ ((z2 : Int) < 0) := by omega
    have hn3 : ((z2 : Int) != (z2 : Int)) = false := by simp
    go_wp2_with fail
    refine (heldGroupS_rec xg R 1 _ _ (by rfl) (by omega) (by have := HCR.out; omega) (SD_o1 HKD.out).reads HTR.out).mono ?_
    rintro e w10 ⟨rfl, hb⟩
    rw [HN2.out]
    have HK1 := Lib.hid (SD_kept hb HKD.out)
    clear c0
    clear hb HKD
    have HKD := HK1
    clear HK1
    obtain ⟨c0, -⟩ := id HKD.out
    go_wp2_with fail
    refine (toInk_rec vs0 g0 _ HQ0.out (SD_r0 HKD.out) HT0.out).mono ?_
    rintro e w11 ⟨ut, rfl, ho, hb⟩
    have HU := Lib.hid ho.reads
    have HK1 := Lib.hid (SD_kept hb HKD.out)
    clear c0
    clear hb ho HKD
    have HKD := HK1
    clear HK1
    obtain ⟨c0, -⟩ := id HKD.out
    go_wp2_with fail
    refine (HI.out _ ut HU.out).mono ?_
    rintro e w12 ⟨xh, rfl, ho, hb⟩
    have HH := Lib.hid ho.reads
    have HK1 := Lib.hid (SD_kept hb HKD.out)
    clear c0
    clear hb ho HU HKD
    have HKD := HK1
    clear HK1
    obtain ⟨c0, -⟩ := id HKD.out
    go_wp2_with fail
    refine (eqGroupS_rec xh xw R _ HH.out (SD_o0 HKD.out).reads HTR.out).mono ?_
    rintro e w13 ⟨rfl, hb⟩
    have HK1 := Lib.hid (SD_kept hb HKD.out)
    clear c0
    clear hb HKD HH
    have HKD := HK1
    clear HK1
    obtain ⟨c0, -⟩ := id HKD.out
    go_wp2_with fail
    refine (heldGroupS_rec xg R 1 _ _ (by rfl) (by omega) (by have := HCR.out; omega) (SD_o1 HKD.out).reads HTR.out).mono ?_
    rintro e w14 ⟨rfl, hb⟩
    rw [HN2.out]
    have HF := Lib.hid (SD_below (SD_kept hb HKD.out))
    clear c0
    clear hb HKD
    go_wp2
    go_ret
    exact ⟨rfl, HF.out⟩

end Go.Proofs.Ytofgdgdmmlgmnab.wGroupsOf
