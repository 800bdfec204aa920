/-
  Proved: for every stroke, the call of the law on BoxOfStroke returns true and leaves its argument as it was.
  Conditions: none beyond the row's own.
-/
import Derived.Test.YtklfmlbokedbdaaBoxOk
import Derived.Test.YtklfmlbokedbdaaValidStroke
import Derived.Test.YtklfmlbokedbdaaJoinBoxes
namespace Go.Proofs.Ytklfmlbokedbdaa.fnExactBoxOfStroke
open Go.ChangeShapes Go.WideShapes Go.ChangeAt Go.RowKit Go.Joins
open Go.Proofs.Ytklfmlbokedbdaa.join Go.Proofs.Ytklfmlbokedbdaa.strokes Go.Proofs.Ytklfmlbokedbdaa.valid Go.Proofs.Ytklfmlbokedbdaa.boxOf
open Go.Proofs.Ytklfmlbokedbdaa.boxes (own box)
open Go.Proofs.Ytklfmlbokedbdaa.fnExactJoinBoxes (eqBox_same)
open Go.Proofs.Ytklfmlbokedbdaa.fnExactValidStroke (Inv Inv.kept keepS drewS keepArg keepGz keepRow keepBelow open_stroke)
set_option linter.unusedVariables false

theorem both (n : Nat) (pts : List P3) (hn : pts.length = n) (hcap : n ≤ 1048576) : ∃ x1 x2 x3 x4 x5 : Int,
    Hid (∀ g W, g < W.heap.size → Pts W g pts → Calls Try.prog 29 #[stroke g n] W fun e w' => e = .returned (.tuple #[box x1 x2 x3 x4, .int .i64 x5]) ∧ Below W.heap.size W w') ∧
    Hid (∀ g W, g < W.heap.size → Pts W g pts → Calls Try.prog 30 #[stroke g n] W fun e w' => e = .returned (.tuple #[box x1 x2 x3 x4, .int .i64 x5]) ∧ Below W.heap.size W w') := by
  cases hv : vS pts with
  | false => exact ⟨0, 0, 0, 0, 1, Lib.hid fun g W hg hp => specBox_bad g n pts W hn hcap hg hp hv, Lib.hid fun g W hg hp => implBox_bad g n pts W hn hcap hg hp hv⟩
  | true =>
    obtain ⟨p, h0⟩ := head0 (vS_pos hv).1
    exact ⟨_, _, _, _, 0, Lib.hid fun g W hg hp => specBox_ok g n pts p _ _ _ _ W hn hcap hg hp hv h0 rfl rfl rfl rfl, Lib.hid fun g W hg hp => implBox_ok g n pts p _ _ _ _ W hn hcap hg hp hv h0 rfl rfl rfl rfl⟩

set_option maxRecDepth 100000 in
set_option maxHeartbeats 2000000 in
theorem walk_small (A : Option Addr) (n cap : Nat) (pts : List P3) (w : World) (hn : pts.length = n) (hcap : n ≤ 1048576) (hp : ArgPts w A pts) :
    Calls Try.prog 7 #[.agg #[.slice A n cap]] w fun e w' => e = .returned (.bool true) ∧ Below w.heap.size w w' := by
  have HN := Lib.hid hn
  have HP := Lib.hid hp
  obtain ⟨x1, x2, x3, x4, x5, HSp, HIm⟩ := both n pts hn hcap
  clear hn hp
  have hif : (if n ≤ 1048576 then 1048576 - (n : Int) else -1) = 1048576 - (n : Int) := if_pos hcap
  have HI := Lib.hid hif
  clear hif
  have hl : ¬ (1048576 - (n : Int) < 0) := by omega
  go_enter Try.func7, Try.ntmps7
  go_wp2_with fail
  refine (szStroke_calls A n cap _ (by omega)).mono ?_
  rintro e w1 ⟨rfl, hb1⟩
  rw [HI.out]
  have HB1 := Lib.hid hb1
  have hc1 := (hb1.cell (p := ⟨w.heap.size, 0, none⟩) (by simp)).trans (show _ = some (Value.slice A n cap) by simp)
  clear hb1
  go_wp2_with fail
  refine (toStroke_calls A n cap pts _ HN.out hcap ((HP.out.below (below_alloc1 _ _)).below HB1.out)).mono ?_
  rintro e w2 ⟨g1, rfl, hg1a, hg1b, hpt1, hb2⟩
  have HPT1 := Lib.hid hpt1
  have HB2 := Lib.hid (HB1.out.trans (hb2.mono HB1.out.size))
  clear hpt1 hb2 hc1 hg1a
  go_wp2_with fail
  refine (HSp.out g1 _ hg1b HPT1.out).mono ?_
  rintro e w3 ⟨rfl, hb3⟩
  have HB3 := Lib.hid (HB2.out.trans (hb3.mono HB2.out.size))
  clear hb3 HPT1 hg1b
  have hc3 := (HB3.out.cell (p := ⟨w.heap.size, 0, none⟩) (by simp)).trans (show _ = some (Value.slice A n cap) by simp)
  have lz3 : w.heap.size < w3.heap.size := by have := HB3.out.size; simp at this; omega
  go_wp2_with fail
  refine (toStroke_calls A n cap pts _ HN.out hcap (((HP.out.below (below_alloc1 _ _)).below HB3.out).below (below_alloc1 _ _))).mono ?_
  rintro e w4 ⟨g, rfl, hga, hgb, hpt, hb4⟩
  have HPT := Lib.hid hpt
  have hz4 := hb4.size
  simp at hz4
  have hz4' : w3.heap.size < w4.heap.size := by omega
  have b0 : w4.cell? ⟨w3.heap.size, 0, none⟩ = some (.int .i64 x1) := (hb4.cell (p := ⟨w3.heap.size, 0, none⟩) (by simp)).trans (by simp)
  have b1 : w4.cell? ⟨w3.heap.size, 1, none⟩ = some (.int .i64 x2) := (hb4.cell (p := ⟨w3.heap.size, 1, none⟩) (by simp)).trans (by simp)
  have b2 : w4.cell? ⟨w3.heap.size, 2, none⟩ = some (.int .i64 x3) := (hb4.cell (p := ⟨w3.heap.size, 2, none⟩) (by simp)).trans (by simp)
  have b3 : w4.cell? ⟨w3.heap.size, 3, none⟩ = some (.int .i64 x4) := (hb4.cell (p := ⟨w3.heap.size, 3, none⟩) (by simp)).trans (by simp)
  have HB4 := Lib.hid ((HB3.out.alloc HB3.out.size _).trans (hb4.mono (by simp; have := HB3.out.size; simp at this; omega)))
  clear hpt hb4 hc3 hga
  go_wp2_with fail
  refine (HIm.out g _ (by simp; omega) (HPT.out.below (below_alloc1 _ _) hgb)).mono ?_
  rintro e w5 ⟨rfl, hb5⟩
  have hk := keepS (w := w) (A := A) (cap := cap) (k := w4.heap.size) (n := n) (g := g) (pts := pts) hb5 ⟨by simp, (World.cell?_alloc_lt _ _ _ (show w.heap.size < w4.heap.size by omega)).trans ((HB4.out.cell (p := ⟨w.heap.size, 0, none⟩) (by simp)).trans (by simp)),
    ⟨((below_alloc1 w _).trans (HB4.out.mono (below_alloc1 w _).size)).alloc (by omega) _, by simp; omega, by simp, by simp; omega, HPT.out.below (below_alloc1 _ _) hgb, ((HP.out.below (below_alloc1 _ _)).below HB4.out).below (below_alloc1 _ _)⟩⟩
  have hz5 := hb5.size
  simp at hz5
  have lz5 : w3.heap.size < w5.heap.size := by omega
  have d0 := (hb5.cell (p := ⟨w3.heap.size, 0, none⟩) (by simp; omega)).trans ((World.cell?_alloc_lt _ _ _ hz4').trans b0)
  have d1 := (hb5.cell (p := ⟨w3.heap.size, 1, none⟩) (by simp; omega)).trans ((World.cell?_alloc_lt _ _ _ hz4').trans b1)
  have d2 := (hb5.cell (p := ⟨w3.heap.size, 2, none⟩) (by simp; omega)).trans ((World.cell?_alloc_lt _ _ _ hz4').trans b2)
  have d3 := (hb5.cell (p := ⟨w3.heap.size, 3, none⟩) (by simp; omega)).trans ((World.cell?_alloc_lt _ _ _ hz4').trans b3)
  clear hb5 HB1 HB2 HB3 HB4 HPT hgb b0 b1 b2 b3
  have HK := Lib.hid hk
  clear hk
  go_wp2_with fail
  refine (eqBox_same x1 x2 x3 x4 _).mono ?_
  rintro e w6 ⟨rfl, hb6⟩
  have hk := keepS hb6 (keepS (below_alloc1 w5 _) HK.out)
  clear hb6 HK d0 d1 d2 d3
  have hkc := hk.1
  have hwc := hk.2.1
  go_wp2
  go_region_held3 (fun w' => w'.cell? ⟨w4.heap.size, 0, none⟩ = some (.slice (some ⟨g, 0, none⟩) n n) ∧ w'.cell? ⟨w.heap.size, 0, none⟩ = some (.slice A n cap) ∧ Inv w A pts g w4.heap.size w') (first | assumption | exact drewS hk | go_keep)
      (first | (go_at_call 16; refine (toStroke_calls A n cap pts _ HN.out hcap (by exact (keepArg (by assumption)))).mono ?_; rintro e w' ⟨g2, rfl, hga, hgb, hpt, hb⟩; have hk2 := keepS hb (by assumption)) | (go_at_call 18; refine (eqStroke_same g _ n pts _ HN.out hcap (by exact keepGz (by assumption)) (by assumption) (by exact keepRow (by assumption)) (by assumption)).mono ?_; rintro e w' ⟨rfl, hb⟩; have hk2 := keepS hb (by assumption)))
  rename_i hh
  have HF := Lib.hid (keepBelow hh)
  clear hh hk hkc hwc
  go_wp2
  go_ret
  exact ⟨rfl, HF.out⟩

theorem walk_big (A : Option Addr) (n cap : Nat) (w : World) (hn : n ≤ maxLen) (hcap : ¬ n ≤ 1048576) :
    Calls Try.prog 7 #[.agg #[.slice A n cap]] w fun e w' => e = .returned (.bool true) ∧ Below w.heap.size w w' := by
  have HI := Lib.hid (show (if n ≤ 1048576 then 1048576 - (n : Int) else -1) = -1 from if_neg hcap)
  go_enter Try.func7, Try.ntmps7
  go_wp2_with fail
  refine (szStroke_calls A n cap _ (by unfold maxLen at hn; omega)).mono ?_
  rintro e w1 ⟨rfl, hb1⟩
  rw [HI.out]
  have HB := Lib.hid ((below_alloc1 w _).trans (hb1.mono (below_alloc1 w _).size))
  clear hb1
  go_wp2
  go_ret
  exact ⟨rfl, HB.out⟩

theorem reads : ∀ t ∈ Try.f7.params.toList, Try.prog.readableRec t = true ∧ t < Try.prog.types.size := by
  rw [Try.params7]
  intro t ht
  obtain rfl : t = 24 := by simpa using ht
  exact ⟨by kernel_rfl, of_decide_eq_true (by kernel_rfl)⟩

set_option maxRecDepth 100000 in
theorem contract (H : Type) (enc : TypeId × Value → H) (W : World) (base : Nat) (args : Array Value) (ds gs : List (DataW H)) (before : List MemPlace)
    (hval : ∀ (j : Nat) t v, Try.f7.params[j]? = some t → args[j]? = some v → Value.okWide Try.prog W .any base t v)
    (hW : DataW.Whole enc Try.prog Try.f7.params.toList Rows.fnExactBoxOfStrokeSpec.vars false W args.toList ds gs before) :
    Calls Try.prog 7 args W fun e W' => ∃ v, e = .returned v ∧ Rows.fnExactBoxOfStrokeSpec.post enc Try.prog Try.f7 false true false false W args v W' := by
  have hW' := hW
  obtain ⟨p, q, hA0, hV, rfl, hfz, hnd⟩ := hW
  have hA : DataW.TrodAll enc Try.prog W 0 (fun _ => true) true Try.f7.params.toList args.toList ds p := hA0
  rw [Try.params7] at hA hval
  obtain ⟨v0, vs0, d0, ds0, p0, q0, hargs, rfl, rfl, h0, r0⟩ := trodAll_cons hA
  obtain ⟨rfl, rfl, rfl⟩ := trodAll_nil r0
  obtain rfl : args = #[v0] := by cases args; simp_all
  obtain ⟨rfl, rfl⟩ := trodVars_none hV
  obtain ⟨A, n, cap, pts, rfl, hn, hmx, hp⟩ := open_stroke (hval 0 24 v0 rfl rfl) h0
  have walk : Calls Try.prog 7 #[.agg #[.slice A n cap]] W fun e w' => e = .returned (.bool true) ∧ Below W.heap.size W w' := by
    by_cases hc : n ≤ 1048576
    · exact walk_small A n cap pts W hn hc hp
    · exact walk_big A n cap W hmx hc
  refine walk.mono fun e W' ⟨he, hg⟩ => ?_
  subst he
  exact ⟨_, rfl, law_post (by kernel_rfl) reads (by kernel_rfl) Try.underlying4 rfl hW' rfl rfl rfl hg⟩

set_option maxRecDepth 100000 in
theorem lifted (os : Os) (started : os.Started) (H : Type) (enc : TypeId × Value → H) :
    ReturnsInHanded {} Try.checked os 7 .any (Rows.fnExactBoxOfStrokeSpec.pre6 enc Try.prog Try.f7 Rows.fnExactBoxOfStrokeRow.domain false) (Rows.fnExactBoxOfStrokeSpec.post enc Try.prog Try.f7 false true false false) := by
  refine returnsInHanded_of_change (C := Try.checked) own started (by kernel_rfl) Try.func7
    (ChangeSpec.witness6 (enc := enc) (C := Try.checked) false ⟨#[], #[.agg #[.slice none 0 0]], []⟩ 8 (by kernel_rfl) (by kernel_rfl) (by kernel_rfl) (by kernel_rfl)) ?_
  intro W base args ds gs before hval hW _ _
  exact contract H enc W base args ds gs before hval hW

theorem holds : Rows.FnExactBoxOfStrokeSaid :=
  OpenClaim.holds_of_wide 7 Try.f7 rfl rfl rfl rfl rfl rfl rfl ⟨rfl, rfl, rfl, rfl, rfl⟩ rfl rfl rfl rfl rfl (by kernel_rfl) Try.func7 (by kernel_rfl)
    (of_decide_eq_true (by kernel_rfl)) (by unfold Func.isWrapper; first | (rw [if_pos (by decide +kernel)]; kernel_rfl) | (rw [if_neg (by decide +kernel)]; exact ⟨rfl, rfl⟩))
    (fun os started H enc _ => lifted os started H enc)
end Go.Proofs.Ytklfmlbokedbdaa.fnExactBoxOfStroke
