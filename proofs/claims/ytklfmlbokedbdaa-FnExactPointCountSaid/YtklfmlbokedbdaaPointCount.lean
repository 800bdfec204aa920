/-
  Proved: for every ink, the call of the law on PointCount returns true and leaves its argument as it was.
  Conditions: none beyond the row's own.
-/
import Derived.Test.YtklfmlbokedbdaaCount
namespace Go.Proofs.Ytklfmlbokedbdaa.fnExactPointCount
open Go.ChangeShapes Go.WideShapes Go.ChangeAt Go.RowKit Go.Joins
open Go.Proofs.Ytklfmlbokedbdaa.join Go.Proofs.Ytklfmlbokedbdaa.strokes Go.Proofs.Ytklfmlbokedbdaa.inks Go.Proofs.Ytklfmlbokedbdaa.inkOk Go.Proofs.Ytklfmlbokedbdaa.inkLaw Go.Proofs.Ytklfmlbokedbdaa.count
open Go.Proofs.Ytklfmlbokedbdaa.boxes (own)
set_option linter.unusedVariables false

theorem both (n : Nat) (ink : List (List P3)) (hn : ink.length = n) (hcap : n ≤ 1048576) (hsm : ∀ pts ∈ ink, pts.length ≤ 1048576) : ∃ x1 x2 : Int,
    Hid (∀ G W, G < W.heap.size → RowsFrom 0 W G ink → Calls Try.prog 45 #[.agg #[.slice (some ⟨G, 0, none⟩) n n]] W fun e w' => e = .returned (.tuple #[.int .i64 x1, .int .i64 x2]) ∧ Below W.heap.size W w') ∧
    Hid (∀ G W, G < W.heap.size → RowsFrom 0 W G ink → Calls Try.prog 46 #[.agg #[.slice (some ⟨G, 0, none⟩) n n]] W fun e w' => e = .returned (.tuple #[.int .i64 x1, .int .i64 x2]) ∧ Below W.heap.size W w') :=
  ⟨_, _, Lib.hid fun G W hg hp => specCount_calls G n ink W hn hcap hsm hg hp, Lib.hid fun G W hg hp => implCount_calls G n ink W hn hcap hsm hg hp⟩

set_option maxRecDepth 100000 in
set_option maxHeartbeats 4000000 in
theorem walk (A : Option Addr) (n cap : Nat) (ink : List (List P3)) (w : World) (hn : ink.length = n) (hmx : n ≤ maxLen) (hp : ArgRows w A ink) :
    Calls Try.prog 13 #[.agg #[.slice A n cap]] w fun e w' => e = .returned (.bool true) ∧ Below w.heap.size w w' := by
  have HN := Lib.hid hn
  have HP := Lib.hid hp
  clear hn hp
  go_enter Try.func13, Try.ntmps13
  go_wp2_with fail
  refine (szInk_calls A n cap 1048576 ink _ HN.out hmx (Nat.le_refl _) (HP.out.below (below_alloc1 _ _))).mono ?_
  rintro e w1 ⟨r, rfl, hr, hb1⟩
  have HB1 := Lib.hid hb1
  have hc1 := (hb1.cell (p := ⟨w.heap.size, 0, none⟩) (by simp)).trans (show _ = some (Value.slice A n cap) by simp)
  clear hb1
  rcases hr with rfl | ⟨M, rfl, hM, hcap', hsm⟩
  · have HB := Lib.hid ((below_alloc1 w _).trans (HB1.out.mono (below_alloc1 w _).size))
    clear HB1
    go_wp2
    go_ret
    exact ⟨rfl, HB.out⟩
  have hcap : n ≤ 1048576 := by have := HN.out; omega
  obtain ⟨x1, x2, HSp, HIm⟩ := both n ink HN.out hcap hsm
  have HM := Lib.hid hsm
  clear hsm hcap'
  go_wp2_with fail
  refine (toInk_calls A n cap ink _ HN.out hcap HM.out ((HP.out.below (below_alloc1 _ _)).below HB1.out)).mono ?_
  rintro e w2 ⟨g1, rfl, hg1a, hg1b, hpt1, hb2⟩
  have HPT1 := Lib.hid (RowsFrom.zero hpt1)
  have HB2 := Lib.hid (HB1.out.trans (hb2.mono HB1.out.size))
  clear hpt1 hb2 hc1 hg1a
  go_wp2_with fail
  refine (HSp.out g1 _ hg1b HPT1.out).mono ?_
  rintro e w3 ⟨rfl, hb3⟩
  have HB3 := Lib.hid (HB2.out.trans (hb3.mono HB2.out.size))
  clear hb3 HPT1 hg1b
  have hc3 := (HB3.out.cell (p := ⟨w.heap.size, 0, none⟩) (by simp)).trans (show _ = some (Value.slice A n cap) by simp)
  go_wp2_with fail
  refine (toInk_calls A n cap ink _ HN.out hcap HM.out ((HP.out.below (below_alloc1 _ _)).below HB3.out)).mono ?_
  rintro e w4 ⟨G, rfl, hga, hgb, hpt, hb4⟩
  have HPT := Lib.hid (RowsFrom.zero hpt)
  have HB4 := Lib.hid (HB3.out.trans (hb4.mono HB3.out.size))
  have hz4 : w.heap.size < w4.heap.size := by have := HB4.out.size; simp at this; omega
  clear hpt hb4 hc3 hga
  go_wp2_with fail
  refine (HIm.out G _ (by simp; omega) (HPT.out.below (below_alloc1 _ _) hgb)).mono ?_
  rintro e w5 ⟨rfl, hb5⟩
  have hk := keepS (w := w) (A := A) (cap := cap) (k := w4.heap.size) (n := n) (G := G) (ink := ink) hb5 ⟨by simp, (World.cell?_alloc_lt _ _ _ hz4).trans ((HB4.out.cell (p := ⟨w.heap.size, 0, none⟩) (by simp)).trans (by simp)),
    ⟨((below_alloc1 w _).trans (HB4.out.mono (below_alloc1 w _).size)).alloc (by omega) _, by simp; omega, by simp, by simp; omega, HPT.out.below (below_alloc1 _ _) hgb, ((HP.out.below (below_alloc1 _ _)).below HB4.out).below (below_alloc1 _ _)⟩⟩
  clear hb5 HB1 HB2 HB3 HB4 HPT hgb hz4
  have hkc := hk.1
  have hwc := hk.2.1
  all_goals
    go_wp2
    first | (go_region_held3 (fun w' => w'.cell? ⟨w4.heap.size, 0, none⟩ = some (.slice (some ⟨G, 0, none⟩) n n) ∧ w'.cell? ⟨w.heap.size, 0, none⟩ = some (.slice A n cap) ∧ Inv w A ink G w4.heap.size w') (first | assumption | exact drewS hk | go_keep)
      (first | (go_at_call 21; refine (toInk_calls A n cap ink _ HN.out hcap HM.out (by exact (keepArg (by assumption)))).mono ?_; rintro e w' ⟨g2, rfl, hga, hgb, hpt, hb⟩; have hpt0 := RowsFrom.zero hpt; have hk2 := keepS hb (by assumption)) | (go_at_call 23; refine (eqInk_same G _ n n n ink _ HN.out hcap HM.out (by exact keepGz (by assumption)) (by assumption) (by exact keepRow (by assumption)) (by assumption)).mono ?_; rintro e w' ⟨rfl, hb⟩; have hk2 := keepS hb (by assumption)))) | fail
    rename_i hh
    have HF := Lib.hid (keepBelow hh)
    clear hh hk hkc hwc
    go_wp2
    go_ret
    exact ⟨rfl, HF.out⟩

theorem reads : ∀ t ∈ Try.f13.params.toList, Try.prog.readableRec t = true ∧ t < Try.prog.types.size := by
  rw [Try.params13]
  intro t ht
  obtain rfl : t = 35 := by simpa using ht
  exact ⟨by kernel_rfl, of_decide_eq_true (by kernel_rfl)⟩

set_option maxRecDepth 100000 in
theorem contract (H : Type) (enc : TypeId × Value → H) (W : World) (base : Nat) (args : Array Value) (ds gs : List (DataW H)) (before : List MemPlace)
    (hval : ∀ (j : Nat) t v, Try.f13.params[j]? = some t → args[j]? = some v → Value.okWide Try.prog W .any base t v)
    (hW : DataW.Whole enc Try.prog Try.f13.params.toList Rows.fnExactPointCountSpec.vars false W args.toList ds gs before) :
    Calls Try.prog 13 args W fun e W' => ∃ v, e = .returned v ∧ Rows.fnExactPointCountSpec.post enc Try.prog Try.f13 false true false false W args v W' := by
  have hW' := hW
  obtain ⟨p, q, hA0, hV, rfl, hfz, hnd⟩ := hW
  have hA : DataW.TrodAll enc Try.prog W 0 (fun _ => true) true Try.f13.params.toList args.toList ds p := hA0
  rw [Try.params13] at hA hval
  obtain ⟨v0, vs0, d0, ds0, p0, q0, hargs, rfl, rfl, h0, r0⟩ := trodAll_cons hA
  obtain ⟨rfl, rfl, rfl⟩ := trodAll_nil r0
  obtain rfl : args = #[v0] := by cases args; simp_all
  obtain ⟨rfl, rfl⟩ := trodVars_none hV
  obtain ⟨A, n, cap, ink, rfl, hn, hmx, hp⟩ := open_ink (hval 0 35 v0 rfl rfl) h0
  refine (walk A n cap ink W hn hmx hp).mono fun e W' ⟨he, hg⟩ => ?_
  subst he
  exact ⟨_, rfl, law_post (by kernel_rfl) reads (by kernel_rfl) Try.underlying4 rfl hW' rfl rfl rfl hg⟩

set_option maxRecDepth 100000 in
theorem lifted (os : Os) (started : os.Started) (H : Type) (enc : TypeId × Value → H) :
    ReturnsInHanded {} Try.checked os 13 .any (Rows.fnExactPointCountSpec.pre6 enc Try.prog Try.f13 Rows.fnExactPointCountRow.domain false) (Rows.fnExactPointCountSpec.post enc Try.prog Try.f13 false true false false) := by
  refine returnsInHanded_of_change (C := Try.checked) own started (by kernel_rfl) Try.func13
    (ChangeSpec.witness6 (enc := enc) (C := Try.checked) false ⟨#[], #[.agg #[.slice none 0 0]], []⟩ 8 (by kernel_rfl) (by kernel_rfl) (by kernel_rfl) (by kernel_rfl)) ?_
  intro W base args ds gs before hval hW _ _
  exact contract H enc W base args ds gs before hval hW

theorem holds : Rows.FnExactPointCountSaid :=
  OpenClaim.holds_of_wide 13 Try.f13 rfl rfl rfl rfl rfl rfl rfl ⟨rfl, rfl, rfl, rfl, rfl⟩ rfl rfl rfl rfl rfl (by kernel_rfl) Try.func13 (by kernel_rfl)
    (of_decide_eq_true (by kernel_rfl)) (by unfold Func.isWrapper; first | (rw [if_pos (by decide +kernel)]; kernel_rfl) | (rw [if_neg (by decide +kernel)]; exact ⟨rfl, rfl⟩))
    (fun os started H enc _ => lifted os started H enc)
end Go.Proofs.Ytklfmlbokedbdaa.fnExactPointCount
