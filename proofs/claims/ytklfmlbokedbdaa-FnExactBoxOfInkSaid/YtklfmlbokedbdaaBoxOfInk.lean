/-
  Proved: for every ink, the call of the law on BoxOfInk returns true and leaves its argument as it was.
  Conditions: none beyond the row's own.
-/
import Derived.Test.YtklfmlbokedbdaaInkBox
import Derived.Test.YtklfmlbokedbdaaJoinBoxes
namespace Go.Proofs.Ytklfmlbokedbdaa.fnExactBoxOfInk
open Go.ChangeShapes Go.WideShapes Go.ChangeAt Go.RowKit Go.Joins
open Go.Proofs.Ytklfmlbokedbdaa.join Go.Proofs.Ytklfmlbokedbdaa.strokes Go.Proofs.Ytklfmlbokedbdaa.inks Go.Proofs.Ytklfmlbokedbdaa.inkOk Go.Proofs.Ytklfmlbokedbdaa.inkLaw Go.Proofs.Ytklfmlbokedbdaa.inkBox
open Go.Proofs.Ytklfmlbokedbdaa.fnExactJoinBoxes (eqBox_same)
open Go.Proofs.Ytklfmlbokedbdaa.count (vI_len)
open Go.Proofs.Ytklfmlbokedbdaa.boxOf (head0)
open Go.Proofs.Ytklfmlbokedbdaa.boxes (own box)
set_option linter.unusedVariables false

theorem both (n : Nat) (ink : List (List P3)) (hn : ink.length = n) (hcap : n ≤ 1048576) (hsm : ∀ pts ∈ ink, pts.length ≤ 1048576) : ∃ x1 x2 x3 x4 x5 : Int,
    Hid (∀ G W, G < W.heap.size → RowsFrom 0 W G ink → Calls Try.prog 32 #[.agg #[.slice (some ⟨G, 0, none⟩) n n]] W fun e w' => e = .returned (.tuple #[box x1 x2 x3 x4, .int .i64 x5]) ∧ Below W.heap.size W w') ∧
    Hid (∀ G W, G < W.heap.size → RowsFrom 0 W G ink → Calls Try.prog 33 #[.agg #[.slice (some ⟨G, 0, none⟩) n n]] W fun e w' => e = .returned (.tuple #[box x1 x2 x3 x4, .int .i64 x5]) ∧ Below W.heap.size W w') := by
  cases hv : vI ink with
  | false => exact ⟨0, 0, 0, 0, 1, Lib.hid fun G W hg hp => specInk_bad G n ink W hn hcap hsm hg hp hv, Lib.hid fun G W hg hp => implInk_bad G n ink W hn hcap hsm hg hp hv⟩
  | true =>
    by_cases h0 : n = 0
    · subst h0
      exact ⟨0, 0, 0, 0, 6, Lib.hid fun G W hg hp => specInk_none G ink W hn hsm hg hp hv, Lib.hid fun G W hg hp => implInk_none G ink W hn hsm hg hp hv⟩
    · have hlen : ∀ (k : Nat) (pts : List P3), ink[k]? = some pts → 1 ≤ pts.length ∧ pts.length ≤ 60 := fun k pts hk => vI_len hv hk
      have h16 : n ≤ 16 := hn ▸ (vI_out hv).1
      have hz : 0 < ink.length := by omega
      have e0 : ink[0]? = some ink[0] := List.getElem?_eq_getElem hz
      obtain ⟨p, hp0⟩ := head0 (hlen 0 _ e0).1
      exact ⟨_, _, _, _, 0, Lib.hid fun G W hg hp => specInk_ok G n ink _ p _ _ _ _ W hn h16 (by omega) hsm hlen hg hp hv e0 hp0 rfl rfl rfl rfl, Lib.hid fun G W hg hp => implInk_ok G n ink _ p _ _ _ _ W hn h16 (by omega) hsm hlen hg hp hv e0 hp0 rfl rfl rfl rfl⟩

set_option maxRecDepth 100000 in
set_option maxHeartbeats 4000000 in
theorem walk (A : Option Addr) (n cap : Nat) (ink : List (List P3)) (w : World) (hn : ink.length = n) (hmx : n ≤ maxLen) (hp : ArgRows w A ink) :
    Calls Try.prog 8 #[.agg #[.slice A n cap]] w fun e w' => e = .returned (.bool true) ∧ Below w.heap.size w w' := by
  have HN := Lib.hid hn
  have HP := Lib.hid hp
  clear hn hp
  go_enter Try.func8, Try.ntmps8
  go_wp2_with fail
  refine (szInk_calls A n cap 1048576 ink _ HN.out hmx (Nat.le_refl _) (HP.out.below (below_alloc1 _ _))).mono ?_
  rintro e w1 ⟨r, rfl, hr, hb1⟩
  have HB1 := Lib.hid hb1
  have hc1 := (hb1.cell (p := ⟨w.heap.size, 0, none⟩) (by simp)).trans (show _ = some (Value.slice A n cap) by simp)
  clear hb1
  rcases hr with rfl | ⟨M, rfl, hM, hcap', hsm⟩
  · have HB := Lib.hid ((below_alloc1 w _).trans (HB1.out.mono (below_alloc1 w _).size))
    clear HB1
    go_wp2
    go_ret
    exact ⟨rfl, HB.out⟩
  have hcap : n ≤ 1048576 := by have := HN.out; omega
  obtain ⟨x1, x2, x3, x4, x5, HSp, HIm⟩ := both n ink HN.out hcap hsm
  have HM := Lib.hid hsm
  clear hsm hcap'
  go_wp2_with fail
  refine (toInk_calls A n cap ink _ HN.out hcap HM.out ((HP.out.below (below_alloc1 _ _)).below HB1.out)).mono ?_
  rintro e w2 ⟨g1, rfl, hg1a, hg1b, hpt1, hb2⟩
  have HPT1 := Lib.hid (RowsFrom.zero hpt1)
  have HB2 := Lib.hid (HB1.out.trans (hb2.mono HB1.out.size))
  clear hpt1 hb2 hc1 hg1a
  go_wp2_with fail
  refine (HSp.out g1 _ hg1b HPT1.out).mono ?_
  rintro e w3 ⟨rfl, hb3⟩
  have HB3 := Lib.hid (HB2.out.trans (hb3.mono HB2.out.size))
  clear hb3 HPT1 hg1b
  have hc3 := (HB3.out.cell (p := ⟨w.heap.size, 0, none⟩) (by simp)).trans (show _ = some (Value.slice A n cap) by simp)
  have lz3 : w.heap.size < w3.heap.size := by have := HB3.out.size; simp at this; omega
  go_wp2_with fail
  refine (toInk_calls A n cap ink _ HN.out hcap HM.out (((HP.out.below (below_alloc1 _ _)).below HB3.out).below (below_alloc1 _ _))).mono ?_
  rintro e w4 ⟨G, rfl, hga, hgb, hpt, hb4⟩
  have HPT := Lib.hid (RowsFrom.zero hpt)
  have hz4 := hb4.size
  simp at hz4
  have hz4' : w3.heap.size < w4.heap.size := by omega
  have b0 : w4.cell? ⟨w3.heap.size, 0, none⟩ = some (.int .i64 x1) := (hb4.cell (p := ⟨w3.heap.size, 0, none⟩) (by simp)).trans (by simp)
  have b1 : w4.cell? ⟨w3.heap.size, 1, none⟩ = some (.int .i64 x2) := (hb4.cell (p := ⟨w3.heap.size, 1, none⟩) (by simp)).trans (by simp)
  have b2 : w4.cell? ⟨w3.heap.size, 2, none⟩ = some (.int .i64 x3) := (hb4.cell (p := ⟨w3.heap.size, 2, none⟩) (by simp)).trans (by simp)
  have b3 : w4.cell? ⟨w3.heap.size, 3, none⟩ = some (.int .i64 x4) := (hb4.cell (p := ⟨w3.heap.size, 3, none⟩) (by simp)).trans (by simp)
  have HB4 := Lib.hid ((HB3.out.alloc HB3.out.size _).trans (hb4.mono (by simp; have := HB3.out.size; simp at this; omega)))
  clear hpt hb4 hc3 hga
  go_wp2_with fail
  refine (HIm.out G _ (by simp; omega) (HPT.out.below (below_alloc1 _ _) hgb)).mono ?_
  rintro e w5 ⟨rfl, hb5⟩
  have hk := keepS (w := w) (A := A) (cap := cap) (k := w4.heap.size) (n := n) (G := G) (ink := ink) hb5 ⟨by simp, (World.cell?_alloc_lt _ _ _ (show w.heap.size < w4.heap.size by omega)).trans ((HB4.out.cell (p := ⟨w.heap.size, 0, none⟩) (by simp)).trans (by simp)),
    ⟨((below_alloc1 w _).trans (HB4.out.mono (below_alloc1 w _).size)).alloc (by omega) _, by simp; omega, by simp, by simp; omega, HPT.out.below (below_alloc1 _ _) hgb, ((HP.out.below (below_alloc1 _ _)).below HB4.out).below (below_alloc1 _ _)⟩⟩
  have hz5 := hb5.size
  simp at hz5
  have lz5 : w3.heap.size < w5.heap.size := by omega
  have d0 := (hb5.cell (p := ⟨w3.heap.size, 0, none⟩) (by simp; omega)).trans ((World.cell?_alloc_lt _ _ _ hz4').trans b0)
  have d1 := (hb5.cell (p := ⟨w3.heap.size, 1, none⟩) (by simp; omega)).trans ((World.cell?_alloc_lt _ _ _ hz4').trans b1)
  have d2 := (hb5.cell (p := ⟨w3.heap.size, 2, none⟩) (by simp; omega)).trans ((World.cell?_alloc_lt _ _ _ hz4').trans b2)
  have d3 := (hb5.cell (p := ⟨w3.heap.size, 3, none⟩) (by simp; omega)).trans ((World.cell?_alloc_lt _ _ _ hz4').trans b3)
  clear hb5 HB1 HB2 HB3 HB4 HPT hgb b0 b1 b2 b3
  have HK := Lib.hid hk
  clear hk
  go_wp2_with fail
  refine (eqBox_same x1 x2 x3 x4 _).mono ?_
  rintro e w6 ⟨rfl, hb6⟩
  have hk := keepS hb6 (keepS (below_alloc1 w5 _) HK.out)
  clear hb6 HK d0 d1 d2 d3
  have hkc := hk.1
  have hwc := hk.2.1
  go_wp2
  go_region_held3 (fun w' => w'.cell? ⟨w4.heap.size, 0, none⟩ = some (.slice (some ⟨G, 0, none⟩) n n) ∧ w'.cell? ⟨w.heap.size, 0, none⟩ = some (.slice A n cap) ∧ Inv w A ink G w4.heap.size w') (first | assumption | exact drewS hk | go_keep)
      (first | (go_at_call 21; refine (toInk_calls A n cap ink _ HN.out hcap HM.out (by exact (keepArg (by assumption)))).mono ?_; rintro e w' ⟨g2, rfl, hga, hgb, hpt, hb⟩; have hpt0 := RowsFrom.zero hpt; have hk2 := keepS hb (by assumption)) | (go_at_call 23; refine (eqInk_same G _ n n n ink _ HN.out hcap HM.out (by exact keepGz (by assumption)) (by assumption) (by exact keepRow (by assumption)) (by assumption)).mono ?_; rintro e w' ⟨rfl, hb⟩; have hk2 := keepS hb (by assumption)))
  rename_i hh
  have HF := Lib.hid (keepBelow hh)
  clear hh hk hkc hwc
  go_wp2
  go_ret
  exact ⟨rfl, HF.out⟩

theorem reads : ∀ t ∈ Try.f8.params.toList, Try.prog.readableRec t = true ∧ t < Try.prog.types.size := by
  rw [Try.params8]
  intro t ht
  obtain rfl : t = 35 := by simpa using ht
  exact ⟨by kernel_rfl, of_decide_eq_true (by kernel_rfl)⟩

set_option maxRecDepth 100000 in
theorem contract (H : Type) (enc : TypeId × Value → H) (W : World) (base : Nat) (args : Array Value) (ds gs : List (DataW H)) (before : List MemPlace)
    (hval : ∀ (j : Nat) t v, Try.f8.params[j]? = some t → args[j]? = some v → Value.okWide Try.prog W .any base t v)
    (hW : DataW.Whole enc Try.prog Try.f8.params.toList Rows.fnExactBoxOfInkSpec.vars false W args.toList ds gs before) :
    Calls Try.prog 8 args W fun e W' => ∃ v, e = .returned v ∧ Rows.fnExactBoxOfInkSpec.post enc Try.prog Try.f8 false true false false W args v W' := by
  have hW' := hW
  obtain ⟨p, q, hA0, hV, rfl, hfz, hnd⟩ := hW
  have hA : DataW.TrodAll enc Try.prog W 0 (fun _ => true) true Try.f8.params.toList args.toList ds p := hA0
  rw [Try.params8] at hA hval
  obtain ⟨v0, vs0, d0, ds0, p0, q0, hargs, rfl, rfl, h0, r0⟩ := trodAll_cons hA
  obtain ⟨rfl, rfl, rfl⟩ := trodAll_nil r0
  obtain rfl : args = #[v0] := by cases args; simp_all
  obtain ⟨rfl, rfl⟩ := trodVars_none hV
  obtain ⟨A, n, cap, ink, rfl, hn, hmx, hp⟩ := open_ink (hval 0 35 v0 rfl rfl) h0
  refine (walk A n cap ink W hn hmx hp).mono fun e W' ⟨he, hg⟩ => ?_
  subst he
  exact ⟨_, rfl, law_post (by kernel_rfl) reads (by kernel_rfl) Try.underlying4 rfl hW' rfl rfl rfl hg⟩

set_option maxRecDepth 100000 in
theorem lifted (os : Os) (started : os.Started) (H : Type) (enc : TypeId × Value → H) :
    ReturnsInHanded {} Try.checked os 8 .any (Rows.fnExactBoxOfInkSpec.pre6 enc Try.prog Try.f8 Rows.fnExactBoxOfInkRow.domain false) (Rows.fnExactBoxOfInkSpec.post enc Try.prog Try.f8 false true false false) := by
  refine returnsInHanded_of_change (C := Try.checked) own started (by kernel_rfl) Try.func8
    (ChangeSpec.witness6 (enc := enc) (C := Try.checked) false ⟨#[], #[.agg #[.slice none 0 0]], []⟩ 8 (by kernel_rfl) (by kernel_rfl) (by kernel_rfl) (by kernel_rfl)) ?_
  intro W base args ds gs before hval hW _ _
  exact contract H enc W base args ds gs before hval hW

theorem holds : Rows.FnExactBoxOfInkSaid :=
  OpenClaim.holds_of_wide 8 Try.f8 rfl rfl rfl rfl rfl rfl rfl ⟨rfl, rfl, rfl, rfl, rfl⟩ rfl rfl rfl rfl rfl (by kernel_rfl) Try.func8 (by kernel_rfl)
    (of_decide_eq_true (by kernel_rfl)) (by unfold Func.isWrapper; first | (rw [if_pos (by decide +kernel)]; kernel_rfl) | (rw [if_neg (by decide +kernel)]; exact ⟨rfl, rfl⟩))
    (fun os started H enc _ => lifted os started H enc)
end Go.Proofs.Ytklfmlbokedbdaa.fnExactBoxOfInk
