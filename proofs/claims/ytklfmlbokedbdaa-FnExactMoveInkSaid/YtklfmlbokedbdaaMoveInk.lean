/-
  Proved: for every ink and every two numbers, the call of the law on MoveInk returns true and leaves its arguments as they were.
  Conditions: none beyond the row's own.
-/
import Derived.Test.YtklfmlbokedbdaaTwoLaw
import Derived.Test.YtklfmlbokedbdaaMoveImpl
import Derived.Deep.RegionHeld3
import Derived.Deep.DeepCutAuto
namespace Go.Proofs.Ytklfmlbokedbdaa.fnExactMoveInk
open Go.ChangeShapes Go.WideShapes Go.ChangeAt Go.RowKit Go.Joins
open Go.Proofs.Ytklfmlbokedbdaa.join Go.Proofs.Ytklfmlbokedbdaa.strokes Go.Proofs.Ytklfmlbokedbdaa.inks Go.Proofs.Ytklfmlbokedbdaa.owned
open Go.Proofs.Ytklfmlbokedbdaa.inkLaw (open_ink)
open Go.Proofs.Ytklfmlbokedbdaa.boxes (own)
set_option linter.unusedVariables false

set_option maxRecDepth 100000 in
set_option maxHeartbeats 8000000 in
theorem walk (A : Option Addr) (n cap : Nat) (ink : List (List P3)) (x y : Int) (w : World) (hn : ink.length = n) (hmx : n ≤ maxLen) (hp : ArgRows w A ink) (hxb : -9223372036854775808 ≤ x ∧ x ≤ 9223372036854775807) (hyb : -9223372036854775808 ≤ y ∧ y ≤ 9223372036854775807) :
    Calls Try.prog 12 #[.agg #[.slice A n cap], .int .i64 x, .int .i64 y] w fun e w' => e = .returned (.bool true) ∧ Below w.heap.size w w' := by
  have HN := Lib.hid hn
  have HP := Lib.hid hp
  clear hn hp
  go_enter Try.func12, Try.ntmps12
  go_wp2_with fail
  refine (szInk_calls A n cap 1048576 ink _ HN.out hmx (Nat.le_refl _) (HP.out.below (below_alloc1 _ _))).mono ?_
  rintro e w1 ⟨r, rfl, hr, hb1⟩
  have HBw := Lib.hid ((below_alloc1 w _).trans (hb1.mono (below_alloc1 w _).size))
  have hz1 := hb1.size
  simp at hz1
  have lz1 : w.heap.size < w1.heap.size := by omega
  have c1 := (hb1.cell (p := ⟨w.heap.size, 0, none⟩) (by simp)).trans (show _ = some (Value.slice A n cap) by simp)
  clear hb1 hz1
  rcases hr with rfl | ⟨M, rfl, hM, hcap', hsm⟩
  · go_wp2
    go_ret
    exact ⟨rfl, HBw.out⟩
  have hcap : n ≤ 1048576 := by have := HN.out; omega
  have HM := Lib.hid hsm
  clear hsm hcap'
  obtain ⟨res, code, HSp, HIm, hr17, HRes⟩ := both_move n ink x y hxb hyb HN.out hcap HM.out
  obtain ⟨nr, hnr⟩ : ∃ nr, nr = res.length := ⟨_, rfl⟩
  have HNR := Lib.hid hnr.symm
  unfold Takes at HSp HIm
  clear hxb hyb
  rw [← hnr] at HSp HIm hr17
  clear hnr
  have HP1 := Lib.hid (HP.out.below HBw.out)
  have HC1 := Lib.hid c1
  clear HP
  go_wp2_with fail
  refine (toInk_own A n cap ink _ HN.out hcap HM.out HP1.out).mono ?_
  rintro e wa ⟨ga, gsa, rfl, hoa, hba⟩
  have HA := Lib.hid hba
  have hza := hba.size
  have HRA := Lib.hid (hoa.rows HN.out)
  have hga := hoa.ghi
  clear hba hoa c1
  go_wp2_with fail
  refine (HSp.out ga _ hga HRA.out).mono ?_
  rintro e wq ⟨Aw, cw, rfl, how, hbq⟩
  have hzq := hbq.size
  have HQ := Lib.hid (HA.out.trans (hbq.mono HA.out.size))
  have HOW := Lib.hid (OwnInk.mono (lo' := w1.heap.size) how hza (Nat.le_refl _) (Nat.le_refl _))
  clear hbq how HRA hga HA
  have d1 := (HQ.out.cell (p := ⟨w.heap.size, 0, none⟩) lz1).trans HC1.out
  have lzq : w.heap.size < wq.heap.size := by omega
  go_wp2_with fail
  refine (toInk_own A n cap ink _ HN.out hcap HM.out ((HP1.out.below HQ.out).below (below_alloc1 wq _))).mono ?_
  rintro e w9 ⟨G0, gs0, rfl, ho8, hb9⟩
  have HO8 := Lib.hid (show Own (wq.heap.size + 1) w9.heap.size w9 G0 gs0 n (FI ink) by simpa using ho8)
  have HB9 := Lib.hid ((below_alloc1 wq (.cells #[.slice Aw nr cw] 40)).trans (hb9.mono (below_alloc1 wq _).size))
  have hz9 := hb9.size
  simp at hz9
  have k6 : w9.cell? ⟨wq.heap.size, 0, none⟩ = some (.slice Aw nr cw) := (hb9.cell (p := ⟨wq.heap.size, 0, none⟩) (by simp)).trans (by simp)
  have HK6 := Lib.hid k6
  clear hb9 ho8 d1 k6
  go_wp2_with fail
  refine (HIm.out G0 _ (by simp; have := HO8.out.ghi; omega) ((HO8.out.rows HN.out).below (below_alloc1 w9 _) HO8.out.ghi)).mono ?_
  rintro e w11 ⟨Ag, cg, rfl, ho10, hb11⟩
  have HO10 := Lib.hid (show OwnInk (w9.heap.size + 1) w11.heap.size w11 Ag nr (FI res) by simpa using ho10)
  have HB11 := Lib.hid ((below_alloc1 w9 (.cells #[.slice (some ⟨G0, 0, none⟩) n n] 40)).trans (hb11.mono (below_alloc1 w9 _).size))
  have k8 : w11.cell? ⟨w9.heap.size, 0, none⟩ = some (.slice (some ⟨G0, 0, none⟩) n n) := (hb11.cell (p := ⟨w9.heap.size, 0, none⟩) (by simp)).trans (by simp)
  have hz11 := hb11.size
  simp at hz11
  have HST := Lib.hid (show Su w1 w.heap.size A n cap wq.heap.size w9.heap.size w11.heap.size Aw Ag G0 nr cw cg (wq.heap.size + 1) w9.heap.size (w9.heap.size + 1) w11.heap.size (FI res) (FI ink) (FI res) (w11.alloc (.cells #[.slice Ag nr cg] 40)) from by
    have q11 := below_alloc1 w11 (.cells #[.slice Ag nr cg] 40)
    have q9 := HB11.out.trans (q11.mono HB11.out.size)
    have qq := HB9.out.trans (q9.mono HB9.out.size)
    have q1 := HQ.out.trans (qq.mono HQ.out.size)
    have hg8 := HO8.out.ghi
    refine ⟨q1, by simp, (q1.cell (p := ⟨w.heap.size, 0, none⟩) lz1).trans HC1.out, (q9.cell (p := ⟨wq.heap.size, 0, none⟩) (show wq.heap.size < w9.heap.size by omega)).trans HK6.out, (q11.cell (p := ⟨w9.heap.size, 0, none⟩) (show w9.heap.size < w11.heap.size by omega)).trans k8, by simp,
      OwnInk.mono (HOW.out.kept qq) (Nat.le_refl _) (by omega) (by have := q9.size; omega), .inr ⟨G0, gs0, rfl, HO8.out.kept q9⟩, HO10.out.kept q11, by omega⟩)
  clear hb11 ho10 k8 HO8 HB9 HK6 HO10 HB11 HOW HQ hz9 hz11 hzq hza lzq
  have k2 := HST.out.c6
  have k3 := HST.out.c10
  have kz := HST.out.top
  have ord := HST.out.ord
  have kz6 : wq.heap.size < (w11.alloc (.cells #[.slice Ag nr cg] 40)).heap.size := by omega
  have HRes' := Lib.hid (show ∀ q ∈ res, q.length ≤ 1048576 from fun q hq => by have := HRes.out q hq; omega)
  go_wp2_with fail
  refine (eqInk_own Ag Aw nr res _ HNR.out (by omega) HRes'.out HST.out.o10 HST.out.o6).mono ?_
  rintro e w12 ⟨rfl, hb12⟩
  have hst := HST.out.kept hb12
  clear hb12 HST k2 k3 kz kz6
  have e8 := hst.c8
  have e2 := hst.c2
  go_upto_region 10 with fail
  go_cut [53] (fun s wx => s = .bool false ∧ Hid (Su w1 w.heap.size A n cap wq.heap.size w9.heap.size w11.heap.size Aw Ag G0 nr cw cg (wq.heap.size + 1) w9.heap.size (w9.heap.size + 1) w11.heap.size (FI res) (FI ink) (FI res) wx))
  case first =>
    go_region_held3 (fun W => W.cell? ⟨w9.heap.size, 0, none⟩ = some (.slice (some ⟨G0, 0, none⟩) n n) ∧ W.cell? ⟨w.heap.size, 0, none⟩ = some (.slice A n cap) ∧ Su w1 w.heap.size A n cap wq.heap.size w9.heap.size w11.heap.size Aw Ag G0 nr cw cg (wq.heap.size + 1) w9.heap.size (w9.heap.size + 1) w11.heap.size (FI res) (FI ink) (FI res) W) (first | assumption | exact ⟨e8, e2, hst.drew⟩ | go_keep)
      (first
        | (go_at_call 21; refine (toInk_own A n cap ink _ HN.out hcap HM.out (by exact HP1.out.below (Su.base (And.right (And.right (by assumption)))))).mono ?_; rintro e wb ⟨gb, gsb, rfl, hob, hbb⟩; have hsb := Su.kept (And.right (And.right (by assumption))) hbb; have hk2 := And.intro hsb.c8 (And.intro hsb.c2 hsb); have HOB := Lib.hid (show OwnInk _ _ wb (some ⟨gb, 0, none⟩) n (FI ink) from .inr ⟨gb, gsb, rfl, hob⟩); clear hob hsb)
        | (go_at_call 23; refine (eqInk_own (some ⟨G0, 0, none⟩) (some ⟨gb, 0, none⟩) n ink _ HN.out hcap HM.out (by exact Su.o8 (And.right (And.right (by assumption)))) (by exact HOB.out)).mono ?_; rintro e wd ⟨rfl, hbd⟩; have hsd := Su.kept (And.right (And.right (by assumption))) hbd; have hk3 := And.intro hsd.c8 (And.intro hsd.c2 hsd); clear hsd))
    all_goals
      rename_i hh
      have HH := Lib.hid hh.2.2
      clear hh
      go_wp2_with fail
      go_meet
      exact ⟨rfl, HH⟩
  case rest =>
    obtain ⟨rfl, HT2⟩ := hcut
    clear hst e8 e2
    have HB8 := Lib.hid (show 1 + 3 * pre (FI ink) n ≤ 4000000000000 by
      have h1 := pre_le (F := FI ink) (n := n) (M := 1048576) (fun i _ => FI_le HM.out i)
      have h2 : n * 1048576 ≤ 1048576 * 1048576 := Nat.mul_le_mul_right _ hcap
      omega)
    have HB10' := Lib.hid (show 1 + 3 * pre (FI res) nr ≤ 4000000000000 by
      have h1 := pre_le (F := FI res) (n := nr) (M := 60) (fun i _ => FI_le HRes.out i)
      have h2 : nr * 60 ≤ 17 * 60 := Nat.mul_le_mul_right _ hr17
      omega)
    have e8 := HT2.out.c8
    have k8z : w9.heap.size < wc.heap.size := by have := HT2.out.top; omega
    go_wp2_with fail
    refine (markInk_one (some ⟨G0, 0, none⟩) n (FI ink) _ hcap (by have := HB8.out; omega) HT2.out.o8).mono ?_
    rintro e w18 ⟨rfl, ho18, hw18⟩
    have HT4 := Lib.hid (HT2.out.mark8 hw18 ho18)
    clear ho18 hw18 HT2 e8 k8z
    obtain ⟨k2, hk2⟩ : ∃ k2, 1 + 3 * pre (FI ink) n = k2 := ⟨_, rfl⟩
    obtain ⟨m0, hm0⟩ : ∃ m0, 1 + 3 * pre (FI res) nr = m0 := ⟨_, rfl⟩
    have hm0b : m0 ≤ 4000000000000 := hm0 ▸ HB10'.out
    have HM0 := Lib.hid hm0
    rw [hk2]
    clear hk2 hm0 HB8
    have hk2n : ¬ ((k2 : Int) < 0) := by omega
    have hk2d : decide ((k2 : Int) < 0) = false := decide_eq_false hk2n
    have e6 := HT4.out.c6
    have e10 := HT4.out.c10
    have k10z := HT4.out.top
    have k6z : wq.heap.size < w18.heap.size := by omega
    go_wp2_with fail
    refine (eqInk_own Ag Aw nr res _ HNR.out (by omega) HRes'.out HT4.out.o10 HT4.out.o6).mono ?_
    rintro e w20 ⟨rfl, hb20⟩
    have HT5 := Lib.hid (HT4.out.kept hb20)
    clear hb20 HT4 e6 e10 k10z k6z
    have e10 := HT5.out.c10
    have k10z := HT5.out.top
    go_wp2_with fail
    refine (markInk_one Ag nr (FI res) _ (by omega) (by have := HB10'.out; omega) HT5.out.o10).mono ?_
    rintro e w24 ⟨rfl, ho24, hw24⟩
    rw [HM0.out]
    have HT6 := Lib.hid (HT5.out.mark10 hw24 ho24)
    clear ho24 hw24 HT5 e10 k10z
    have e10 := HT6.out.c10
    have k10z := HT6.out.top
    go_wp2_with fail
    refine (heldInk_one Ag nr (FI res) _ (by omega) (by have := HB10'.out; omega) HT6.out.o10).mono ?_
    rintro e w26 ⟨rfl, hb26⟩
    rw [HM0.out]
    have HT7 := Lib.hid (HT6.out.kept hb26)
    clear hb26 HT6 e10 k10z
    have hm0n : ¬ ((m0 : Int) < 0) := by omega
    have d2 := HT7.out.c2
    have lz26 : w.heap.size < w26.heap.size := by have := HT7.out.top; omega
    go_wp2_with fail
    refine (toInk_own A n cap ink _ HN.out hcap HM.out (HP1.out.below HT7.out.base)).mono ?_
    rintro e wf ⟨gf, gsf, rfl, hof, hbf⟩
    have HT8 := Lib.hid (HT7.out.kept hbf)
    have HRF := Lib.hid (hof.rows HN.out)
    have hgf := hof.ghi
    clear hbf hof HT7 d2 lz26
    go_wp2_with fail
    refine (HIm.out gf _ hgf HRF.out).mono ?_
    rintro e wg ⟨Ah, ch, rfl, hoh, hbg⟩
    have HOH := Lib.hid (hoh.kept (below_alloc1 wg (.cells #[.slice Ah nr ch] 40)))
    have HT9 := Lib.hid ((HT8.out.kept hbg).kept (below_alloc1 wg (.cells #[.slice Ah nr ch] 40)))
    have e6 := ((HT8.out.kept hbg)).c6
    have k6z : wq.heap.size < wg.heap.size := by have := (HT8.out.kept hbg).top; omega
    clear hoh hbg HT8 HRF hgf
    go_wp2_with fail
    refine (eqInk_own Ah Aw nr res _ HNR.out (by omega) HRes'.out HOH.out HT9.out.o6).mono ?_
    rintro e w32 ⟨rfl, hb32⟩
    have HT10 := Lib.hid (HT9.out.kept hb32)
    clear hb32 HT9 e6 k6z HOH
    have e10 := HT10.out.c10
    have k10z := HT10.out.top
    go_wp2_with fail
    refine (heldInk_one Ag nr (FI res) _ (by omega) (by have := HB10'.out; omega) HT10.out.o10).mono ?_
    rintro e w35 ⟨rfl, hb35⟩
    rw [HM0.out]
    have HF := Lib.hid (HBw.out.trans ((HT10.out.kept hb35).base.mono HBw.out.size))
    clear hb35 HT10 e10 k10z
    go_wp2
    go_ret
    exact ⟨rfl, HF.out⟩

theorem wf64 {x : Int} (h : (Lit.int .i64 x).wf = true) : -9223372036854775808 ≤ x ∧ x ≤ 9223372036854775807 := by
  simpa [Lit.wf, IntKind.min, IntKind.max, IntKind.signed, IntKind.bits] using h

theorem reads : ∀ t ∈ Try.f12.params.toList, Try.prog.readableRec t = true ∧ t < Try.prog.types.size := by
  rw [Try.params12]
  intro t ht
  have h' : t = 35 ∨ t = 2 := by simpa using ht
  rcases h' with rfl | rfl <;> exact ⟨by kernel_rfl, of_decide_eq_true (by kernel_rfl)⟩

set_option maxRecDepth 100000 in
theorem contract (H : Type) (enc : TypeId × Value → H) (W : World) (base : Nat) (args : Array Value) (ds gs : List (DataW H)) (before : List MemPlace)
    (hval : ∀ (j : Nat) t v, Try.f12.params[j]? = some t → args[j]? = some v → Value.okWide Try.prog W .any base t v)
    (hW : DataW.Whole enc Try.prog Try.f12.params.toList Rows.fnExactMoveInkSpec.vars false W args.toList ds gs before) :
    Calls Try.prog 12 args W fun e W' => ∃ v, e = .returned v ∧ Rows.fnExactMoveInkSpec.post enc Try.prog Try.f12 false true false false W args v W' := by
  have hW' := hW
  obtain ⟨p, q, hA0, hV, rfl, hfz, hnd⟩ := hW
  have hA : DataW.TrodAll enc Try.prog W 0 (fun _ => true) true Try.f12.params.toList args.toList ds p := hA0
  rw [Try.params12] at hA hval
  obtain ⟨v0, vs0, d0, ds0, p0, q0, hargs, rfl, rfl, h0, r0⟩ := trodAll_cons hA
  obtain ⟨v1, vs1, d1, ds1, p1, q1, rfl, rfl, rfl, h1, r1⟩ := trodAll_cons r0
  obtain ⟨v2, vs2, d2, ds2, p2, q2, rfl, rfl, rfl, h2, r2⟩ := trodAll_cons r1
  obtain ⟨rfl, rfl, rfl⟩ := trodAll_nil r2
  obtain rfl : args = #[v0, v1, v2] := by cases args; simp_all
  obtain ⟨rfl, rfl⟩ := trodVars_none hV
  obtain ⟨A, n, cap, ink, rfl, hn, hmx, hp⟩ := open_ink (hval 0 35 v0 rfl rfl) h0
  obtain ⟨x, rfl, -, -, hx⟩ := open_int Try.underlying2 (hval 1 2 v1 rfl rfl) h1
  obtain ⟨y, rfl, -, -, hy⟩ := open_int Try.underlying2 (hval 2 2 v2 rfl rfl) h2
  refine (walk A n cap ink x y W hn hmx hp (wf64 hx) (wf64 hy)).mono fun e W' ⟨he, hg⟩ => ?_
  subst he
  exact ⟨_, rfl, law_post (by kernel_rfl) reads (by kernel_rfl) Try.underlying4 rfl hW' rfl rfl rfl hg⟩

set_option maxRecDepth 100000 in
theorem lifted (os : Os) (started : os.Started) (H : Type) (enc : TypeId × Value → H) :
    ReturnsInHanded {} Try.checked os 12 .any (Rows.fnExactMoveInkSpec.pre6 enc Try.prog Try.f12 Rows.fnExactMoveInkRow.domain false) (Rows.fnExactMoveInkSpec.post enc Try.prog Try.f12 false true false false) := by
  refine returnsInHanded_of_change (C := Try.checked) own started (by kernel_rfl) Try.func12
    (ChangeSpec.witness6 (enc := enc) (C := Try.checked) false ⟨#[], #[.agg #[.slice none 0 0], .int .i64 0, .int .i64 0], []⟩ 8 (by kernel_rfl) (by kernel_rfl) (by kernel_rfl) (by kernel_rfl)) ?_
  intro W base args ds gs before hval hW _ _
  exact contract H enc W base args ds gs before hval hW

theorem holds : Rows.FnExactMoveInkSaid :=
  OpenClaim.holds_of_wide 12 Try.f12 rfl rfl rfl rfl rfl rfl rfl ⟨rfl, rfl, rfl, rfl, rfl⟩ rfl rfl rfl rfl rfl (by kernel_rfl) Try.func12 (by kernel_rfl)
    (of_decide_eq_true (by kernel_rfl)) (by unfold Func.isWrapper; first | (rw [if_pos (by decide +kernel)]; kernel_rfl) | (rw [if_neg (by decide +kernel)]; exact ⟨rfl, rfl⟩))
    (fun os started H enc _ => lifted os started H enc)
end Go.Proofs.Ytklfmlbokedbdaa.fnExactMoveInk
