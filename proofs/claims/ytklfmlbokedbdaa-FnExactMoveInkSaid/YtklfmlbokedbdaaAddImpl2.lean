/-
  Proved: where a stroke can be added, the program's function adds it, and its answer lies in blocks of its own (contracts of a callee of the law on AddStroke).
  Conditions: the ink and the stroke lie in rows of their own.
-/
import Derived.Test.YtklfmlbokedbdaaAddImpl
namespace Go.Proofs.Ytklfmlbokedbdaa.owned
open Go.ChangeShapes Go.WideShapes Go.ChangeAt Go.RowKit Go.Joins
open Go.Proofs.Ytklfmlbokedbdaa.join Go.Proofs.Ytklfmlbokedbdaa.strokes Go.Proofs.Ytklfmlbokedbdaa.valid Go.Proofs.Ytklfmlbokedbdaa.inks Go.Proofs.Ytklfmlbokedbdaa.inkOk
open Go.Proofs.Ytklfmlbokedbdaa.count (vI_len)
set_option linter.unusedVariables false

theorem undrew {w w' : World} (h : Below w.drew.heap.size w.drew w') : Below w.heap.size w w' := ⟨h.os, h.tape, h.output, h.size, h.block⟩

set_option maxRecDepth 100000 in
set_option maxHeartbeats 4000000 in
theorem implAdd_some {c : Nat} (j : Nat) (G g m : Nat) (ink : List (List P3)) (pts : List P3) (w : World) (hn : ink.length = j + 1) (hcap : j + 1 ≤ 1048576) (hsm : ∀ q ∈ ink, q.length ≤ 1048576) (hm : pts.length = m) (hcm : m ≤ 1048576) (hg : G < w.heap.size) (hgm : g < w.heap.size) (hp : RowsFrom 0 w G ink) (hq : Pts w g pts) (hv : vI ink = true) (hs : vS pts = true) (h16 : j + 1 < 16) (hT : decide (lastT (FI ink j) < firstT pts) = true) :
    Calls Try.prog 37 #[inkV G (j + 1), .agg #[.slice (some ⟨g, 0, none⟩) m c]] w fun e w' => ∃ A c', e = .returned (.tuple #[.agg #[.slice A (j + 1 + 1) c'], .int .i64 0]) ∧ OwnInk w.heap.size w'.heap.size w' A (j + 1 + 1) (FI (ink ++ [pts])) ∧ Below w.heap.size w w' := by
  obtain ⟨i0, hi0, hz0, hz1, hz2'⟩ := info_parts infoS
  have HN := Lib.hid hn
  have HMM := Lib.hid hm
  have HP := Lib.hid (hp.below (below_alloc3 w (.cells #[.slice (some ⟨G, 0, none⟩) (j + 1) (j + 1)] 40) (.cells #[.slice (some ⟨g, 0, none⟩) m c] 29) (.cells #[.slice none 0 0] 40)) hg)
  have HQ := Lib.hid (hq.below (below_alloc3 w (.cells #[.slice (some ⟨G, 0, none⟩) (j + 1) (j + 1)] 40) (.cells #[.slice (some ⟨g, 0, none⟩) m c] 29) (.cells #[.slice none 0 0] 40)) hgm)
  have HM := Lib.hid hsm
  have HV := Lib.hid hv
  have HS := Lib.hid hs
  clear hn hp hsm hm hq hv hs
  go_enter Try.func37, Try.ntmps37
  go_wp2_with fail
  refine (implValidInk_calls G (j + 1) ink _ HN.out hcap HM.out (by simp; omega) HP.out).mono ?_
  rintro e w1 ⟨rfl, hb1⟩
  rw [HV.out]
  have hz1 := hb1.size
  simp at hz1
  have HB1 := Lib.hid hb1
  have lza : w.heap.size + 1 < w1.heap.size := by omega
  have s1 := (hb1.cell (p := ⟨w.heap.size + 1, 0, none⟩) (by simp)).trans (show _ = some (Value.slice (some ⟨g, 0, none⟩) m c) from (World.cell?_alloc_lt _ _ _ (by simp)).trans (by simp))
  clear hb1
  go_wp2_with fail
  refine (implValid_calls (c := c) g m pts _ HMM.out hcm (by omega) (HQ.out.below HB1.out (by simp; omega))).mono ?_
  rintro e w2 ⟨rfl, hb2⟩
  rw [HS.out]
  have HB2 := Lib.hid (HB1.out.trans (hb2.mono HB1.out.size))
  clear hb2 s1 HB1 hz1
  have hz2 := HB2.out.size
  simp at hz2
  have lz2 : w.heap.size + 1 + 1 < w2.heap.size := by omega
  have lz1 : w.heap.size + 1 < w2.heap.size := by omega
  have lz0 : w.heap.size < w2.heap.size := by omega
  have a2 := (HB2.out.cell (p := ⟨w.heap.size, 0, none⟩) (by simp; omega)).trans (show _ = some (Value.slice (some ⟨G, 0, none⟩) (j + 1) (j + 1)) from (World.cell?_alloc_lt _ _ _ (by simp; omega)).trans (by simp))
  have a3 := (HB2.out.cell (p := ⟨w.heap.size + 1, 0, none⟩) (by simp)).trans (show _ = some (Value.slice (some ⟨g, 0, none⟩) m c) from (World.cell?_alloc_lt _ _ _ (by simp)).trans (by simp))
  have HPZ := Lib.hid (HP.out.below HB2.out (by simp; omega))
  have HQZ := Lib.hid (HQ.out.below HB2.out (by simp; omega))
  have hGz : G < w2.heap.size := by omega
  have hgz : g < w2.heap.size := by omega
  have hjl : j < ink.length := by have := HN.out; omega
  have hjk := List.getElem?_eq_getElem hjl
  obtain ⟨gq, d, -, hgq, pq, hpq⟩ := HPZ.out j ink[j] hjk
  have hql := vI_len HV.out hjk
  rw [← FI_at hjk] at pq hpq hql
  generalize hqe : FI ink j = qts at pq hpq hql hT
  have HQE := Lib.hid hqe
  clear hqe hjk
  have hq1 := hql.1
  have hqm : qts.length ≤ 1048576 := by omega
  have HPQ := Lib.hid hpq
  clear hpq hql
  have hp1 := (vS_pos HS.out).1
  have hm1 : (0 : Int) < (m : Int) := by have := HMM.out; omega
  have hm2 : 0 < m := by have := HMM.out; omega
  have q1 := cell_kept (a := ⟨G, j, none⟩) hGz pq
  have q3 := cell_kept (a := ⟨w.heap.size, 0, none⟩) lz0 a2
  have q4 := cell_kept (a := ⟨w.heap.size + 1, 0, none⟩) lz1 a3
  have e0 : (0 : Int) < ((j + 1 : Nat) : Int) := by omega
  have e1 : ((j + 1 : Nat) : Int) - 1 = (j : Int) := by omega
  have e2 : (j : Int) < ((j + 1 : Nat) : Int) := by omega
  have e5 : ¬ (((j + 1 : Nat) : Int) = 16) := by omega
  have HT := Lib.hid hT
  clear hT pq
  have hmx := mixed
  have hu : undef = Value.tuple #[] := rfl
  go_wp2
  refine wp_region_quiet_kept (by assumption) (by kernel_rfl) ?_
  repeat (first | go_big_quiet_step ((go_at_call 55; exact Calls.kept_of ((later_calls (c := c) (c' := d) g m gq qts.length pts qts _ HMM.out hm2 hcm rfl hq1 hqm (kept_lt hgz _) (kept_lt hgq _) (HQZ.out.below (Kept.below _) hgz) (HPQ.out.below (Kept.below _) hgq)).mono fun _ _ ⟨he, hb⟩ => ⟨by rw [he, HT.out], hb⟩))) | quiet_step ((go_at_call 55; exact Calls.kept_of ((later_calls (c := c) (c' := d) g m gq qts.length pts qts _ HMM.out hm2 hcm rfl hq1 hqm (kept_lt hgz _) (kept_lt hgq _) (HQZ.out.below (Kept.below _) hgz) (HPQ.out.below (Kept.below _) hgq)).mono fun _ _ ⟨he, hb⟩ => ⟨by rw [he, HT.out], hb⟩))))
  refine wpQuiet_nil ?_
  intro w3 hw'
  obtain ⟨⟨wk, hb3⟩, hw''⟩ := hw'
  subst hw''
  have HB3 := Lib.hid (HB2.out.trans (hb3.mono HB2.out.size))
  have a2' : w3.cell? _ = _ := (hb3.cell (p := ⟨w.heap.size, 0, none⟩) lz0).trans a2
  have a3' : w3.cell? _ = _ := (hb3.cell (p := ⟨w.heap.size + 1, 0, none⟩) lz1).trans a3
  have lz1' : w.heap.size + 1 < w3.heap.size := Nat.lt_of_lt_of_le lz1 hb3.size
  have lz0' : w.heap.size < w3.heap.size := Nat.lt_of_lt_of_le lz0 hb3.size
  have hgz3 : g < w3.heap.size := Nat.lt_of_lt_of_le hgz hb3.size
  have HQ3 := Lib.hid (show Pts w3 g pts from HQZ.out.below hb3 hgz)
  have HSR := Lib.hid (show SrcRows w3 (some ⟨G, 0, none⟩) (j + 1) (FI (ink ++ [pts])) from src_of (jnk := ink ++ [pts]) HN.out HV.out (Nat.lt_of_lt_of_le hGz hb3.size) (HPZ.out.below hb3 hGz) (fun i hi => FI_app (by have := HN.out; omega)))
  have hmm := (vS_pos HS.out).1
  have hmm2 : 1 ≤ m := by have := HMM.out; omega
  clear hb3 q1 q3 q4 e0 e1 e2 HB2 a2 a3
  have HR := Lib.hid (show w3.heap[w.heap.size + 1 + 1]? = some (.cells #[.slice none 0 0] 40 (0, 0)) from (HB3.out.block _ (by simp)).trans (res_new w _ _))
  have HF := Lib.hid (show Below w.heap.size w w3 from (below_alloc3 w _ _ _).trans (HB3.out.mono (below_alloc3 w _ _ _).size))
  have HLP := Lib.hid (FI_last (pts := pts) HN.out)
  have hw3 : w.heap.size ≤ w3.heap.size := HF.out.size
  clear HB3
  go_wp2
  go_region_law (first
    | (refine step_append_lies _ rfl (.tmp 38) (.tmp 41) _ rfl w3.heap.size 29 i0 _ 1 24 Try.underlying38 hi0 hz0 hz1 hz2' rfl (by omega) (.slice A (j + 1) c4) (j + 1) _ (by simp [Act.eval]) (HDx.out.kept (below_alloc1 _ _)).own ⟨w5.heap.size, 0, none⟩ 1 1 [.slice (some ⟨g5, 0, none⟩) m c5] (by simp [Act.eval]) (by simp) one_new (by simp [Value.oneCell']) (by omega) (by simp only [maxLen]; omega) (by omega) (Nat.le_trans HDx.out.bz (by simp)) _ rfl ?_; intro g6 cap6 w6 hown hgr hat hlt6; have HM6 := Lib.hid (HDx.out.more' (F := FI (ink ++ [pts])) (g := g5) (c := c5) hgb HNE.out (by rw [HLP.out]; exact HOx.out) (by rw [HLP.out, HMM.out]; exact hown) hgr); have HR6 := Lib.hid (HDx.out.aside hgr HRx.out); have r0 := (cell_of_block HR6.out 0).trans (show _ = some (Value.slice none 0 0) from rfl); have rf := unfrozen_of_block HR6.out; have rz := lt_of_cells HR6.out; have HU6 := Lib.hid (HFx.out.trans ((HDx.out.under (Below.refl _ _) hgr).mono hw3)); clear hown hgr hat)
    | (refine step_append_lies _ rfl (.tmp 38) (.tmp 41) _ rfl w3.heap.size 29 i0 _ 1 24 Try.underlying38 hi0 hz0 hz1 hz2' rfl (by omega) (.slice A (j + 1) c4) (j + 1) _ (by simp [Act.eval]) (HDx.out.kept (below_alloc1 _ _)).own ⟨w4.heap.size, 0, none⟩ 1 1 [.slice (some ⟨g5, 0, none⟩) m c5] (by simp [Act.eval]) (by simp) one_new (by simp [Value.oneCell']) (by omega) (by simp only [maxLen]; omega) (by omega) (Nat.le_trans HDx.out.bz (by simp)) _ rfl ?_; intro g6 cap6 w6 hown hgr hat hlt6; have HM6 := Lib.hid (HDx.out.more' (F := FI (ink ++ [pts])) (g := g5) (c := c5) hgb HNE.out (by rw [HLP.out]; exact HOx.out) (by rw [HLP.out, HMM.out]; exact hown) hgr); have HR6 := Lib.hid (HDx.out.aside hgr HRx.out); have r0 := (cell_of_block HR6.out 0).trans (show _ = some (Value.slice none 0 0) from rfl); have rf := unfrozen_of_block HR6.out; have rz := lt_of_cells HR6.out; have HU6 := Lib.hid (HFx.out.trans ((HDx.out.under (Below.refl _ _) hgr).mono hw3)); clear hown hgr hat)
    | (go_simp; go_at_call 69; refine (copyStrokes_calls (C := (j + 1)) (some ⟨G, 0, none⟩) (j + 1) (FI (ink ++ [pts])) _ hcap HSR5.out).mono ?_; rintro e w4 ⟨A, c4, gs, cs, rfl, hbd, hb4⟩; have HDx := Lib.hid (hbd.mono (base' := w3.heap.size) hz35); have HOx := Lib.hid (HO5.out.same (hb4.block _ HO5.out.lt)); have HNE := Lib.hid (show ∀ i, i < (j + 1) → gs i ≠ g5 from fun i hi => by have := (hbd.pts i hi).1; have := HO5.out.lt; omega); have HRx := Lib.hid ((hb4.block _ (lt_of_cells HR5.out)).trans HR5.out); have HFx := Lib.hid (HF5.out.trans (hb4.mono HF5.out.size)); have hgb : w3.heap.size ≤ g5 := hg5; clear hbd hb4)
    | (go_simp; go_at_call 69; refine (copyStrokes_calls (C := (j + 1)) (some ⟨G, 0, none⟩) (j + 1) (FI (ink ++ [pts])) _ hcap (by exact HSR.out)).mono ?_; rintro e w4 ⟨A, c4, gs, cs, rfl, hbd, hb4⟩; have hb4' := undrew hb4; have HD4 := Lib.hid (show Building w3.heap.size w4 (.slice A (j + 1) c4) (j + 1) (FI (ink ++ [pts])) gs cs from hbd); have HQ4 := Lib.hid (HQ3.out.below hb4' hgz3); have hgz4 : g < w4.heap.size := Nat.lt_of_lt_of_le hgz3 hb4'.size; have b3 := (hb4'.cell (p := ⟨w.heap.size + 1, 0, none⟩) lz1').trans a3'; have lz14 : w.heap.size + 1 < w4.heap.size := Nat.lt_of_lt_of_le lz1' hb4'.size; have hz34 : w3.heap.size ≤ w4.heap.size := hb4'.size; have HR4 := Lib.hid ((hb4'.block _ (lt_of_cells HR.out)).trans HR.out); have HF4 := Lib.hid (HF.out.trans (hb4'.mono HF.out.size)); clear hbd hb4 hb4')
    | (go_simp; go_at_call 70; refine (copyStroke_calls (c := c) g m pts _ HMM.out hmm2 hcm hgz4 HQ4.out).mono ?_; rintro e w5 ⟨g5, c5, rfl, hg5, ho5, hb5⟩; have HDx := Lib.hid (HD4.out.kept hb5); have HOx := Lib.hid ho5; have HNE := Lib.hid (show ∀ i, i < (j + 1) → gs i ≠ g5 from fun i hi => by have := (HD4.out.pts i hi).2.lt; omega); have HRx := Lib.hid ((hb5.block _ (lt_of_cells HR4.out)).trans HR4.out); have HFx := Lib.hid (HF4.out.trans (hb5.mono HF4.out.size)); have hgb : w3.heap.size ≤ g5 := Nat.le_trans hz34 hg5; clear ho5 hb5)
    | (go_simp; go_at_call 70; refine (copyStroke_calls (c := c) g m pts _ HMM.out hmm2 hcm (by exact hgz3) (by exact HQ3.out)).mono ?_; rintro e w5 ⟨g5, c5, rfl, hg5', ho5, hb5⟩; have hg5 : w3.heap.size ≤ g5 := hg5'; have hb5' := undrew hb5; have HO5 := Lib.hid ho5; have HSR5 := Lib.hid (HSR.out.below hb5'); have hz35 : w3.heap.size ≤ w5.heap.size := hb5'.size; have b2 := (hb5'.cell (p := ⟨w.heap.size, 0, none⟩) lz0').trans a2'; have lz05 : w.heap.size < w5.heap.size := Nat.lt_of_lt_of_le lz0' hb5'.size; have HR5 := Lib.hid ((hb5'.block _ (lt_of_cells HR.out)).trans HR.out); have HF5 := Lib.hid (HF.out.trans (hb5'.mono HF.out.size)); clear ho5 hb5 hb5' hg5'))
  all_goals
    go_wp2
    exact bodyPost_ret (v := .tuple #[.agg #[.slice (some ⟨g6, 0, none⟩) ((j + 1) + 1) cap6], .int .i64 0]) (by simp [results, Try.results37, go_sem, r0]) rfl
      ⟨_, cap6, rfl, ((HM6.out.set HR6.out _).mono hw3).ink, HU6.out.setCell (show w.heap.size ≤ w.heap.size + 1 + 1 by omega) _⟩

set_option maxRecDepth 100000 in
set_option maxHeartbeats 4000000 in
theorem implAdd_zero {c : Nat} (G g m : Nat) (ink : List (List P3)) (pts : List P3) (w : World) (hn : ink.length = 0) (hcap : 0 ≤ 1048576) (hsm : ∀ q ∈ ink, q.length ≤ 1048576) (hm : pts.length = m) (hcm : m ≤ 1048576) (hg : G < w.heap.size) (hgm : g < w.heap.size) (hp : RowsFrom 0 w G ink) (hq : Pts w g pts) (hv : vI ink = true) (hs : vS pts = true)  :
    Calls Try.prog 37 #[inkV G 0, .agg #[.slice (some ⟨g, 0, none⟩) m c]] w fun e w' => ∃ A c', e = .returned (.tuple #[.agg #[.slice A 1 c'], .int .i64 0]) ∧ OwnInk w.heap.size w'.heap.size w' A 1 (FI (ink ++ [pts])) ∧ Below w.heap.size w w' := by
  obtain ⟨i0, hi0, hz0, hz1, hz2'⟩ := info_parts infoS
  have HN := Lib.hid hn
  have HMM := Lib.hid hm
  have HP := Lib.hid (hp.below (below_alloc3 w (.cells #[.slice (some ⟨G, 0, none⟩) 0 0] 40) (.cells #[.slice (some ⟨g, 0, none⟩) m c] 29) (.cells #[.slice none 0 0] 40)) hg)
  have HQ := Lib.hid (hq.below (below_alloc3 w (.cells #[.slice (some ⟨G, 0, none⟩) 0 0] 40) (.cells #[.slice (some ⟨g, 0, none⟩) m c] 29) (.cells #[.slice none 0 0] 40)) hgm)
  have HM := Lib.hid hsm
  have HV := Lib.hid hv
  have HS := Lib.hid hs
  clear hn hp hsm hm hq hv hs
  go_enter Try.func37, Try.ntmps37
  go_wp2_with fail
  refine (implValidInk_calls G 0 ink _ HN.out hcap HM.out (by simp; omega) HP.out).mono ?_
  rintro e w1 ⟨rfl, hb1⟩
  rw [HV.out]
  have hz1 := hb1.size
  simp at hz1
  have HB1 := Lib.hid hb1
  have lza : w.heap.size + 1 < w1.heap.size := by omega
  have s1 := (hb1.cell (p := ⟨w.heap.size + 1, 0, none⟩) (by simp)).trans (show _ = some (Value.slice (some ⟨g, 0, none⟩) m c) from (World.cell?_alloc_lt _ _ _ (by simp)).trans (by simp))
  clear hb1
  go_wp2_with fail
  refine (implValid_calls (c := c) g m pts _ HMM.out hcm (by omega) (HQ.out.below HB1.out (by simp; omega))).mono ?_
  rintro e w2 ⟨rfl, hb2⟩
  rw [HS.out]
  have HB2 := Lib.hid (HB1.out.trans (hb2.mono HB1.out.size))
  clear hb2 s1 HB1 hz1
  have hz2 := HB2.out.size
  simp at hz2
  have lz2 : w.heap.size + 1 + 1 < w2.heap.size := by omega
  have lz1 : w.heap.size + 1 < w2.heap.size := by omega
  have lz0 : w.heap.size < w2.heap.size := by omega
  have a2 := (HB2.out.cell (p := ⟨w.heap.size, 0, none⟩) (by simp; omega)).trans (show _ = some (Value.slice (some ⟨G, 0, none⟩) 0 0) from (World.cell?_alloc_lt _ _ _ (by simp; omega)).trans (by simp))
  have a3 := (HB2.out.cell (p := ⟨w.heap.size + 1, 0, none⟩) (by simp)).trans (show _ = some (Value.slice (some ⟨g, 0, none⟩) m c) from (World.cell?_alloc_lt _ _ _ (by simp)).trans (by simp))
  have HPZ := Lib.hid (HP.out.below HB2.out (by simp; omega))
  have HQZ := Lib.hid (HQ.out.below HB2.out (by simp; omega))
  have hGz : G < w2.heap.size := by omega
  have hgz : g < w2.heap.size := by omega
  have hp1 := (vS_pos HS.out).1
  have q3 := cell_kept (a := ⟨w.heap.size, 0, none⟩) lz0 a2
  have q4 := cell_kept (a := ⟨w.heap.size + 1, 0, none⟩) lz1 a3
  have hmx := mixed
  have hu : undef = Value.tuple #[] := rfl
  go_wp2
  refine wp_region_quiet_kept (by assumption) (by kernel_rfl) ?_
  repeat (first | go_big_quiet_step (fail) | quiet_step (fail))
  refine wpQuiet_nil ?_
  intro w3 hw'
  obtain ⟨⟨wk, hb3⟩, hw''⟩ := hw'
  subst hw''
  have HB3 := Lib.hid (HB2.out.trans (hb3.mono HB2.out.size))
  have a2' : w3.cell? _ = _ := (hb3.cell (p := ⟨w.heap.size, 0, none⟩) lz0).trans a2
  have a3' : w3.cell? _ = _ := (hb3.cell (p := ⟨w.heap.size + 1, 0, none⟩) lz1).trans a3
  have lz1' : w.heap.size + 1 < w3.heap.size := Nat.lt_of_lt_of_le lz1 hb3.size
  have lz0' : w.heap.size < w3.heap.size := Nat.lt_of_lt_of_le lz0 hb3.size
  have hgz3 : g < w3.heap.size := Nat.lt_of_lt_of_le hgz hb3.size
  have HQ3 := Lib.hid (show Pts w3 g pts from HQZ.out.below hb3 hgz)
  have HSR := Lib.hid (show SrcRows w3 (some ⟨G, 0, none⟩) 0 (FI (ink ++ [pts])) from src_of (jnk := ink ++ [pts]) HN.out HV.out (Nat.lt_of_lt_of_le hGz hb3.size) (HPZ.out.below hb3 hGz) (fun i hi => FI_app (by have := HN.out; omega)))
  have hmm := (vS_pos HS.out).1
  have hmm2 : 1 ≤ m := by have := HMM.out; omega
  clear hb3 q3 q4 HB2 a2 a3
  have HR := Lib.hid (show w3.heap[w.heap.size + 1 + 1]? = some (.cells #[.slice none 0 0] 40 (0, 0)) from (HB3.out.block _ (by simp)).trans (res_new w _ _))
  have HF := Lib.hid (show Below w.heap.size w w3 from (below_alloc3 w _ _ _).trans (HB3.out.mono (below_alloc3 w _ _ _).size))
  have HLP := Lib.hid (FI_last (pts := pts) HN.out)
  have hw3 : w.heap.size ≤ w3.heap.size := HF.out.size
  clear HB3
  go_wp2
  go_region_law (first
    | (refine step_append_lies _ rfl (.tmp 38) (.tmp 41) _ rfl w3.heap.size 29 i0 _ 1 24 Try.underlying38 hi0 hz0 hz1 hz2' rfl (by omega) (.slice A 0 c4) 0 _ (by simp [Act.eval]) (HDx.out.kept (below_alloc1 _ _)).own ⟨w5.heap.size, 0, none⟩ 1 1 [.slice (some ⟨g5, 0, none⟩) m c5] (by simp [Act.eval]) (by simp) one_new (by simp [Value.oneCell']) (by omega) (by simp only [maxLen]; omega) (by omega) (Nat.le_trans HDx.out.bz (by simp)) _ rfl ?_; intro g6 cap6 w6 hown hgr hat hlt6; have HM6 := Lib.hid (HDx.out.more' (F := FI (ink ++ [pts])) (g := g5) (c := c5) hgb HNE.out (by rw [HLP.out]; exact HOx.out) (by rw [HLP.out, HMM.out]; exact hown) hgr); have HR6 := Lib.hid (HDx.out.aside hgr HRx.out); have r0 := (cell_of_block HR6.out 0).trans (show _ = some (Value.slice none 0 0) from rfl); have rf := unfrozen_of_block HR6.out; have rz := lt_of_cells HR6.out; have HU6 := Lib.hid (HFx.out.trans ((HDx.out.under (Below.refl _ _) hgr).mono hw3)); clear hown hgr hat)
    | (refine step_append_lies _ rfl (.tmp 38) (.tmp 41) _ rfl w3.heap.size 29 i0 _ 1 24 Try.underlying38 hi0 hz0 hz1 hz2' rfl (by omega) (.slice A 0 c4) 0 _ (by simp [Act.eval]) (HDx.out.kept (below_alloc1 _ _)).own ⟨w4.heap.size, 0, none⟩ 1 1 [.slice (some ⟨g5, 0, none⟩) m c5] (by simp [Act.eval]) (by simp) one_new (by simp [Value.oneCell']) (by omega) (by simp only [maxLen]; omega) (by omega) (Nat.le_trans HDx.out.bz (by simp)) _ rfl ?_; intro g6 cap6 w6 hown hgr hat hlt6; have HM6 := Lib.hid (HDx.out.more' (F := FI (ink ++ [pts])) (g := g5) (c := c5) hgb HNE.out (by rw [HLP.out]; exact HOx.out) (by rw [HLP.out, HMM.out]; exact hown) hgr); have HR6 := Lib.hid (HDx.out.aside hgr HRx.out); have r0 := (cell_of_block HR6.out 0).trans (show _ = some (Value.slice none 0 0) from rfl); have rf := unfrozen_of_block HR6.out; have rz := lt_of_cells HR6.out; have HU6 := Lib.hid (HFx.out.trans ((HDx.out.under (Below.refl _ _) hgr).mono hw3)); clear hown hgr hat)
    | (go_simp; go_at_call 69; refine (copyStrokes_calls (C := 0) (some ⟨G, 0, none⟩) 0 (FI (ink ++ [pts])) _ hcap HSR5.out).mono ?_; rintro e w4 ⟨A, c4, gs, cs, rfl, hbd, hb4⟩; have HDx := Lib.hid (hbd.mono (base' := w3.heap.size) hz35); have HOx := Lib.hid (HO5.out.same (hb4.block _ HO5.out.lt)); have HNE := Lib.hid (show ∀ i, i < 0 → gs i ≠ g5 from fun i hi => by have := (hbd.pts i hi).1; have := HO5.out.lt; omega); have HRx := Lib.hid ((hb4.block _ (lt_of_cells HR5.out)).trans HR5.out); have HFx := Lib.hid (HF5.out.trans (hb4.mono HF5.out.size)); have hgb : w3.heap.size ≤ g5 := hg5; clear hbd hb4)
    | (go_simp; go_at_call 69; refine (copyStrokes_calls (C := 0) (some ⟨G, 0, none⟩) 0 (FI (ink ++ [pts])) _ hcap (by exact HSR.out)).mono ?_; rintro e w4 ⟨A, c4, gs, cs, rfl, hbd, hb4⟩; have hb4' := undrew hb4; have HD4 := Lib.hid (show Building w3.heap.size w4 (.slice A 0 c4) 0 (FI (ink ++ [pts])) gs cs from hbd); have HQ4 := Lib.hid (HQ3.out.below hb4' hgz3); have hgz4 : g < w4.heap.size := Nat.lt_of_lt_of_le hgz3 hb4'.size; have b3 := (hb4'.cell (p := ⟨w.heap.size + 1, 0, none⟩) lz1').trans a3'; have lz14 : w.heap.size + 1 < w4.heap.size := Nat.lt_of_lt_of_le lz1' hb4'.size; have hz34 : w3.heap.size ≤ w4.heap.size := hb4'.size; have HR4 := Lib.hid ((hb4'.block _ (lt_of_cells HR.out)).trans HR.out); have HF4 := Lib.hid (HF.out.trans (hb4'.mono HF.out.size)); clear hbd hb4 hb4')
    | (go_simp; go_at_call 70; refine (copyStroke_calls (c := c) g m pts _ HMM.out hmm2 hcm hgz4 HQ4.out).mono ?_; rintro e w5 ⟨g5, c5, rfl, hg5, ho5, hb5⟩; have HDx := Lib.hid (HD4.out.kept hb5); have HOx := Lib.hid ho5; have HNE := Lib.hid (show ∀ i, i < 0 → gs i ≠ g5 from fun i hi => by have := (HD4.out.pts i hi).2.lt; omega); have HRx := Lib.hid ((hb5.block _ (lt_of_cells HR4.out)).trans HR4.out); have HFx := Lib.hid (HF4.out.trans (hb5.mono HF4.out.size)); have hgb : w3.heap.size ≤ g5 := Nat.le_trans hz34 hg5; clear ho5 hb5)
    | (go_simp; go_at_call 70; refine (copyStroke_calls (c := c) g m pts _ HMM.out hmm2 hcm (by exact hgz3) (by exact HQ3.out)).mono ?_; rintro e w5 ⟨g5, c5, rfl, hg5', ho5, hb5⟩; have hg5 : w3.heap.size ≤ g5 := hg5'; have hb5' := undrew hb5; have HO5 := Lib.hid ho5; have HSR5 := Lib.hid (HSR.out.below hb5'); have hz35 : w3.heap.size ≤ w5.heap.size := hb5'.size; have b2 := (hb5'.cell (p := ⟨w.heap.size, 0, none⟩) lz0').trans a2'; have lz05 : w.heap.size < w5.heap.size := Nat.lt_of_lt_of_le lz0' hb5'.size; have HR5 := Lib.hid ((hb5'.block _ (lt_of_cells HR.out)).trans HR.out); have HF5 := Lib.hid (HF.out.trans (hb5'.mono HF.out.size)); clear ho5 hb5 hb5' hg5'))
  all_goals
    go_wp2
    exact bodyPost_ret (v := .tuple #[.agg #[.slice (some ⟨g6, 0, none⟩) 1 cap6], .int .i64 0]) (by simp [results, Try.results37, go_sem, r0]) rfl
      ⟨_, cap6, rfl, ((HM6.out.set HR6.out _).mono hw3).ink, HU6.out.setCell (show w.heap.size ≤ w.heap.size + 1 + 1 by omega) _⟩

end Go.Proofs.Ytklfmlbokedbdaa.owned
