/-
  Proved: where a stroke can be added, the document's function adds it, and its answer lies in blocks of its own (contracts of a callee of the law on AddStroke).
  Conditions: the ink and the stroke lie in rows of their own.
-/
import Derived.Test.YtklfmlbokedbdaaAddSpec
namespace Go.Proofs.Ytklfmlbokedbdaa.owned
open Go.ChangeShapes Go.WideShapes Go.ChangeAt Go.RowKit Go.Joins
open Go.Proofs.Ytklfmlbokedbdaa.join Go.Proofs.Ytklfmlbokedbdaa.strokes Go.Proofs.Ytklfmlbokedbdaa.valid Go.Proofs.Ytklfmlbokedbdaa.inks Go.Proofs.Ytklfmlbokedbdaa.inkOk
open Go.Proofs.Ytklfmlbokedbdaa.count (vI_len)
set_option linter.unusedVariables false

set_option maxRecDepth 100000 in
set_option maxHeartbeats 4000000 in
theorem specAdd_some {c : Nat} (j : Nat) (G g m : Nat) (ink : List (List P3)) (pts : List P3) (w : World) (hn : ink.length = j + 1) (hcap : j + 1 ≤ 1048576) (hsm : ∀ q ∈ ink, q.length ≤ 1048576) (hm : pts.length = m) (hcm : m ≤ 1048576) (hg : G < w.heap.size) (hgm : g < w.heap.size) (hp : RowsFrom 0 w G ink) (hq : Pts w g pts) (hv : vI ink = true) (hs : vS pts = true) (h16 : j + 1 < 16) (hT : decide (firstT pts ≤ lastT (FI ink j)) = false) :
    Calls Try.prog 36 #[inkV G (j + 1), .agg #[.slice (some ⟨g, 0, none⟩) m c]] w fun e w' => ∃ A c', e = .returned (.tuple #[.agg #[.slice A (j + 1 + 1) c'], .int .i64 0]) ∧ OwnInk w.heap.size w'.heap.size w' A (j + 1 + 1) (FI (ink ++ [pts])) ∧ Below w.heap.size w w' := by
  obtain ⟨i0, hi0, hz0, hz1, hz2'⟩ := info_parts infoS
  have HN := Lib.hid hn
  have HMM := Lib.hid hm
  have HP := Lib.hid (hp.below (below_alloc3 w (.cells #[.slice (some ⟨G, 0, none⟩) (j + 1) (j + 1)] 40) (.cells #[.slice (some ⟨g, 0, none⟩) m c] 29) (.cells #[.slice none 0 0] 40)) hg)
  have HQ := Lib.hid (hq.below (below_alloc3 w (.cells #[.slice (some ⟨G, 0, none⟩) (j + 1) (j + 1)] 40) (.cells #[.slice (some ⟨g, 0, none⟩) m c] 29) (.cells #[.slice none 0 0] 40)) hgm)
  have HM := Lib.hid hsm
  have HV := Lib.hid hv
  have HS := Lib.hid hs
  clear hn hp hsm hm hq hv hs
  go_enter Try.func36, Try.ntmps36
  go_wp2_with fail
  refine (l02Ok_calls (C := j + 1) (o := 0) w.heap.size G (j + 1) ink _ HN.out hcap HM.out (by simp; omega) (by simp; omega) ((World.cell?_alloc_lt _ _ _ (by simp; omega)).trans (by simp)) HP.out).mono ?_
  rintro e w1 ⟨rfl, hb1⟩
  rw [HV.out]
  have hz1 := hb1.size
  simp at hz1
  have HB1 := Lib.hid hb1
  have s1 := (hb1.cell (p := ⟨w.heap.size + 1, 0, none⟩) (by simp)).trans (show _ = some (Value.slice (some ⟨g, 0, none⟩) m c) from (World.cell?_alloc_lt _ _ _ (by simp)).trans (by simp))
  clear hb1
  go_wp2_with fail
  refine (l02Stroke_calls (c := c) (o := 0) (w.heap.size + 1) g m pts _ HMM.out hcm (by omega) (by omega) s1 (HQ.out.below HB1.out (by simp; omega))).mono ?_
  rintro e w2 ⟨rfl, hb2⟩
  rw [HS.out]
  have HB2 := Lib.hid (HB1.out.trans (hb2.mono HB1.out.size))
  clear hb2 s1 HB1 hz1
  have hz2 := HB2.out.size
  simp at hz2
  have lz2 : w.heap.size + 1 + 1 < w2.heap.size := by omega
  have lz1 : w.heap.size + 1 < w2.heap.size := by omega
  have lz0 : w.heap.size < w2.heap.size := by omega
  have a2 := (HB2.out.cell (p := ⟨w.heap.size, 0, none⟩) (by simp; omega)).trans (show _ = some (Value.slice (some ⟨G, 0, none⟩) (j + 1) (j + 1)) from (World.cell?_alloc_lt _ _ _ (by simp; omega)).trans (by simp))
  have a3 := (HB2.out.cell (p := ⟨w.heap.size + 1, 0, none⟩) (by simp)).trans (show _ = some (Value.slice (some ⟨g, 0, none⟩) m c) from (World.cell?_alloc_lt _ _ _ (by simp)).trans (by simp))
  have HPZ := Lib.hid (HP.out.below HB2.out (by simp; omega))
  have HQZ := Lib.hid (HQ.out.below HB2.out (by simp; omega))
  have hGz : G < w2.heap.size := by omega
  have hgz : g < w2.heap.size := by omega
  have hjl : j < ink.length := by have := HN.out; omega
  have hjk := List.getElem?_eq_getElem hjl
  obtain ⟨gq, d, -, hgq, pq, hpq⟩ := HPZ.out j ink[j] hjk
  have hql := vI_len HV.out hjk
  rw [← FI_at hjk] at pq hpq hql
  generalize hqe : FI ink j = qts at pq hpq hql hT
  have HQE := Lib.hid hqe
  clear hqe hjk
  have hq1 := hql.1
  have hqm : qts.length ≤ 1048576 := by omega
  have HPQ := Lib.hid hpq
  clear hpq hql
  have hp1 := (vS_pos HS.out).1
  have hm1 : (0 : Int) < (m : Int) := by have := HMM.out; omega
  have hm2 : 0 < m := by have := HMM.out; omega
  have q1 := cell_kept (a := ⟨G, j, none⟩) hGz pq
  have q2 := cell_kept (a := ⟨g, 2, none⟩) hgz (first_cell HQZ.out hp1)
  have q3 := cell_kept (a := ⟨w.heap.size, 0, none⟩) lz0 a2
  have q4 := cell_kept (a := ⟨w.heap.size + 1, 0, none⟩) lz1 a3
  have e0 : (0 : Int) < ((j + 1 : Nat) : Int) := by omega
  have e1 : ((j + 1 : Nat) : Int) - 1 = (j : Int) := by omega
  have e2 : (j : Int) < ((j + 1 : Nat) : Int) := by omega
  have e5 : ¬ ((16 : Int) ≤ ((j + 1 : Nat) : Int)) := by omega
  generalize hft : firstT pts = ft at q2 hT
  have HFT := Lib.hid hft
  clear hft pq
  have hmx := mixed
  have hu : undef = Value.tuple #[] := rfl
  go_wp2
  refine wp_region_quiet_kept (by assumption) (by kernel_rfl) ?_
  repeat (first | go_big_quiet_step ((go_at_call 66; exact Calls.kept_of (l02Last_calls (c := d) (o := j) G gq qts.length qts _ rfl hq1 hqm (kept_lt hgq _) (kept_lt hGz _) (q1 _) (HPQ.out.below (Kept.below _) hgq)))) | quiet_step ((go_at_call 66; exact Calls.kept_of (l02Last_calls (c := d) (o := j) G gq qts.length qts _ rfl hq1 hqm (kept_lt hgq _) (kept_lt hGz _) (q1 _) (HPQ.out.below (Kept.below _) hgq)))))
  refine wpQuiet_nil ?_
  intro _ hw'
  obtain ⟨⟨w3, hb3⟩, hw''⟩ := hw'
  subst hw''
  have HB3 := Lib.hid (HB2.out.trans (hb3.mono HB2.out.size))
  have a2' := (hb3.cell (p := ⟨w.heap.size, 0, none⟩) lz0).trans a2
  have a3' := (hb3.cell (p := ⟨w.heap.size + 1, 0, none⟩) lz1).trans a3
  have lz2' : w.heap.size + 1 + 1 < _ := Nat.lt_of_lt_of_le lz2 hb3.size
  have lz1' : w.heap.size + 1 < _ := Nat.lt_of_lt_of_le lz1 hb3.size
  have lz0' : w.heap.size < _ := Nat.lt_of_lt_of_le lz0 hb3.size
  have hgz3 : g < _ := Nat.lt_of_lt_of_le hgz hb3.size
  have HQ3 := Lib.hid (HQZ.out.below hb3 hgz)
  have HSR := Lib.hid (src_of (jnk := ink ++ [pts]) HN.out HV.out (Nat.lt_of_lt_of_le hGz hb3.size) (HPZ.out.below hb3 hGz) (fun i hi => FI_app (by have := HN.out; omega)))
  have hmm := (vS_pos HS.out).1
  have hmm2 : 1 ≤ m := by have := HMM.out; omega
  clear hb3 q1 q2 q3 q4 e0 e1 e2 HB2 a2 a3
  have HR := Lib.hid ((HB3.out.block _ (by simp)).trans (res_new w _ _))
  have HF := Lib.hid ((below_alloc3 w _ _ _).trans (HB3.out.mono (below_alloc3 w _ _ _).size))
  have HLP := Lib.hid (FI_last (pts := pts) HN.out)
  go_wp2_with fail
  refine (l02Own_calls (o := 0) (C := (j + 1)) w.heap.size (j + 1) (some ⟨G, 0, none⟩) (FI (ink ++ [pts])) _ hcap lz0' a2' HSR.out).mono ?_
  rintro e w4 ⟨A, c4, gs, cs, rfl, hbd, hb4⟩
  have HD := Lib.hid hbd
  have b3' := (hb4.cell (p := ⟨w.heap.size + 1, 0, none⟩) lz1').trans a3'
  have HR4 := Lib.hid ((hb4.block _ lz2').trans HR.out)
  have hz4 := hb4.size
  have lz24 : w.heap.size + 1 + 1 < w4.heap.size := Nat.lt_of_lt_of_le lz2' hz4
  have lz14 : w.heap.size + 1 < w4.heap.size := Nat.lt_of_lt_of_le lz1' hz4
  have hgz4 : g < w4.heap.size := Nat.lt_of_lt_of_le hgz3 hz4
  have HQ4 := Lib.hid (HQ3.out.below hb4 hgz3)
  have HF4 := Lib.hid (HF.out.trans (hb4.mono HF.out.size))
  have hw3 : w.heap.size ≤ _ := HF.out.size
  clear hbd hb4 HR HF HQ3 HSR a2' a3' HB3
  go_wp2
  go_region_law (first
    | (refine step_append_lies _ rfl (.tmp 40) (.tmp 42) _ rfl _ 29 i0 _ 1 24 Try.underlying38 hi0 hz0 hz1 hz2' rfl (by omega) (.slice A (j + 1) c4) (j + 1) _ (by simp [Act.eval]) (HD2.out.kept (below_alloc1 _ _)).own ⟨w5.heap.size, 0, none⟩ 1 1 [.slice (some ⟨g5, 0, none⟩) m c5] (by simp [Act.eval]) (by simp) one_new (by simp [Value.oneCell']) (by omega) (by simp only [maxLen]; omega) (by omega) (Nat.le_trans HD2.out.bz (by simp)) _ rfl ?_; intro g6 cap6 w6 hown hgr hat hlt6; have HM6 := Lib.hid (HD2.out.more' (F := FI (ink ++ [pts])) (g := g5) (c := c5) (by have := HD.out.bz; omega) (fun i hi => by have := (HD.out.pts i hi).2.lt; omega) (by rw [HLP.out]; exact HO5.out) (by rw [HLP.out, HMM.out]; exact hown) hgr); have HT6 := Lib.hid (HD2.out.aside hgr HT5.out); have HR6 := Lib.hid (HD2.out.aside hgr HR5.out); have k0 := (cell_of_block HT6.out 0).trans (show _ = some (Value.slice A (j + 1) c4) from rfl); have kf := unfrozen_of_block HT6.out; have kz := lt_of_cells HT6.out; have r0 := (cell_of_block HR6.out 0).trans (show _ = some (Value.slice none 0 0) from rfl); have rf := unfrozen_of_block HR6.out; have rz := lt_of_cells HR6.out; have HU6 := Lib.hid (HF5.out.trans ((HD2.out.under (Below.refl _ _) hgr).mono hw3)); clear hown hgr hat)
    | (go_simp; go_at_call 68; refine (l02OwnStroke_calls (c := c) (o := 0) (w.heap.size + 1) g m pts _ HMM.out hmm2 hcm (by simp; omega) (by simp; omega) (by first | exact b3' | exact (World.cell?_alloc_lt w4 _ _ lz14).trans b3') (by exact HQ4.out.below (below_alloc1 w4 _).drew hgz4)).mono ?_; rintro e w5 ⟨g5, c5, rfl, hg5, ho5, hb5⟩; simp at hg5; have HO5 := Lib.hid ho5; have HD2 := Lib.hid ((HD.out.kept (below_alloc1 w4 (.cells #[.slice A (j + 1) c4] 40))).kept (show Below (w4.alloc (.cells #[.slice A (j + 1) c4] 40)).heap.size (w4.alloc (.cells #[.slice A (j + 1) c4] 40)) w5 from ⟨hb5.os, hb5.tape, hb5.output, hb5.size, hb5.block⟩)); have HT5 := Lib.hid ((hb5.block w4.heap.size (by simp)).trans (show _ = some (Obj.cells #[.slice A (j + 1) c4] 40 (0, 0)) from heap_alloc_new w4 _)); have HR5 := Lib.hid ((hb5.block (w.heap.size + 1 + 1) (by simp; omega)).trans ((Below.heap_alloc w4 _ _ lz24).trans HR4.out)); have HF5 := Lib.hid (HF4.out.trans (((below_alloc1 w4 _).trans (show Below w4.heap.size (w4.alloc (.cells #[.slice A (j + 1) c4] 40)) w5 from ⟨hb5.os, hb5.tape, hb5.output, hb5.size, fun k hk => hb5.block k (by simp; omega)⟩)).mono HF4.out.size)); have t0 := (cell_of_block HT5.out 0).trans (show _ = some (Value.slice A (j + 1) c4) from rfl); have tz := lt_of_cells HT5.out; clear hb5 ho5))
  all_goals
    have hne : w.heap.size + 1 + 1 ≠ w4.heap.size := by omega
    go_wp2
    exact bodyPost_ret (v := .tuple #[.agg #[.slice (some ⟨g6, 0, none⟩) ((j + 1) + 1) cap6], .int .i64 0]) (by simp [results, Try.results36, go_sem, r0]) rfl
      ⟨_, cap6, rfl, (((HM6.out.set HT6.out _).set (by rw [Below.heap_setCell _ _ _ _ (by simp only; omega)]; exact HR6.out) _).mono hw3).ink,
        (HU6.out.setCell (show w.heap.size ≤ w4.heap.size by omega) _).setCell (show w.heap.size ≤ w.heap.size + 1 + 1 by omega) _⟩

set_option maxRecDepth 100000 in
set_option maxHeartbeats 4000000 in
theorem specAdd_zero {c : Nat} (G g m : Nat) (ink : List (List P3)) (pts : List P3) (w : World) (hn : ink.length = 0) (hcap : 0 ≤ 1048576) (hsm : ∀ q ∈ ink, q.length ≤ 1048576) (hm : pts.length = m) (hcm : m ≤ 1048576) (hg : G < w.heap.size) (hgm : g < w.heap.size) (hp : RowsFrom 0 w G ink) (hq : Pts w g pts) (hv : vI ink = true) (hs : vS pts = true)  :
    Calls Try.prog 36 #[inkV G 0, .agg #[.slice (some ⟨g, 0, none⟩) m c]] w fun e w' => ∃ A c', e = .returned (.tuple #[.agg #[.slice A 1 c'], .int .i64 0]) ∧ OwnInk w.heap.size w'.heap.size w' A 1 (FI (ink ++ [pts])) ∧ Below w.heap.size w w' := by
  obtain ⟨i0, hi0, hz0, hz1, hz2'⟩ := info_parts infoS
  have HN := Lib.hid hn
  have HMM := Lib.hid hm
  have HP := Lib.hid (hp.below (below_alloc3 w (.cells #[.slice (some ⟨G, 0, none⟩) 0 0] 40) (.cells #[.slice (some ⟨g, 0, none⟩) m c] 29) (.cells #[.slice none 0 0] 40)) hg)
  have HQ := Lib.hid (hq.below (below_alloc3 w (.cells #[.slice (some ⟨G, 0, none⟩) 0 0] 40) (.cells #[.slice (some ⟨g, 0, none⟩) m c] 29) (.cells #[.slice none 0 0] 40)) hgm)
  have HM := Lib.hid hsm
  have HV := Lib.hid hv
  have HS := Lib.hid hs
  clear hn hp hsm hm hq hv hs
  go_enter Try.func36, Try.ntmps36
  go_wp2_with fail
  refine (l02Ok_calls (C := 0) (o := 0) w.heap.size G 0 ink _ HN.out hcap HM.out (by simp; omega) (by simp; omega) ((World.cell?_alloc_lt _ _ _ (by simp; omega)).trans (by simp)) HP.out).mono ?_
  rintro e w1 ⟨rfl, hb1⟩
  rw [HV.out]
  have hz1 := hb1.size
  simp at hz1
  have HB1 := Lib.hid hb1
  have s1 := (hb1.cell (p := ⟨w.heap.size + 1, 0, none⟩) (by simp)).trans (show _ = some (Value.slice (some ⟨g, 0, none⟩) m c) from (World.cell?_alloc_lt _ _ _ (by simp)).trans (by simp))
  clear hb1
  go_wp2_with fail
  refine (l02Stroke_calls (c := c) (o := 0) (w.heap.size + 1) g m pts _ HMM.out hcm (by omega) (by omega) s1 (HQ.out.below HB1.out (by simp; omega))).mono ?_
  rintro e w2 ⟨rfl, hb2⟩
  rw [HS.out]
  have HB2 := Lib.hid (HB1.out.trans (hb2.mono HB1.out.size))
  clear hb2 s1 HB1 hz1
  have hz2 := HB2.out.size
  simp at hz2
  have lz2 : w.heap.size + 1 + 1 < w2.heap.size := by omega
  have lz1 : w.heap.size + 1 < w2.heap.size := by omega
  have lz0 : w.heap.size < w2.heap.size := by omega
  have a2 := (HB2.out.cell (p := ⟨w.heap.size, 0, none⟩) (by simp; omega)).trans (show _ = some (Value.slice (some ⟨G, 0, none⟩) 0 0) from (World.cell?_alloc_lt _ _ _ (by simp; omega)).trans (by simp))
  have a3 := (HB2.out.cell (p := ⟨w.heap.size + 1, 0, none⟩) (by simp)).trans (show _ = some (Value.slice (some ⟨g, 0, none⟩) m c) from (World.cell?_alloc_lt _ _ _ (by simp)).trans (by simp))
  have HPZ := Lib.hid (HP.out.below HB2.out (by simp; omega))
  have HQZ := Lib.hid (HQ.out.below HB2.out (by simp; omega))
  have hGz : G < w2.heap.size := by omega
  have hgz : g < w2.heap.size := by omega
  have hp1 := (vS_pos HS.out).1
  have q3 := cell_kept (a := ⟨w.heap.size, 0, none⟩) lz0 a2
  have q4 := cell_kept (a := ⟨w.heap.size + 1, 0, none⟩) lz1 a3
  have hmx := mixed
  have hu : undef = Value.tuple #[] := rfl
  go_wp2
  refine wp_region_quiet_kept (by assumption) (by kernel_rfl) ?_
  repeat (first | go_big_quiet_step (fail) | quiet_step (fail))
  refine wpQuiet_nil ?_
  intro _ hw'
  obtain ⟨⟨w3, hb3⟩, hw''⟩ := hw'
  subst hw''
  have HB3 := Lib.hid (HB2.out.trans (hb3.mono HB2.out.size))
  have a2' := (hb3.cell (p := ⟨w.heap.size, 0, none⟩) lz0).trans a2
  have a3' := (hb3.cell (p := ⟨w.heap.size + 1, 0, none⟩) lz1).trans a3
  have lz2' : w.heap.size + 1 + 1 < _ := Nat.lt_of_lt_of_le lz2 hb3.size
  have lz1' : w.heap.size + 1 < _ := Nat.lt_of_lt_of_le lz1 hb3.size
  have lz0' : w.heap.size < _ := Nat.lt_of_lt_of_le lz0 hb3.size
  have hgz3 : g < _ := Nat.lt_of_lt_of_le hgz hb3.size
  have HQ3 := Lib.hid (HQZ.out.below hb3 hgz)
  have HSR := Lib.hid (src_of (jnk := ink ++ [pts]) HN.out HV.out (Nat.lt_of_lt_of_le hGz hb3.size) (HPZ.out.below hb3 hGz) (fun i hi => FI_app (by have := HN.out; omega)))
  have hmm := (vS_pos HS.out).1
  have hmm2 : 1 ≤ m := by have := HMM.out; omega
  clear hb3 q3 q4 HB2 a2 a3
  have HR := Lib.hid ((HB3.out.block _ (by simp)).trans (res_new w _ _))
  have HF := Lib.hid ((below_alloc3 w _ _ _).trans (HB3.out.mono (below_alloc3 w _ _ _).size))
  have HLP := Lib.hid (FI_last (pts := pts) HN.out)
  go_wp2_with fail
  refine (l02Own_calls (o := 0) (C := 0) w.heap.size 0 (some ⟨G, 0, none⟩) (FI (ink ++ [pts])) _ hcap lz0' a2' HSR.out).mono ?_
  rintro e w4 ⟨A, c4, gs, cs, rfl, hbd, hb4⟩
  have HD := Lib.hid hbd
  have b3' := (hb4.cell (p := ⟨w.heap.size + 1, 0, none⟩) lz1').trans a3'
  have HR4 := Lib.hid ((hb4.block _ lz2').trans HR.out)
  have hz4 := hb4.size
  have lz24 : w.heap.size + 1 + 1 < w4.heap.size := Nat.lt_of_lt_of_le lz2' hz4
  have lz14 : w.heap.size + 1 < w4.heap.size := Nat.lt_of_lt_of_le lz1' hz4
  have hgz4 : g < w4.heap.size := Nat.lt_of_lt_of_le hgz3 hz4
  have HQ4 := Lib.hid (HQ3.out.below hb4 hgz3)
  have HF4 := Lib.hid (HF.out.trans (hb4.mono HF.out.size))
  have hw3 : w.heap.size ≤ _ := HF.out.size
  clear hbd hb4 HR HF HQ3 HSR a2' a3' HB3
  go_wp2
  go_region_law (first
    | (refine step_append_lies _ rfl (.tmp 40) (.tmp 42) _ rfl _ 29 i0 _ 1 24 Try.underlying38 hi0 hz0 hz1 hz2' rfl (by omega) (.slice A 0 c4) 0 _ (by simp [Act.eval]) (HD2.out.kept (below_alloc1 _ _)).own ⟨w5.heap.size, 0, none⟩ 1 1 [.slice (some ⟨g5, 0, none⟩) m c5] (by simp [Act.eval]) (by simp) one_new (by simp [Value.oneCell']) (by omega) (by simp only [maxLen]; omega) (by omega) (Nat.le_trans HD2.out.bz (by simp)) _ rfl ?_; intro g6 cap6 w6 hown hgr hat hlt6; have HM6 := Lib.hid (HD2.out.more' (F := FI (ink ++ [pts])) (g := g5) (c := c5) (by have := HD.out.bz; omega) (fun i hi => by have := (HD.out.pts i hi).2.lt; omega) (by rw [HLP.out]; exact HO5.out) (by rw [HLP.out, HMM.out]; exact hown) hgr); have HT6 := Lib.hid (HD2.out.aside hgr HT5.out); have HR6 := Lib.hid (HD2.out.aside hgr HR5.out); have k0 := (cell_of_block HT6.out 0).trans (show _ = some (Value.slice A 0 c4) from rfl); have kf := unfrozen_of_block HT6.out; have kz := lt_of_cells HT6.out; have r0 := (cell_of_block HR6.out 0).trans (show _ = some (Value.slice none 0 0) from rfl); have rf := unfrozen_of_block HR6.out; have rz := lt_of_cells HR6.out; have HU6 := Lib.hid (HF5.out.trans ((HD2.out.under (Below.refl _ _) hgr).mono hw3)); clear hown hgr hat)
    | (go_simp; go_at_call 68; refine (l02OwnStroke_calls (c := c) (o := 0) (w.heap.size + 1) g m pts _ HMM.out hmm2 hcm (by simp; omega) (by simp; omega) (by first | exact b3' | exact (World.cell?_alloc_lt w4 _ _ lz14).trans b3') (by exact HQ4.out.below (below_alloc1 w4 _).drew hgz4)).mono ?_; rintro e w5 ⟨g5, c5, rfl, hg5, ho5, hb5⟩; simp at hg5; have HO5 := Lib.hid ho5; have HD2 := Lib.hid ((HD.out.kept (below_alloc1 w4 (.cells #[.slice A 0 c4] 40))).kept (show Below (w4.alloc (.cells #[.slice A 0 c4] 40)).heap.size (w4.alloc (.cells #[.slice A 0 c4] 40)) w5 from ⟨hb5.os, hb5.tape, hb5.output, hb5.size, hb5.block⟩)); have HT5 := Lib.hid ((hb5.block w4.heap.size (by simp)).trans (show _ = some (Obj.cells #[.slice A 0 c4] 40 (0, 0)) from heap_alloc_new w4 _)); have HR5 := Lib.hid ((hb5.block (w.heap.size + 1 + 1) (by simp; omega)).trans ((Below.heap_alloc w4 _ _ lz24).trans HR4.out)); have HF5 := Lib.hid (HF4.out.trans (((below_alloc1 w4 _).trans (show Below w4.heap.size (w4.alloc (.cells #[.slice A 0 c4] 40)) w5 from ⟨hb5.os, hb5.tape, hb5.output, hb5.size, fun k hk => hb5.block k (by simp; omega)⟩)).mono HF4.out.size)); have t0 := (cell_of_block HT5.out 0).trans (show _ = some (Value.slice A 0 c4) from rfl); have tz := lt_of_cells HT5.out; clear hb5 ho5))
  all_goals
    have hne : w.heap.size + 1 + 1 ≠ w4.heap.size := by omega
    go_wp2
    exact bodyPost_ret (v := .tuple #[.agg #[.slice (some ⟨g6, 0, none⟩) 1 cap6], .int .i64 0]) (by simp [results, Try.results36, go_sem, r0]) rfl
      ⟨_, cap6, rfl, (((HM6.out.set HT6.out _).set (by rw [Below.heap_setCell _ _ _ _ (by simp only; omega)]; exact HR6.out) _).mono hw3).ink,
        (HU6.out.setCell (show w.heap.size ≤ w4.heap.size by omega) _).setCell (show w.heap.size ≤ w.heap.size + 1 + 1 by omega) _⟩

end Go.Proofs.Ytklfmlbokedbdaa.owned
