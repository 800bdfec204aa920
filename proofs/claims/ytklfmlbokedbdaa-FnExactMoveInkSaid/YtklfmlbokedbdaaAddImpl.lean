/-
  Proved: where a stroke can't be added, the program's function answers as the document's definition (contracts of a callee of the law on AddStroke).
  Conditions: the ink and the stroke lie in rows of their own.
-/
import Derived.Test.YtklfmlbokedbdaaAddSpec
namespace Go.Proofs.Ytklfmlbokedbdaa.owned
open Go.ChangeShapes Go.WideShapes Go.ChangeAt Go.RowKit Go.Joins
open Go.Proofs.Ytklfmlbokedbdaa.join Go.Proofs.Ytklfmlbokedbdaa.strokes Go.Proofs.Ytklfmlbokedbdaa.valid Go.Proofs.Ytklfmlbokedbdaa.inks Go.Proofs.Ytklfmlbokedbdaa.inkOk
open Go.Proofs.Ytklfmlbokedbdaa.count (vI_len)
set_option linter.unusedVariables false

set_option maxHeartbeats 2000000 in
theorem implAdd_bad1 {c : Nat} (G n g m : Nat) (ink : List (List P3)) (w : World) (hn : ink.length = n) (hcap : n ≤ 1048576) (hsm : ∀ q ∈ ink, q.length ≤ 1048576) (hg : G < w.heap.size) (hp : RowsFrom 0 w G ink) (hv : vI ink = false) :
    Calls Try.prog 37 #[inkV G n, .agg #[.slice (some ⟨g, 0, none⟩) m c]] w fun e w' => e = .returned (.tuple #[.agg #[.slice none 0 0], .int .i64 1]) ∧ Below w.heap.size w w' := by
  have HN := Lib.hid hn
  have HP := Lib.hid (hp.below (below_alloc3 w (.cells #[.slice (some ⟨G, 0, none⟩) n n] 40) (.cells #[.slice (some ⟨g, 0, none⟩) m c] 29) (.cells #[.slice none 0 0] 40)) hg)
  have HM := Lib.hid hsm
  clear hn hp hsm
  go_enter Try.func37, Try.ntmps37
  go_wp2_with fail
  refine (implValidInk_calls G n ink _ HN.out hcap HM.out (by simp; omega) HP.out).mono ?_
  rintro e w1 ⟨rfl, hb1⟩
  rw [hv]
  obtain ⟨hc1, hf1⟩ := old hb1
  have hz1 := hb1.size
  simp at hz1
  have lz : w.heap.size + 1 + 1 < w1.heap.size := by omega
  have HB := Lib.hid ((below_alloc3 w _ _ _).trans (hb1.mono (below_alloc3 w _ _ _).size))
  clear hb1
  go_wp2
  exact bodyPost_ret (v := .tuple #[.agg #[.slice none 0 0], .int .i64 1]) (by simp [results, Try.results37, go_sem, hc1]) rfl ⟨rfl, HB.out.setCell (show w.heap.size ≤ w.heap.size + 1 + 1 by omega) _⟩

set_option maxHeartbeats 2000000 in
theorem implAdd_bad2 {c : Nat} (G n g m : Nat) (ink : List (List P3)) (pts : List P3) (w : World) (hn : ink.length = n) (hcap : n ≤ 1048576) (hsm : ∀ q ∈ ink, q.length ≤ 1048576) (hm : pts.length = m) (hcm : m ≤ 1048576) (hg : G < w.heap.size) (hgm : g < w.heap.size) (hp : RowsFrom 0 w G ink) (hq : Pts w g pts) (hv : vI ink = true) (hs : vS pts = false) :
    Calls Try.prog 37 #[inkV G n, .agg #[.slice (some ⟨g, 0, none⟩) m c]] w fun e w' => e = .returned (.tuple #[.agg #[.slice none 0 0], .int .i64 1]) ∧ Below w.heap.size w w' := by
  have HN := Lib.hid hn
  have HMM := Lib.hid hm
  have HP := Lib.hid (hp.below (below_alloc3 w (.cells #[.slice (some ⟨G, 0, none⟩) n n] 40) (.cells #[.slice (some ⟨g, 0, none⟩) m c] 29) (.cells #[.slice none 0 0] 40)) hg)
  have HQ := Lib.hid (hq.below (below_alloc3 w (.cells #[.slice (some ⟨G, 0, none⟩) n n] 40) (.cells #[.slice (some ⟨g, 0, none⟩) m c] 29) (.cells #[.slice none 0 0] 40)) hgm)
  have HM := Lib.hid hsm
  have HV := Lib.hid hv
  have HS := Lib.hid hs
  clear hn hp hsm hm hq hv hs
  go_enter Try.func37, Try.ntmps37
  go_wp2_with fail
  refine (implValidInk_calls G n ink _ HN.out hcap HM.out (by simp; omega) HP.out).mono ?_
  rintro e w1 ⟨rfl, hb1⟩
  rw [HV.out]
  have hz1 := hb1.size
  simp at hz1
  have HB1 := Lib.hid hb1
  have lza : w.heap.size + 1 < w1.heap.size := by omega
  have s1 := (hb1.cell (p := ⟨w.heap.size + 1, 0, none⟩) (by simp)).trans (show _ = some (Value.slice (some ⟨g, 0, none⟩) m c) from (World.cell?_alloc_lt _ _ _ (by simp)).trans (by simp))
  clear hb1
  go_wp2_with fail
  refine (implValid_calls (c := c) g m pts _ HMM.out hcm (by omega) (HQ.out.below HB1.out (by simp; omega))).mono ?_
  rintro e w2 ⟨rfl, hb2⟩
  rw [HS.out]
  have HB2 := Lib.hid (HB1.out.trans (hb2.mono HB1.out.size))
  clear hb2 s1 HB1 hz1
  have hz2 := HB2.out.size
  simp at hz2
  have lz2 : w.heap.size + 1 + 1 < w2.heap.size := by omega
  have lz1 : w.heap.size + 1 < w2.heap.size := by omega
  have lz0 : w.heap.size < w2.heap.size := by omega
  have HR := Lib.hid (show w2.heap[w.heap.size + 1 + 1]? = some (.cells #[.slice none 0 0] 40 (0, 0)) from (HB2.out.block _ (by simp)).trans (res_new w _ _))
  have r0 : w2.cell? ⟨w.heap.size + 1 + 1, 0, none⟩ = some (.slice none 0 0) := by rw [cell_of_block HR.out]; rfl
  have rf := unfrozen_of_block HR.out
  have HF := Lib.hid ((below_alloc3 w _ _ _).trans (HB2.out.mono (below_alloc3 w _ _ _).size))
  go_wp2
  exact bodyPost_ret (v := .tuple #[.agg #[.slice none 0 0], .int .i64 1]) (by simp [results, Try.results37, go_sem, r0]) rfl ⟨rfl, HF.out.setCell (show w.heap.size ≤ w.heap.size + 1 + 1 by omega) _⟩

set_option maxHeartbeats 2000000 in
theorem implAdd_full {c : Nat} (G g m : Nat) (ink : List (List P3)) (pts : List P3) (w : World) (hn : ink.length = 16) (hsm : ∀ q ∈ ink, q.length ≤ 1048576) (hm : pts.length = m) (hcm : m ≤ 1048576) (hg : G < w.heap.size) (hgm : g < w.heap.size) (hp : RowsFrom 0 w G ink) (hq : Pts w g pts) (hv : vI ink = true) (hs : vS pts = true) :
    Calls Try.prog 37 #[inkV G 16, .agg #[.slice (some ⟨g, 0, none⟩) m c]] w fun e w' => e = .returned (.tuple #[.agg #[.slice none 0 0], .int .i64 5]) ∧ Below w.heap.size w w' := by
  have hcap : 16 ≤ 1048576 := by omega
  have HN := Lib.hid hn
  have HMM := Lib.hid hm
  have HP := Lib.hid (hp.below (below_alloc3 w (.cells #[.slice (some ⟨G, 0, none⟩) 16 16] 40) (.cells #[.slice (some ⟨g, 0, none⟩) m c] 29) (.cells #[.slice none 0 0] 40)) hg)
  have HQ := Lib.hid (hq.below (below_alloc3 w (.cells #[.slice (some ⟨G, 0, none⟩) 16 16] 40) (.cells #[.slice (some ⟨g, 0, none⟩) m c] 29) (.cells #[.slice none 0 0] 40)) hgm)
  have HM := Lib.hid hsm
  have HV := Lib.hid hv
  have HS := Lib.hid hs
  clear hn hp hsm hm hq hv hs
  go_enter Try.func37, Try.ntmps37
  go_wp2_with fail
  refine (implValidInk_calls G 16 ink _ HN.out hcap HM.out (by simp; omega) HP.out).mono ?_
  rintro e w1 ⟨rfl, hb1⟩
  rw [HV.out]
  have hz1 := hb1.size
  simp at hz1
  have HB1 := Lib.hid hb1
  have lza : w.heap.size + 1 < w1.heap.size := by omega
  have s1 := (hb1.cell (p := ⟨w.heap.size + 1, 0, none⟩) (by simp)).trans (show _ = some (Value.slice (some ⟨g, 0, none⟩) m c) from (World.cell?_alloc_lt _ _ _ (by simp)).trans (by simp))
  clear hb1
  go_wp2_with fail
  refine (implValid_calls (c := c) g m pts _ HMM.out hcm (by omega) (HQ.out.below HB1.out (by simp; omega))).mono ?_
  rintro e w2 ⟨rfl, hb2⟩
  rw [HS.out]
  have HB2 := Lib.hid (HB1.out.trans (hb2.mono HB1.out.size))
  clear hb2 s1 HB1 hz1
  have hz2 := HB2.out.size
  simp at hz2
  have lz2 : w.heap.size + 1 + 1 < w2.heap.size := by omega
  have lz1 : w.heap.size + 1 < w2.heap.size := by omega
  have lz0 : w.heap.size < w2.heap.size := by omega
  have HR := Lib.hid (show w2.heap[w.heap.size + 1 + 1]? = some (.cells #[.slice none 0 0] 40 (0, 0)) from (HB2.out.block _ (by simp)).trans (res_new w _ _))
  have r0 : w2.cell? ⟨w.heap.size + 1 + 1, 0, none⟩ = some (.slice none 0 0) := by rw [cell_of_block HR.out]; rfl
  have rf := unfrozen_of_block HR.out
  have a2 := (HB2.out.cell (p := ⟨w.heap.size, 0, none⟩) (by simp; omega)).trans (show _ = some (Value.slice (some ⟨G, 0, none⟩) 16 16) from (World.cell?_alloc_lt _ _ _ (by simp; omega)).trans (by simp))
  have a3 := (HB2.out.cell (p := ⟨w.heap.size + 1, 0, none⟩) (by simp)).trans (show _ = some (Value.slice (some ⟨g, 0, none⟩) m c) from (World.cell?_alloc_lt _ _ _ (by simp)).trans (by simp))
  have HF := Lib.hid ((below_alloc3 w _ _ _).trans (HB2.out.mono (below_alloc3 w _ _ _).size))
  go_wp2
  exact bodyPost_ret (v := .tuple #[.agg #[.slice none 0 0], .int .i64 5]) (by simp [results, Try.results37, go_sem, r0]) rfl ⟨rfl, HF.out.setCell (show w.heap.size ≤ w.heap.size + 1 + 1 by omega) _⟩

set_option maxRecDepth 100000 in
set_option maxHeartbeats 4000000 in
theorem implAdd_state {c : Nat} (j : Nat) (G g m : Nat) (ink : List (List P3)) (pts : List P3) (w : World) (hn : ink.length = j + 1) (hcap : j + 1 ≤ 1048576) (hsm : ∀ q ∈ ink, q.length ≤ 1048576) (hm : pts.length = m) (hcm : m ≤ 1048576) (hg : G < w.heap.size) (hgm : g < w.heap.size) (hp : RowsFrom 0 w G ink) (hq : Pts w g pts) (hv : vI ink = true) (hs : vS pts = true) (h16 : j + 1 < 16) (hT : decide (lastT (FI ink j) < firstT pts) = false) :
    Calls Try.prog 37 #[inkV G (j + 1), .agg #[.slice (some ⟨g, 0, none⟩) m c]] w fun e w' => e = .returned (.tuple #[.agg #[.slice none 0 0], .int .i64 6]) ∧ Below w.heap.size w w' := by
  have HN := Lib.hid hn
  have HMM := Lib.hid hm
  have HP := Lib.hid (hp.below (below_alloc3 w (.cells #[.slice (some ⟨G, 0, none⟩) (j + 1) (j + 1)] 40) (.cells #[.slice (some ⟨g, 0, none⟩) m c] 29) (.cells #[.slice none 0 0] 40)) hg)
  have HQ := Lib.hid (hq.below (below_alloc3 w (.cells #[.slice (some ⟨G, 0, none⟩) (j + 1) (j + 1)] 40) (.cells #[.slice (some ⟨g, 0, none⟩) m c] 29) (.cells #[.slice none 0 0] 40)) hgm)
  have HM := Lib.hid hsm
  have HV := Lib.hid hv
  have HS := Lib.hid hs
  clear hn hp hsm hm hq hv hs
  go_enter Try.func37, Try.ntmps37
  go_wp2_with fail
  refine (implValidInk_calls G (j + 1) ink _ HN.out hcap HM.out (by simp; omega) HP.out).mono ?_
  rintro e w1 ⟨rfl, hb1⟩
  rw [HV.out]
  have hz1 := hb1.size
  simp at hz1
  have HB1 := Lib.hid hb1
  have lza : w.heap.size + 1 < w1.heap.size := by omega
  have s1 := (hb1.cell (p := ⟨w.heap.size + 1, 0, none⟩) (by simp)).trans (show _ = some (Value.slice (some ⟨g, 0, none⟩) m c) from (World.cell?_alloc_lt _ _ _ (by simp)).trans (by simp))
  clear hb1
  go_wp2_with fail
  refine (implValid_calls (c := c) g m pts _ HMM.out hcm (by omega) (HQ.out.below HB1.out (by simp; omega))).mono ?_
  rintro e w2 ⟨rfl, hb2⟩
  rw [HS.out]
  have HB2 := Lib.hid (HB1.out.trans (hb2.mono HB1.out.size))
  clear hb2 s1 HB1 hz1
  have hz2 := HB2.out.size
  simp at hz2
  have lz2 : w.heap.size + 1 + 1 < w2.heap.size := by omega
  have lz1 : w.heap.size + 1 < w2.heap.size := by omega
  have lz0 : w.heap.size < w2.heap.size := by omega
  have a2 := (HB2.out.cell (p := ⟨w.heap.size, 0, none⟩) (by simp; omega)).trans (show _ = some (Value.slice (some ⟨G, 0, none⟩) (j + 1) (j + 1)) from (World.cell?_alloc_lt _ _ _ (by simp; omega)).trans (by simp))
  have a3 := (HB2.out.cell (p := ⟨w.heap.size + 1, 0, none⟩) (by simp)).trans (show _ = some (Value.slice (some ⟨g, 0, none⟩) m c) from (World.cell?_alloc_lt _ _ _ (by simp)).trans (by simp))
  have HPZ := Lib.hid (HP.out.below HB2.out (by simp; omega))
  have HQZ := Lib.hid (HQ.out.below HB2.out (by simp; omega))
  have hGz : G < w2.heap.size := by omega
  have hgz : g < w2.heap.size := by omega
  have hjl : j < ink.length := by have := HN.out; omega
  have hjk := List.getElem?_eq_getElem hjl
  obtain ⟨gq, d, -, hgq, pq, hpq⟩ := HPZ.out j ink[j] hjk
  have hql := vI_len HV.out hjk
  rw [← FI_at hjk] at pq hpq hql
  generalize hqe : FI ink j = qts at pq hpq hql hT
  have HQE := Lib.hid hqe
  clear hqe hjk
  have hq1 := hql.1
  have hqm : qts.length ≤ 1048576 := by omega
  have HPQ := Lib.hid hpq
  clear hpq hql
  have hp1 := (vS_pos HS.out).1
  have hm1 : (0 : Int) < (m : Int) := by have := HMM.out; omega
  have hm2 : 0 < m := by have := HMM.out; omega
  have q1 := cell_kept (a := ⟨G, j, none⟩) hGz pq
  have q3 := cell_kept (a := ⟨w.heap.size, 0, none⟩) lz0 a2
  have q4 := cell_kept (a := ⟨w.heap.size + 1, 0, none⟩) lz1 a3
  have e0 : (0 : Int) < ((j + 1 : Nat) : Int) := by omega
  have e1 : ((j + 1 : Nat) : Int) - 1 = (j : Int) := by omega
  have e2 : (j : Int) < ((j + 1 : Nat) : Int) := by omega
  have e5 : ¬ (((j + 1 : Nat) : Int) = 16) := by omega
  have HT := Lib.hid hT
  clear hT pq
  have hmx := mixed
  have hu : undef = Value.tuple #[] := rfl
  go_wp2
  refine wp_region_quiet_kept (by assumption) (by kernel_rfl) ?_
  repeat (first | go_big_quiet_step ((go_at_call 55; exact Calls.kept_of ((later_calls (c := c) (c' := d) g m gq qts.length pts qts _ HMM.out hm2 hcm rfl hq1 hqm (kept_lt hgz _) (kept_lt hgq _) (HQZ.out.below (Kept.below _) hgz) (HPQ.out.below (Kept.below _) hgq)).mono fun _ _ ⟨he, hb⟩ => ⟨by rw [he, HT.out], hb⟩))) | quiet_step ((go_at_call 55; exact Calls.kept_of ((later_calls (c := c) (c' := d) g m gq qts.length pts qts _ HMM.out hm2 hcm rfl hq1 hqm (kept_lt hgz _) (kept_lt hgq _) (HQZ.out.below (Kept.below _) hgz) (HPQ.out.below (Kept.below _) hgq)).mono fun _ _ ⟨he, hb⟩ => ⟨by rw [he, HT.out], hb⟩))))
  refine wpQuiet_nil ?_
  intro _ hw'
  obtain ⟨⟨w3, hb3⟩, hw''⟩ := hw'
  subst hw''
  have HB3 := Lib.hid (HB2.out.trans (hb3.mono HB2.out.size))
  have lz3 : w.heap.size + 1 + 1 < _ := Nat.lt_of_lt_of_le lz2 hb3.size
  clear hb3 q1 q3 q4 e0 e1 e2 HB2
  have HR := Lib.hid ((HB3.out.block _ (by simp)).trans (res_new w _ _))
  have r0 := (cell_of_block HR.out 0).trans (show _ = some (Value.slice none 0 0) from rfl)
  have rf := unfrozen_of_block HR.out
  have HF := Lib.hid ((below_alloc3 w _ _ _).trans (HB3.out.mono (below_alloc3 w _ _ _).size))
  go_wp2
  exact bodyPost_ret (v := .tuple #[.agg #[.slice none 0 0], .int .i64 6]) (by simp [results, Try.results37, go_sem, r0]) rfl ⟨rfl, HF.out.setCell (show w.heap.size ≤ w.heap.size + 1 + 1 by omega) _⟩
end Go.Proofs.Ytklfmlbokedbdaa.owned
