/-
  Proved: the document's function that adds a stroke to ink answers as its definition, and its answer lies in blocks of its own (contracts of a callee of the law on AddStroke).
  Conditions: the ink and the stroke lie in rows of their own.
-/
import Derived.Test.YtklfmlbokedbdaaOwn
import Derived.Test.YtklfmlbokedbdaaCount
namespace Go.Proofs.Ytklfmlbokedbdaa.owned
open Go.ChangeShapes Go.WideShapes Go.ChangeAt Go.RowKit Go.Joins
open Go.Proofs.Ytklfmlbokedbdaa.join Go.Proofs.Ytklfmlbokedbdaa.strokes Go.Proofs.Ytklfmlbokedbdaa.valid Go.Proofs.Ytklfmlbokedbdaa.inks Go.Proofs.Ytklfmlbokedbdaa.inkOk
open Go.Proofs.Ytklfmlbokedbdaa.count (vI_len)
set_option linter.unusedVariables false

section
variable {base base' : Nat} {W W1 W' : World} {v v' : Value} {k : Nat} {F : Nat → List P3} {gs cs : Nat → Nat}
theorem Building.mono (h : Building base W v k F gs cs) (hb : base' ≤ base) : Building base' W v k F gs cs := by
  refine ⟨by have := h.bz; omega, ?_, h.inj, fun i hi => ⟨by have := (h.pts i hi).1; omega, (h.pts i hi).2⟩⟩
  obtain ⟨hl, ho⟩ := h.own
  refine ⟨hl, ?_⟩
  rcases ho with ho | ⟨j, cap, cur, hv, h1, h2⟩
  · exact .inl ho
  · exact .inr ⟨j, cap, cur, hv, by omega, h2⟩
theorem Building.set (h : Building base W v k F gs cs) {K i : Nat} {x : Array Value} (hK : W.heap[K]? = some (.cells x 40 (0, 0))) (u : Value) : Building base (W.setCell ⟨K, i, none⟩ u) v k F gs cs := by
  refine ⟨by simpa [World.setCell] using h.bz, ownsRow_same h.own fun j hj => Below.heap_setCell _ _ _ _ ?_, h.inj, fun i hi => ⟨(h.pts i hi).1, (h.pts i hi).2.same (Below.heap_setCell _ _ _ _ ?_)⟩⟩
  · obtain ⟨_, cur, hc⟩ := ownsRow_block h.own hj
    intro e
    simp only at e
    subst e
    rw [hK] at hc
    cases hc
  · obtain ⟨cur, hc⟩ := (h.pts i hi).2.2
    intro e
    simp only at e
    rw [e, hK] at hc
    cases hc
theorem Building.more' {g c : Nat} {o : Obj} (h : Building base W v k F gs cs) (hgb : base ≤ g) (hne : ∀ i, i < k → gs i ≠ g) (hp : OwnPts W g (F k))
    (hown : W'.ownsRow base 29 1 v' (k + 1) (rowL gs cs F k ++ [.slice (some ⟨g, 0, none⟩) (F k).length c])) (hgr : (W.alloc o).grownBy W' v.ownBlock) :
    Building base W' v' (k + 1) F (fun i => if i = k then g else gs i) (fun i => if i = k then c else cs i) := by
  have hz := hgr.size
  simp at hz
  have keep : ∀ j, j < W.heap.size → (∃ cur, W.heap[j]? = some (.cells cur 71 (0, 0))) → W'.heap[j]? = W.heap[j]? := by
    intro j hj ⟨cur, hc⟩
    rw [hgr.block j (by simp; omega) ?_, Below.heap_alloc _ _ _ hj]
    intro e
    obtain ⟨_, cur', hc'⟩ := ownsRow_block h.own e.symm
    rw [hc'] at hc
    cases hc
  refine ⟨by have := h.bz; omega, ?_, ?_, ?_⟩
  · rw [rowL_succ]
    simp only [if_true]
    rw [rowL_congr (gs' := gs) (cs' := cs) fun i hik => by simp [show i ≠ k by omega]]
    exact hown
  · intro i j hi1 hj1 e
    by_cases ei : i = k <;> by_cases ej : j = k
    · omega
    · simp only [ei, ej, if_true, if_false] at e
      exact absurd e.symm (hne j (by omega))
    · simp only [ei, ej, if_true, if_false] at e
      exact absurd e (hne i (by omega))
    · simp only [ei, ej, if_false] at e
      exact h.inj i j (by omega) (by omega) e
  · intro i hi1
    by_cases e : i = k
    · subst e
      simp only [if_true]
      exact ⟨hgb, hp.same (keep g hp.lt hp.2)⟩
    · simp only [if_neg e]
      have hpi := h.pts i (by omega)
      exact ⟨hpi.1, hpi.2.same (keep _ hpi.2.lt hpi.2.2)⟩
/-- A block that is no row of strokes stays as it was over an append. -/
theorem Building.aside {o : Obj} (h : Building base W v k F gs cs) (hgr : (W.alloc o).grownBy W' v.ownBlock) {K : Nat} {x : Array Value} (hK : W.heap[K]? = some (.cells x 40 (0, 0))) : W'.heap[K]? = some (.cells x 40 (0, 0)) := by
  have hlt := lt_of_cells hK
  rw [hgr.block K (by simp; omega) ?_, Below.heap_alloc _ _ _ hlt]
  · exact hK
  · intro e
    obtain ⟨_, cur', hc'⟩ := ownsRow_block h.own e.symm
    rw [hc'] at hK
    cases hK
end

theorem src_of {w : World} {G n : Nat} {ink jnk : List (List P3)} (hn : ink.length = n) (hv : vI ink = true) (hg : G < w.heap.size) (hp : RowsFrom 0 w G ink) (hj : ∀ i, i < n → FI jnk i = FI ink i) : SrcRows w (some ⟨G, 0, none⟩) n (FI jnk) := fun i hi => by
  have hil : i < ink.length := by omega
  have e := List.getElem?_eq_getElem hil
  obtain ⟨g, c, -, hgl, p0, hpt⟩ := hp i _ e
  have hl := vI_len hv e
  rw [hj i hi, FI_at e]
  exact ⟨G, 0, g, c, rfl, hg, by simpa using p0, hgl, hpt, hl.1, by omega⟩
theorem old {W w1 : World} (hb : Below W.heap.size W w1) : (∀ b o, b < W.heap.size → w1.cell? ⟨b, o, none⟩ = W.cell? ⟨b, o, none⟩) ∧ (∀ b o, b < W.heap.size → w1.frozen? ⟨b, o, none⟩ = W.frozen? ⟨b, o, none⟩) :=
  ⟨fun b o h => hb.cell (p := ⟨b, o, none⟩) h, fun b o h => hb.frozen (p := ⟨b, o, none⟩) h⟩
theorem FI_app {ink : List (List P3)} {pts : List P3} {i : Nat} (h : i < ink.length) : FI (ink ++ [pts]) i = FI ink i := by simp [FI, List.getElem?_append_left h]
theorem FI_last {ink : List (List P3)} {pts : List P3} {n : Nat} (h : ink.length = n) : FI (ink ++ [pts]) n = pts := by subst h; simp [FI]

set_option maxHeartbeats 2000000 in
theorem specAdd_bad1 {c : Nat} (G n g m : Nat) (ink : List (List P3)) (w : World) (hn : ink.length = n) (hcap : n ≤ 1048576) (hsm : ∀ q ∈ ink, q.length ≤ 1048576) (hg : G < w.heap.size) (hp : RowsFrom 0 w G ink) (hv : vI ink = false) :
    Calls Try.prog 36 #[inkV G n, .agg #[.slice (some ⟨g, 0, none⟩) m c]] w fun e w' => e = .returned (.tuple #[.agg #[.slice none 0 0], .int .i64 1]) ∧ Below w.heap.size w w' := by
  have HN := Lib.hid hn
  have HP := Lib.hid (hp.below (below_alloc3 w (.cells #[.slice (some ⟨G, 0, none⟩) n n] 40) (.cells #[.slice (some ⟨g, 0, none⟩) m c] 29) (.cells #[.slice none 0 0] 40)) hg)
  have HM := Lib.hid hsm
  clear hn hp hsm
  go_enter Try.func36, Try.ntmps36
  go_wp2_with fail
  refine (l02Ok_calls (C := n) (o := 0) w.heap.size G n ink _ HN.out hcap HM.out (by simp; omega) (by simp; omega) ((World.cell?_alloc_lt _ _ _ (by simp; omega)).trans (by simp)) HP.out).mono ?_
  rintro e w1 ⟨rfl, hb1⟩
  rw [hv]
  obtain ⟨hc1, hf1⟩ := old hb1
  have hz1 := hb1.size
  simp at hz1
  have lz : w.heap.size + 1 + 1 < w1.heap.size := by omega
  have HB := Lib.hid ((below_alloc3 w _ _ _).trans (hb1.mono (below_alloc3 w _ _ _).size))
  clear hb1
  go_wp2
  exact bodyPost_ret (v := .tuple #[.agg #[.slice none 0 0], .int .i64 1]) (by simp [results, Try.results36, go_sem, hc1]) rfl ⟨rfl, HB.out.setCell (show w.heap.size ≤ w.heap.size + 1 + 1 by omega) _⟩

theorem res_new (w : World) (a b : Obj) : (((w.alloc a).alloc b).alloc (.cells #[.slice none 0 0] 40)).heap[w.heap.size + 1 + 1]? = some (.cells #[.slice none 0 0] 40 (0, 0)) := by
  have h := heap_alloc_new ((w.alloc a).alloc b) (.cells #[.slice none 0 0] 40)
  have e : ((w.alloc a).alloc b).heap.size = w.heap.size + 1 + 1 := by simp
  rw [e] at h
  exact h

set_option maxHeartbeats 2000000 in
theorem specAdd_bad2 {c : Nat} (G n g m : Nat) (ink : List (List P3)) (pts : List P3) (w : World) (hn : ink.length = n) (hcap : n ≤ 1048576) (hsm : ∀ q ∈ ink, q.length ≤ 1048576) (hm : pts.length = m) (hcm : m ≤ 1048576) (hg : G < w.heap.size) (hgm : g < w.heap.size) (hp : RowsFrom 0 w G ink) (hq : Pts w g pts) (hv : vI ink = true) (hs : vS pts = false) :
    Calls Try.prog 36 #[inkV G n, .agg #[.slice (some ⟨g, 0, none⟩) m c]] w fun e w' => e = .returned (.tuple #[.agg #[.slice none 0 0], .int .i64 1]) ∧ Below w.heap.size w w' := by
  have HN := Lib.hid hn
  have HMM := Lib.hid hm
  have HP := Lib.hid (hp.below (below_alloc3 w (.cells #[.slice (some ⟨G, 0, none⟩) n n] 40) (.cells #[.slice (some ⟨g, 0, none⟩) m c] 29) (.cells #[.slice none 0 0] 40)) hg)
  have HQ := Lib.hid (hq.below (below_alloc3 w (.cells #[.slice (some ⟨G, 0, none⟩) n n] 40) (.cells #[.slice (some ⟨g, 0, none⟩) m c] 29) (.cells #[.slice none 0 0] 40)) hgm)
  have HM := Lib.hid hsm
  have HV := Lib.hid hv
  have HS := Lib.hid hs
  clear hn hp hsm hm hq hv hs
  go_enter Try.func36, Try.ntmps36
  go_wp2_with fail
  refine (l02Ok_calls (C := n) (o := 0) w.heap.size G n ink _ HN.out hcap HM.out (by simp; omega) (by simp; omega) ((World.cell?_alloc_lt _ _ _ (by simp; omega)).trans (by simp)) HP.out).mono ?_
  rintro e w1 ⟨rfl, hb1⟩
  rw [HV.out]
  have hz1 := hb1.size
  simp at hz1
  have HB1 := Lib.hid hb1
  have s1 := (hb1.cell (p := ⟨w.heap.size + 1, 0, none⟩) (by simp)).trans (show _ = some (Value.slice (some ⟨g, 0, none⟩) m c) from (World.cell?_alloc_lt _ _ _ (by simp)).trans (by simp))
  clear hb1
  go_wp2_with fail
  refine (l02Stroke_calls (c := c) (o := 0) (w.heap.size + 1) g m pts _ HMM.out hcm (by omega) (by omega) s1 (HQ.out.below HB1.out (by simp; omega))).mono ?_
  rintro e w2 ⟨rfl, hb2⟩
  rw [HS.out]
  have HB2 := Lib.hid (HB1.out.trans (hb2.mono HB1.out.size))
  clear hb2 s1 HB1 hz1
  have hz2 := HB2.out.size
  simp at hz2
  have lz2 : w.heap.size + 1 + 1 < w2.heap.size := by omega
  have lz1 : w.heap.size + 1 < w2.heap.size := by omega
  have lz0 : w.heap.size < w2.heap.size := by omega
  have HR := Lib.hid (show w2.heap[w.heap.size + 1 + 1]? = some (.cells #[.slice none 0 0] 40 (0, 0)) from (HB2.out.block _ (by simp)).trans (res_new w _ _))
  have r0 : w2.cell? ⟨w.heap.size + 1 + 1, 0, none⟩ = some (.slice none 0 0) := by rw [cell_of_block HR.out]; rfl
  have rf := unfrozen_of_block HR.out
  have HF := Lib.hid ((below_alloc3 w _ _ _).trans (HB2.out.mono (below_alloc3 w _ _ _).size))
  go_wp2
  exact bodyPost_ret (v := .tuple #[.agg #[.slice none 0 0], .int .i64 1]) (by simp [results, Try.results36, go_sem, r0]) rfl ⟨rfl, HF.out.setCell (show w.heap.size ≤ w.heap.size + 1 + 1 by omega) _⟩

set_option maxHeartbeats 2000000 in
theorem specAdd_full {c : Nat} (G n g m : Nat) (ink : List (List P3)) (pts : List P3) (w : World) (hn : ink.length = n) (hcap : n ≤ 1048576) (hsm : ∀ q ∈ ink, q.length ≤ 1048576) (hm : pts.length = m) (hcm : m ≤ 1048576) (hg : G < w.heap.size) (hgm : g < w.heap.size) (hp : RowsFrom 0 w G ink) (hq : Pts w g pts) (hv : vI ink = true) (hs : vS pts = true) (h16 : 16 ≤ n) :
    Calls Try.prog 36 #[inkV G n, .agg #[.slice (some ⟨g, 0, none⟩) m c]] w fun e w' => e = .returned (.tuple #[.agg #[.slice none 0 0], .int .i64 5]) ∧ Below w.heap.size w w' := by
  have h16' : (16 : Int) ≤ (n : Int) := by omega
  have HN := Lib.hid hn
  have HMM := Lib.hid hm
  have HP := Lib.hid (hp.below (below_alloc3 w (.cells #[.slice (some ⟨G, 0, none⟩) n n] 40) (.cells #[.slice (some ⟨g, 0, none⟩) m c] 29) (.cells #[.slice none 0 0] 40)) hg)
  have HQ := Lib.hid (hq.below (below_alloc3 w (.cells #[.slice (some ⟨G, 0, none⟩) n n] 40) (.cells #[.slice (some ⟨g, 0, none⟩) m c] 29) (.cells #[.slice none 0 0] 40)) hgm)
  have HM := Lib.hid hsm
  have HV := Lib.hid hv
  have HS := Lib.hid hs
  clear hn hp hsm hm hq hv hs
  go_enter Try.func36, Try.ntmps36
  go_wp2_with fail
  refine (l02Ok_calls (C := n) (o := 0) w.heap.size G n ink _ HN.out hcap HM.out (by simp; omega) (by simp; omega) ((World.cell?_alloc_lt _ _ _ (by simp; omega)).trans (by simp)) HP.out).mono ?_
  rintro e w1 ⟨rfl, hb1⟩
  rw [HV.out]
  have hz1 := hb1.size
  simp at hz1
  have HB1 := Lib.hid hb1
  have s1 := (hb1.cell (p := ⟨w.heap.size + 1, 0, none⟩) (by simp)).trans (show _ = some (Value.slice (some ⟨g, 0, none⟩) m c) from (World.cell?_alloc_lt _ _ _ (by simp)).trans (by simp))
  clear hb1
  go_wp2_with fail
  refine (l02Stroke_calls (c := c) (o := 0) (w.heap.size + 1) g m pts _ HMM.out hcm (by omega) (by omega) s1 (HQ.out.below HB1.out (by simp; omega))).mono ?_
  rintro e w2 ⟨rfl, hb2⟩
  rw [HS.out]
  have HB2 := Lib.hid (HB1.out.trans (hb2.mono HB1.out.size))
  clear hb2 s1 HB1 hz1
  have hz2 := HB2.out.size
  simp at hz2
  have lz2 : w.heap.size + 1 + 1 < w2.heap.size := by omega
  have lz1 : w.heap.size + 1 < w2.heap.size := by omega
  have lz0 : w.heap.size < w2.heap.size := by omega
  have HR := Lib.hid (show w2.heap[w.heap.size + 1 + 1]? = some (.cells #[.slice none 0 0] 40 (0, 0)) from (HB2.out.block _ (by simp)).trans (res_new w _ _))
  have r0 : w2.cell? ⟨w.heap.size + 1 + 1, 0, none⟩ = some (.slice none 0 0) := by rw [cell_of_block HR.out]; rfl
  have rf := unfrozen_of_block HR.out
  have a2 := (HB2.out.cell (p := ⟨w.heap.size, 0, none⟩) (by simp; omega)).trans (show _ = some (Value.slice (some ⟨G, 0, none⟩) n n) from (World.cell?_alloc_lt _ _ _ (by simp; omega)).trans (by simp))
  have a3 := (HB2.out.cell (p := ⟨w.heap.size + 1, 0, none⟩) (by simp)).trans (show _ = some (Value.slice (some ⟨g, 0, none⟩) m c) from (World.cell?_alloc_lt _ _ _ (by simp)).trans (by simp))
  have HF := Lib.hid ((below_alloc3 w _ _ _).trans (HB2.out.mono (below_alloc3 w _ _ _).size))
  go_wp2
  exact bodyPost_ret (v := .tuple #[.agg #[.slice none 0 0], .int .i64 5]) (by simp [results, Try.results36, go_sem, r0]) rfl ⟨rfl, HF.out.setCell (show w.heap.size ≤ w.heap.size + 1 + 1 by omega) _⟩

set_option maxRecDepth 100000 in
set_option maxHeartbeats 4000000 in
theorem specAdd_state {c : Nat} (j : Nat) (G g m : Nat) (ink : List (List P3)) (pts : List P3) (w : World) (hn : ink.length = j + 1) (hcap : j + 1 ≤ 1048576) (hsm : ∀ q ∈ ink, q.length ≤ 1048576) (hm : pts.length = m) (hcm : m ≤ 1048576) (hg : G < w.heap.size) (hgm : g < w.heap.size) (hp : RowsFrom 0 w G ink) (hq : Pts w g pts) (hv : vI ink = true) (hs : vS pts = true) (h16 : j + 1 < 16) (hT : firstT pts ≤ lastT (FI ink j)) :
    Calls Try.prog 36 #[inkV G (j + 1), .agg #[.slice (some ⟨g, 0, none⟩) m c]] w fun e w' => e = .returned (.tuple #[.agg #[.slice none 0 0], .int .i64 6]) ∧ Below w.heap.size w w' := by
  have HN := Lib.hid hn
  have HMM := Lib.hid hm
  have HP := Lib.hid (hp.below (below_alloc3 w (.cells #[.slice (some ⟨G, 0, none⟩) (j + 1) (j + 1)] 40) (.cells #[.slice (some ⟨g, 0, none⟩) m c] 29) (.cells #[.slice none 0 0] 40)) hg)
  have HQ := Lib.hid (hq.below (below_alloc3 w (.cells #[.slice (some ⟨G, 0, none⟩) (j + 1) (j + 1)] 40) (.cells #[.slice (some ⟨g, 0, none⟩) m c] 29) (.cells #[.slice none 0 0] 40)) hgm)
  have HM := Lib.hid hsm
  have HV := Lib.hid hv
  have HS := Lib.hid hs
  clear hn hp hsm hm hq hv hs
  go_enter Try.func36, Try.ntmps36
  go_wp2_with fail
  refine (l02Ok_calls (C := j + 1) (o := 0) w.heap.size G (j + 1) ink _ HN.out hcap HM.out (by simp; omega) (by simp; omega) ((World.cell?_alloc_lt _ _ _ (by simp; omega)).trans (by simp)) HP.out).mono ?_
  rintro e w1 ⟨rfl, hb1⟩
  rw [HV.out]
  have hz1 := hb1.size
  simp at hz1
  have HB1 := Lib.hid hb1
  have s1 := (hb1.cell (p := ⟨w.heap.size + 1, 0, none⟩) (by simp)).trans (show _ = some (Value.slice (some ⟨g, 0, none⟩) m c) from (World.cell?_alloc_lt _ _ _ (by simp)).trans (by simp))
  clear hb1
  go_wp2_with fail
  refine (l02Stroke_calls (c := c) (o := 0) (w.heap.size + 1) g m pts _ HMM.out hcm (by omega) (by omega) s1 (HQ.out.below HB1.out (by simp; omega))).mono ?_
  rintro e w2 ⟨rfl, hb2⟩
  rw [HS.out]
  have HB2 := Lib.hid (HB1.out.trans (hb2.mono HB1.out.size))
  clear hb2 s1 HB1 hz1
  have hz2 := HB2.out.size
  simp at hz2
  have lz2 : w.heap.size + 1 + 1 < w2.heap.size := by omega
  have lz1 : w.heap.size + 1 < w2.heap.size := by omega
  have lz0 : w.heap.size < w2.heap.size := by omega
  have a2 := (HB2.out.cell (p := ⟨w.heap.size, 0, none⟩) (by simp; omega)).trans (show _ = some (Value.slice (some ⟨G, 0, none⟩) (j + 1) (j + 1)) from (World.cell?_alloc_lt _ _ _ (by simp; omega)).trans (by simp))
  have a3 := (HB2.out.cell (p := ⟨w.heap.size + 1, 0, none⟩) (by simp)).trans (show _ = some (Value.slice (some ⟨g, 0, none⟩) m c) from (World.cell?_alloc_lt _ _ _ (by simp)).trans (by simp))
  have HPZ := Lib.hid (HP.out.below HB2.out (by simp; omega))
  have HQZ := Lib.hid (HQ.out.below HB2.out (by simp; omega))
  have hGz : G < w2.heap.size := by omega
  have hgz : g < w2.heap.size := by omega
  have hjl : j < ink.length := by have := HN.out; omega
  have hjk := List.getElem?_eq_getElem hjl
  obtain ⟨gq, d, -, hgq, pq, hpq⟩ := HPZ.out j ink[j] hjk
  have hql := vI_len HV.out hjk
  rw [← FI_at hjk] at pq hpq hql
  generalize hqe : FI ink j = qts at pq hpq hql hT
  have HQE := Lib.hid hqe
  clear hqe hjk
  have hq1 := hql.1
  have hqm : qts.length ≤ 1048576 := by omega
  have HPQ := Lib.hid hpq
  clear hpq hql
  have hp1 := (vS_pos HS.out).1
  have hm1 : (0 : Int) < (m : Int) := by have := HMM.out; omega
  have hm2 : 0 < m := by have := HMM.out; omega
  have q1 := cell_kept (a := ⟨G, j, none⟩) hGz pq
  have q2 := cell_kept (a := ⟨g, 2, none⟩) hgz (first_cell HQZ.out hp1)
  have q3 := cell_kept (a := ⟨w.heap.size, 0, none⟩) lz0 a2
  have q4 := cell_kept (a := ⟨w.heap.size + 1, 0, none⟩) lz1 a3
  have e0 : (0 : Int) < ((j + 1 : Nat) : Int) := by omega
  have e1 : ((j + 1 : Nat) : Int) - 1 = (j : Int) := by omega
  have e2 : (j : Int) < ((j + 1 : Nat) : Int) := by omega
  have e5 : ¬ ((16 : Int) ≤ ((j + 1 : Nat) : Int)) := by omega
  generalize hft : firstT pts = ft at q2 hT
  have HFT := Lib.hid hft
  clear hft pq
  have hmx := mixed
  have hu : undef = Value.tuple #[] := rfl
  go_wp2
  refine wp_region_quiet_kept (by assumption) (by kernel_rfl) ?_
  repeat (first | go_big_quiet_step ((go_at_call 66; exact Calls.kept_of (l02Last_calls (c := d) (o := j) G gq qts.length qts _ rfl hq1 hqm (kept_lt hgq _) (kept_lt hGz _) (q1 _) (HPQ.out.below (Kept.below _) hgq)))) | quiet_step ((go_at_call 66; exact Calls.kept_of (l02Last_calls (c := d) (o := j) G gq qts.length qts _ rfl hq1 hqm (kept_lt hgq _) (kept_lt hGz _) (q1 _) (HPQ.out.below (Kept.below _) hgq)))))
  refine wpQuiet_nil ?_
  intro _ hw'
  obtain ⟨⟨w3, hb3⟩, hw''⟩ := hw'
  subst hw''
  have HB3 := Lib.hid (HB2.out.trans (hb3.mono HB2.out.size))
  have lz3 : w.heap.size + 1 + 1 < _ := Nat.lt_of_lt_of_le lz2 hb3.size
  clear hb3 q1 q2 q3 q4 e0 e1 e2 HB2
  have HR := Lib.hid ((HB3.out.block _ (by simp)).trans (res_new w _ _))
  have r0 := (cell_of_block HR.out 0).trans (show _ = some (Value.slice none 0 0) from rfl)
  have rf := unfrozen_of_block HR.out
  have HF := Lib.hid ((below_alloc3 w _ _ _).trans (HB3.out.mono (below_alloc3 w _ _ _).size))
  go_wp2
  exact bodyPost_ret (v := .tuple #[.agg #[.slice none 0 0], .int .i64 6]) (by simp [results, Try.results36, go_sem, r0]) rfl ⟨rfl, HF.out.setCell (show w.heap.size ≤ w.heap.size + 1 + 1 by omega) _⟩
end Go.Proofs.Ytklfmlbokedbdaa.owned
