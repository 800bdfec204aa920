/-
  Proved: the copies that the laws make of ink and strokes lie in blocks of their own (contracts of callees of the laws on functions that return ink).
  Conditions: the ink's points are read out of the argument's memory.
-/
import Derived.Test.YtklfmlbokedbdaaMarks
namespace Go.Proofs.Ytklfmlbokedbdaa.owned
open Go.ChangeShapes Go.WideShapes Go.ChangeAt Go.RowKit Go.Joins
open Go.Proofs.Ytklfmlbokedbdaa.join Go.Proofs.Ytklfmlbokedbdaa.strokes Go.Proofs.Ytklfmlbokedbdaa.valid Go.Proofs.Ytklfmlbokedbdaa.inks
set_option linter.unusedVariables false

def FI (ink : List (List P3)) (i : Nat) : List P3 := (ink[i]?).getD []
theorem FI_at {ink : List (List P3)} {i : Nat} {pts : List P3} (h : ink[i]? = some pts) : FI ink i = pts := by simp [FI, h]
theorem Own.rows {lo hi : Nat} {w : World} {G : Nat} {gs : Nat → Nat} {n : Nat} {ink : List (List P3)} (h : Own lo hi w G gs n (FI ink)) (hn : ink.length = n) : RowsFrom 0 w G ink := by
  intro i pts hi_
  have hlt : i < n := by have := (List.getElem?_eq_some_iff.1 hi_).1; omega
  obtain ⟨c, hc⟩ := h.at_ i hlt
  have hp := h.pts i hlt
  rw [FI_at hi_] at hc hp
  exact ⟨gs i, c, Nat.zero_le _, hp.lt, hc, hp.1⟩

set_option maxRecDepth 100000 in
set_option maxHeartbeats 2000000 in
theorem toPointS_own (A : Option Addr) (n cap : Nat) (pts : List P3) (w : World) (hn : pts.length = n) (hcap : n ≤ 1048576) (hp : ArgPts w A pts) :
    Calls Try.prog 49 #[.slice A n cap] w fun e w' => ∃ g, e = .returned (.slice (some ⟨g, 0, none⟩) n n) ∧ w.heap.size ≤ g ∧ g < w'.heap.size ∧ OwnPts w' g pts ∧ Below w.heap.size w w' := by
  have HN := Lib.hid hn
  have HP := Lib.hid hp
  clear hn hp
  obtain ⟨cur, hcs, hmk⟩ := make_points n hcap w
  have HC := Lib.hid hcs
  clear hcs
  go_enter Try.func49, Try.ntmps49
  go_wp2
  go_loopw [4] (fun i w' => ∃ k : Nat, k ≤ n ∧ i = .int .i64 k ∧ Copying w n pts k w') (fun i _ => n - (intOf i).toNat)
  case atStart => exact ⟨0, Nat.zero_le _, rfl, below_alloc1 _ _, cur, heap_alloc_new w _, HC.out, fun i p hi => absurd hi (by omega)⟩
  case round =>
    obtain ⟨k, hk, rfl, hG⟩ := hrel
    clear hmk
    have HG := Lib.hid hG
    clear hG
    by_cases hlt : k < n
    · have hkl : k < pts.length := by rw [HN.out]; exact hlt
      obtain ⟨b, o, rfl, hbl, p0, p1, p2⟩ := HP.out k pts[k] (List.getElem?_eq_getElem hkl)
      generalize hpk : pts[k] = p at p0 p1 p2
      have HK := Lib.hid (show pts[k]? = some p by rw [List.getElem?_eq_getElem hkl, hpk])
      clear hpk
      have q0 := (HG.out.below.cell (p := ⟨b, o + k * 3, none⟩) hbl).trans p0
      have q1 := (HG.out.below.cell (p := ⟨b, o + k * 3 + 1, none⟩) hbl).trans p1
      have q2 := (HG.out.below.cell (p := ⟨b, o + k * 3 + 2, none⟩) hbl).trans p2
      clear p0 p1 p2
      go_wp2_with fail
      refine (toPoint_calls p.1 p.2.1 p.2.2 _).mono ?_
      rintro e w2 ⟨rfl, hb2⟩
      have HG2 := Lib.hid (HG.out.kept hb2)
      clear hb2 q0 q1 q2
      obtain ⟨⟨v0, v1, v2, c0, c1, c2⟩, hfz⟩ := HG2.out.at_ hlt
      go_wp2
      go_roundw
      case rel => exact ⟨k + 1, by omega, by go_num, HG2.out.step hlt p HK.out⟩
      case measure => simp [intOf]; omega
    · have HF := Lib.hid (show OwnPts wr w.heap.size pts from ⟨HG.out.pts (by rw [HN.out]; omega), HG.out.row.elim fun cur h => ⟨cur, h.1⟩⟩)
      go_wp2
      go_ret
      exact ⟨_, rfl, Nat.le_refl _, HG.out.lt, HF.out, HG.out.below⟩

set_option maxHeartbeats 1000000 in
theorem toStroke_own (A : Option Addr) (n cap : Nat) (pts : List P3) (w : World) (hn : pts.length = n) (hcap : n ≤ 1048576) (hp : ArgPts w A pts) :
    Calls Try.prog 16 #[.agg #[.slice A n cap]] w fun e w' => ∃ g, e = .returned (stroke g n) ∧ w.heap.size ≤ g ∧ g < w'.heap.size ∧ OwnPts w' g pts ∧ Below w.heap.size w w' := by
  have HN := Lib.hid hn
  have HP := Lib.hid hp
  clear hn hp
  go_enter Try.func16, Try.ntmps16
  go_wp2_with fail
  refine (toPointS_own A n cap pts _ HN.out hcap (HP.out.below (below_alloc3 _ _ _ _))).mono ?_
  rintro e w1 ⟨g, rfl, hg0, hg1, hpt, hb⟩
  have HPT := Lib.hid hpt
  have hz := hb.size
  simp at hz hg0
  have lz : w.heap.size + 1 + 1 < w1.heap.size := by omega
  have lz1 : w.heap.size + 1 < w1.heap.size := by omega
  obtain ⟨hc, hf⟩ : (∀ b o, b < w.heap.size + 1 + 1 + 1 → w1.cell? ⟨b, o, none⟩ = (((w.alloc (.cells #[.slice A n cap] 24)).alloc (.cells #[.slice none 0 0] 29)).alloc (.cells #[.slice none 0 0] 29)).cell? ⟨b, o, none⟩) ∧ (∀ b o, b < w.heap.size + 1 + 1 + 1 → w1.frozen? ⟨b, o, none⟩ = (((w.alloc (.cells #[.slice A n cap] 24)).alloc (.cells #[.slice none 0 0] 29)).alloc (.cells #[.slice none 0 0] 29)).frozen? ⟨b, o, none⟩) :=
    ⟨fun b o h => hb.cell (p := ⟨b, o, none⟩) (by simpa using h), fun b o h => hb.frozen (p := ⟨b, o, none⟩) (by simpa using h)⟩
  have HB := Lib.hid ((below_alloc3 w _ _ _).trans (hb.mono (below_alloc3 w _ _ _).size))
  clear hb hpt hz
  have r1 : w.heap.size + 1 < w.heap.size + 1 + 1 + 1 := by omega
  have r2 : w.heap.size + 1 + 1 < w.heap.size + 1 + 1 + 1 := by omega
  go_wp2
  refine bodyPost_ret (v := stroke g n) (by simp [results, Try.results16, go_sem, hc]) rfl ⟨g, rfl, by omega, by simpa [World.setCell] using hg1, ?_, (HB.out.setCell (show w.heap.size ≤ w.heap.size + 1 + 1 by omega) _).setCell (show w.heap.size ≤ w.heap.size + 1 by omega) _⟩
  exact HPT.out.same (by rw [Below.heap_setCell _ _ _ _ (by simp; omega), Below.heap_setCell _ _ _ _ (by simp; omega)])

/-- What a round of the copying loop finds: the new row has its first k strokes, each with points in a block of its own. -/
structure CopyO (w : World) (n : Nat) (F : Nat → List P3) (k : Nat) (w' : World) : Prop where
  below : Below w.heap.size w w'
  row : ∃ (cur : Array Value) (gs : Nat → Nat), w'.heap[w.heap.size]? = some (.cells cur 29 (0, 0)) ∧ cur.size = n ∧ (∀ i j, i < k → j < k → gs i = gs j → i = j) ∧
    ∀ i, i < k → w.heap.size < gs i ∧ gs i < w'.heap.size ∧ cur[i]? = some (.slice (some ⟨gs i, 0, none⟩) (F i).length (F i).length) ∧ OwnPts w' (gs i) (F i)
theorem CopyO.lt {w : World} {n : Nat} {F : Nat → List P3} {k : Nat} {w' : World} (h : CopyO w n F k w') : w.heap.size < w'.heap.size := by
  obtain ⟨cur, gs, hc, _⟩ := h.row
  exact (Array.getElem?_eq_some_iff.1 hc).1
theorem CopyO.at_ {w : World} {n : Nat} {F : Nat → List P3} {k : Nat} {w' : World} (h : CopyO w n F k w') (hk : k < n) :
    (∃ v0, w'.cell? ⟨w.heap.size, k, none⟩ = some v0) ∧ ∀ o, w'.frozen? ⟨w.heap.size, o, none⟩ = false := by
  obtain ⟨cur, gs, hc, hs, _⟩ := h.row
  refine ⟨⟨cur[k]'(by omega), ?_⟩, unfrozen_of_block hc⟩
  rw [cell_of_block hc]; exact Array.getElem?_eq_getElem _
theorem CopyO.step {w : World} {n : Nat} {F : Nat → List P3} {k : Nat} {w1 w2 : World} (h : CopyO w n F k w1) (hb : Below w1.heap.size w1 w2) (hk : k < n) (g : Nat) (h1 : w1.heap.size ≤ g) (h2 : g < w2.heap.size) (hpt : OwnPts w2 g (F k)) :
    CopyO w n F (k + 1) (w2.setCell ⟨w.heap.size, k, none⟩ (.slice (some ⟨g, 0, none⟩) (F k).length (F k).length)) := by
  have hlt := h.lt
  obtain ⟨cur, gs, hc, hs, hinj, hall⟩ := h.row
  have hc2 := (hb.block _ hlt).trans hc
  have s1 := block_setCell (i := k) hc2 (.slice (some ⟨g, 0, none⟩) (F k).length (F k).length)
  refine ⟨(h.below.trans (hb.mono h.below.size)).setCell (Nat.le_refl _) _, _, fun i => if i = k then g else gs i, s1, by simp [hs], ?_, ?_⟩
  · intro i j hi hj e
    by_cases ei : i = k <;> by_cases ej : j = k
    · omega
    · simp only [ei, ej, if_true, if_false] at e
      have := (hall j (by omega)).2.1
      omega
    · simp only [ei, ej, if_true, if_false] at e
      have := (hall i (by omega)).2.1
      omega
    · simp only [ei, ej, if_false] at e
      exact hinj i j (by omega) (by omega) e
  · intro i hi
    by_cases e : i = k
    · subst e
      simp only [if_true]
      refine ⟨by omega, by simpa [World.setCell] using h2, ?_, hpt.same (Below.heap_setCell _ _ _ _ (by simp; omega))⟩
      simp [Array.getElem?_setIfInBounds]
      omega
    · simp only [if_neg e]
      obtain ⟨a1, a2, a3, a4⟩ := hall i (by omega)
      refine ⟨a1, by have := hb.size; simp [World.setCell]; omega, ?_, (a4.same (hb.block _ a2)).same (Below.heap_setCell _ _ _ _ (by simp; omega))⟩
      rw [Array.getElem?_setIfInBounds_ne (by omega)]
      exact a3
theorem CopyO.own {w : World} {n : Nat} {F : Nat → List P3} {k : Nat} {w' : World} (h : CopyO w n F k w') (hk : n ≤ k) : ∃ gs, Own w.heap.size w'.heap.size w' w.heap.size gs n F := by
  obtain ⟨cur, gs, hc, hs, hinj, hall⟩ := h.row
  refine ⟨gs, Nat.le_refl _, ⟨cur, hc⟩, Nat.le_refl _, h.lt, fun i j hi hj => hinj i j (by omega) (by omega), fun i hi => ⟨Nat.le_of_lt (hall i (by omega)).1, (hall i (by omega)).2.1⟩, fun i hi => (hall i (by omega)).2.2.2, fun i hi => ⟨_, by rw [cell_of_block hc]; exact (hall i (by omega)).2.2.1⟩⟩

set_option maxRecDepth 100000 in
set_option maxHeartbeats 2000000 in
theorem toStrokeS_own (A : Option Addr) (n cap : Nat) (ink : List (List P3)) (w : World) (hn : ink.length = n) (hcap : n ≤ 1048576) (hsm : ∀ pts ∈ ink, pts.length ≤ 1048576) (hp : ArgRows w A ink) :
    Calls Try.prog 54 #[.slice A n cap] w fun e w' => ∃ G gs, e = .returned (.slice (some ⟨G, 0, none⟩) n n) ∧ Own w.heap.size w'.heap.size w' G gs n (FI ink) ∧ Below w.heap.size w w' := by
  have HN := Lib.hid hn
  have HP := Lib.hid hp
  have HM := Lib.hid hsm
  clear hn hp hsm
  obtain ⟨cur, hcs, hmk⟩ := make_strokes n hcap w
  have HC := Lib.hid hcs
  clear hcs
  go_enter Try.func54, Try.ntmps54
  go_wp2
  go_loopw [4] (fun i w' => ∃ k : Nat, k ≤ n ∧ i = .int .i64 k ∧ Hid (CopyO w n (FI ink) k w')) (fun i _ => n - (intOf i).toNat)
  case atStart => exact ⟨0, Nat.zero_le _, rfl, Lib.hid ⟨below_alloc1 _ _, cur, fun _ => 0, heap_alloc_new w _, HC.out, fun i j hi => absurd hi (by omega), fun i hi => absurd hi (by omega)⟩⟩
  case round =>
    obtain ⟨k, hk, rfl, HG⟩ := hrel
    clear hmk
    by_cases hlt : k < n
    · have hkl : k < ink.length := by rw [HN.out]; exact hlt
      have hkp := List.getElem?_eq_getElem hkl
      obtain ⟨b, o, B, c, rfl, hbl, p0, hml, hap⟩ := HP.out k ink[k] hkp
      have hsm := HM.out ink[k] (List.getElem_mem hkl)
      rw [← FI_at hkp] at p0 hml hap hsm
      generalize hpk : FI ink k = pts at p0 hml hap hsm
      have HK := Lib.hid hpk
      clear hpk hml hkp
      have q0 := (HG.out.below.cell (p := ⟨b, o + k, none⟩) hbl).trans p0
      have HAP := Lib.hid (hap.below HG.out.below)
      clear p0 hap
      go_wp2_with fail
      refine (toStroke_own B pts.length c pts _ rfl hsm HAP.out).mono ?_
      rintro e w2 ⟨g, rfl, hg0, hg1, hpt, hb2⟩
      have HS := Lib.hid (HG.out.step hb2 hlt g hg0 hg1 (HK.out ▸ hpt))
      obtain ⟨⟨v0, c0⟩, hfz⟩ := HG.out.at_ hlt
      have hz := HG.out.lt
      have c0' := (hb2.cell (p := ⟨w.heap.size, k, none⟩) hz).trans c0
      have hfz' : ∀ o, w2.frozen? ⟨w.heap.size, o, none⟩ = false := fun o => (hb2.frozen (p := ⟨w.heap.size, o, none⟩) hz).trans (hfz o)
      have hz2 : w.heap.size < w2.heap.size := Nat.lt_of_lt_of_le hz hb2.size
      rw [HK.out] at HS
      clear hb2 q0 hpt hg0 HG c0 hfz
      go_wp2
      go_roundw
      case rel => exact ⟨k + 1, by omega, by go_num, HS⟩
      case measure => simp [intOf]; omega
    · obtain ⟨gs, ho⟩ := HG.out.own (by omega)
      have HO := Lib.hid ho
      clear ho
      go_wp2
      go_ret
      exact ⟨_, gs, rfl, HO.out, HG.out.below⟩

set_option maxHeartbeats 1000000 in
theorem toInk_own (A : Option Addr) (n cap : Nat) (ink : List (List P3)) (w : World) (hn : ink.length = n) (hcap : n ≤ 1048576) (hsm : ∀ pts ∈ ink, pts.length ≤ 1048576) (hp : ArgRows w A ink) :
    Calls Try.prog 21 #[.agg #[.slice A n cap]] w fun e w' => ∃ G gs, e = .returned (inkV G n) ∧ Own w.heap.size w'.heap.size w' G gs n (FI ink) ∧ Below w.heap.size w w' := by
  have HN := Lib.hid hn
  have HP := Lib.hid hp
  have HM := Lib.hid hsm
  clear hn hp hsm
  go_enter Try.func21, Try.ntmps21
  go_wp2_with fail
  refine (toStrokeS_own A n cap ink _ HN.out hcap HM.out (HP.out.below (below_alloc3 _ _ _ _))).mono ?_
  rintro e w1 ⟨G, gs, rfl, ho, hb⟩
  have HO := Lib.hid ho
  have hz := hb.size
  simp at hz
  have lz : w.heap.size + 1 + 1 < w1.heap.size := by omega
  have lz1 : w.heap.size + 1 < w1.heap.size := by omega
  obtain ⟨hc, hf⟩ : (∀ b o, b < w.heap.size + 1 + 1 + 1 → w1.cell? ⟨b, o, none⟩ = (((w.alloc (.cells #[.slice A n cap] 35)).alloc (.cells #[.slice none 0 0] 40)).alloc (.cells #[.slice none 0 0] 40)).cell? ⟨b, o, none⟩) ∧ (∀ b o, b < w.heap.size + 1 + 1 + 1 → w1.frozen? ⟨b, o, none⟩ = (((w.alloc (.cells #[.slice A n cap] 35)).alloc (.cells #[.slice none 0 0] 40)).alloc (.cells #[.slice none 0 0] 40)).frozen? ⟨b, o, none⟩) :=
    ⟨fun b o h => hb.cell (p := ⟨b, o, none⟩) (by simpa using h), fun b o h => hb.frozen (p := ⟨b, o, none⟩) (by simpa using h)⟩
  have HB := Lib.hid ((below_alloc3 w _ _ _).trans (hb.mono (below_alloc3 w _ _ _).size))
  clear hb ho hz
  have r1 : w.heap.size + 1 < w.heap.size + 1 + 1 + 1 := by omega
  have r2 : w.heap.size + 1 + 1 < w.heap.size + 1 + 1 + 1 := by omega
  go_wp2
  refine bodyPost_ret (v := inkV G n) (by simp [results, Try.results21, go_sem, hc]) rfl ⟨G, gs, rfl, ?_, (HB.out.setCell (show w.heap.size ≤ w.heap.size + 1 + 1 by omega) _).setCell (show w.heap.size ≤ w.heap.size + 1 by omega) _⟩
  have h1 := HO.out
  have h2 := h1.only (lo' := w.heap.size) (hi' := w.heap.size + 3) (((Only.refl w.heap.size (w.heap.size + 3) w1).setCell (g := w.heap.size + 1 + 1) (i := 0) (by omega) (by omega) (.slice (some ⟨G, 0, none⟩) n n)).setCell (g := w.heap.size + 1) (i := 0) (by omega) (by omega) (.slice (some ⟨G, 0, none⟩) n n)) (.inr (by simp))
  refine ⟨by simp [World.setCell], h2.row, by have := h2.glo; simp at this; omega, by have := h2.ghi; simpa [World.setCell] using this, h2.inj, fun i hi => ⟨by have := (h2.inn i hi).1; simp at this; omega, by have := (h2.inn i hi).2; simpa [World.setCell] using this⟩, h2.pts, h2.at_⟩

set_option maxHeartbeats 1000000 in
theorem eqStrokeS_none {c c' : Nat} (A A' : Option Addr) (w : World) :
    Calls Try.prog 56 #[.slice A 0 c, .slice A' 0 c'] w fun e w' => e = .returned (.bool true) ∧ w = w' := by
  go_enter Try.func56, Try.ntmps56
  go_wp2
  go_loopw [5] (fun i w' => i = .int .i64 0 ∧ w = w') (fun _ _ => 0)
  case atStart => exact ⟨rfl, rfl⟩
  case round =>
    obtain ⟨rfl, rfl⟩ := hrel
    go_wp2
    go_ret
    exact ⟨rfl, by trivial⟩

set_option maxHeartbeats 1000000 in
theorem eqInk_own {lo hi lo' hi' c c' : Nat} (A A' : Option Addr) (n : Nat) (ink : List (List P3)) (w : World) (hn : ink.length = n) (hcap : n ≤ 1048576) (hsm : ∀ pts ∈ ink, pts.length ≤ 1048576) (hp : OwnInk lo hi w A n (FI ink)) (hp' : OwnInk lo' hi' w A' n (FI ink)) :
    Calls Try.prog 23 #[.agg #[.slice A n c], .agg #[.slice A' n c']] w fun e w' => e = .returned (.bool true) ∧ Below w.heap.size w w' := by
  by_cases h0 : n = 0
  · subst h0
    go_enter Try.func23, Try.ntmps23
    go_wp2_with fail
    refine (eqStrokeS_none A A' _).mono ?_
    rintro e w1 ⟨rfl, rfl⟩
    go_wp2
    go_ret
    exact ⟨rfl, below_alloc2 _ _ _⟩
  · rcases hp with h | ⟨G, gs, rfl, h⟩
    · exact absurd h h0
    rcases hp' with h' | ⟨G', gs', rfl, h'⟩
    · exact absurd h' h0
    exact eqInk_same G G' n c c' ink w hn hcap hsm (Nat.lt_of_lt_of_le h.ghi h.top) (Nat.lt_of_lt_of_le h'.ghi h'.top) (h.rows hn) (h'.rows hn)
end Go.Proofs.Ytklfmlbokedbdaa.owned
