/-
  Proved: the program's function that cuts ink answers as the document's definition, and its answer lies in blocks of its own; both functions give the same answer.
  Conditions: the ink lies in a row of its own.
-/
import Derived.Test.YtklfmlbokedbdaaCut
namespace Go.Proofs.Ytklfmlbokedbdaa.owned
open Go.ChangeShapes Go.WideShapes Go.ChangeAt Go.RowKit Go.Joins
open Go.Proofs.Ytklfmlbokedbdaa.join Go.Proofs.Ytklfmlbokedbdaa.strokes Go.Proofs.Ytklfmlbokedbdaa.valid Go.Proofs.Ytklfmlbokedbdaa.inks Go.Proofs.Ytklfmlbokedbdaa.inkOk
open Go.Proofs.Ytklfmlbokedbdaa.count (vI_len)
set_option linter.unusedVariables false

set_option maxHeartbeats 2000000 in
theorem implCut_bad (x y : Int) (n : Nat) (ink : List (List P3)) (hn : ink.length = n) (hcap : n ≤ 1048576) (hsm : ∀ q ∈ ink, q.length ≤ 1048576) (hv : vI ink = false) : Takes 42 n ink x y [] 1 := takes_err fun G w hg hp => by
  have HN := Lib.hid hn
  have HP := Lib.hid (hp.below (below_alloc2 w (.cells #[.slice (some ⟨G, 0, none⟩) n n] 40) (.cells #[.slice none 0 0] 40)) hg)
  have HM := Lib.hid hsm
  have HV := Lib.hid hv
  clear hn hp hsm hv
  go_enter Try.func42, Try.ntmps42
  go_wp2_with fail
  refine (implValidInk_calls G n ink _ HN.out hcap HM.out (by simp; omega) HP.out).mono ?_
  rintro e w1 ⟨rfl, hb1⟩
  rw [HV.out]
  have HR := Lib.hid ((hb1.block _ (by simp)).trans (res_new1 w _))
  have r0 := (cell_of_block HR.out 0).trans (show _ = some (Value.slice none 0 0) from rfl)
  have rf := unfrozen_of_block HR.out
  have rz := lt_of_cells HR.out
  have HF := Lib.hid ((below_alloc2 w _ _).trans (hb1.mono (below_alloc2 w _ _).size))
  clear hb1
  go_wp2
  exact bodyPost_ret (v := .tuple #[.agg #[.slice none 0 0], .int .i64 1]) (by simp [results, Try.results42, go_sem, r0]) rfl ⟨rfl, HF.out.setCell (show w.heap.size ≤ w.heap.size + 1 by omega) _⟩

set_option maxHeartbeats 2000000 in
theorem implCut_range (x y : Int) (n : Nat) (ink : List (List P3)) (hn : ink.length = n) (hcap : n ≤ 1048576) (hsm : ∀ q ∈ ink, q.length ≤ 1048576) (hv : vI ink = true) (hx : ¬ (0 ≤ x ∧ x ≤ y ∧ y ≤ (n : Int))) : Takes 42 n ink x y [] 2 := takes_err fun G w hg hp => by
  have HN := Lib.hid hn
  have HP := Lib.hid (hp.below (below_alloc2 w (.cells #[.slice (some ⟨G, 0, none⟩) n n] 40) (.cells #[.slice none 0 0] 40)) hg)
  have HM := Lib.hid hsm
  have HV := Lib.hid hv
  clear hn hp hsm hv
  by_cases h1 : x < 0
  · clear hx
    go_enter Try.func42, Try.ntmps42
    go_wp2_with fail
    refine (implValidInk_calls G n ink _ HN.out hcap HM.out (by simp; omega) HP.out).mono ?_
    rintro e w1 ⟨rfl, hb1⟩
    rw [HV.out]
    have HR := Lib.hid ((hb1.block _ (by simp)).trans (res_new1 w _))
    have r0 := (cell_of_block HR.out 0).trans (show _ = some (Value.slice none 0 0) from rfl)
    have rf := unfrozen_of_block HR.out
    have rz := lt_of_cells HR.out
    have a3 := (hb1.cell (p := ⟨w.heap.size, 0, none⟩) (by simp; omega)).trans (show _ = some (Value.slice (some ⟨G, 0, none⟩) n n) by simp)
    have az : w.heap.size < w1.heap.size := by omega
    have HF := Lib.hid ((below_alloc2 w _ _).trans (hb1.mono (below_alloc2 w _ _).size))
    clear hb1
    go_wp2
    exact bodyPost_ret (v := .tuple #[.agg #[.slice none 0 0], .int .i64 2]) (by simp [results, Try.results42, go_sem, r0]) rfl ⟨rfl, HF.out.setCell (show w.heap.size ≤ w.heap.size + 1 by omega) _⟩
  · by_cases h2 : y < x
    · clear hx
      go_enter Try.func42, Try.ntmps42
      go_wp2_with fail
      refine (implValidInk_calls G n ink _ HN.out hcap HM.out (by simp; omega) HP.out).mono ?_
      rintro e w1 ⟨rfl, hb1⟩
      rw [HV.out]
      have HR := Lib.hid ((hb1.block _ (by simp)).trans (res_new1 w _))
      have r0 := (cell_of_block HR.out 0).trans (show _ = some (Value.slice none 0 0) from rfl)
      have rf := unfrozen_of_block HR.out
      have rz := lt_of_cells HR.out
      have a3 := (hb1.cell (p := ⟨w.heap.size, 0, none⟩) (by simp; omega)).trans (show _ = some (Value.slice (some ⟨G, 0, none⟩) n n) by simp)
      have az : w.heap.size < w1.heap.size := by omega
      have HF := Lib.hid ((below_alloc2 w _ _).trans (hb1.mono (below_alloc2 w _ _).size))
      clear hb1
      go_wp2
      exact bodyPost_ret (v := .tuple #[.agg #[.slice none 0 0], .int .i64 2]) (by simp [results, Try.results42, go_sem, r0]) rfl ⟨rfl, HF.out.setCell (show w.heap.size ≤ w.heap.size + 1 by omega) _⟩
    · have h3 : (n : Int) < y := by omega
      clear hx
      go_enter Try.func42, Try.ntmps42
      go_wp2_with fail
      refine (implValidInk_calls G n ink _ HN.out hcap HM.out (by simp; omega) HP.out).mono ?_
      rintro e w1 ⟨rfl, hb1⟩
      rw [HV.out]
      have HR := Lib.hid ((hb1.block _ (by simp)).trans (res_new1 w _))
      have r0 := (cell_of_block HR.out 0).trans (show _ = some (Value.slice none 0 0) from rfl)
      have rf := unfrozen_of_block HR.out
      have rz := lt_of_cells HR.out
      have a3 := (hb1.cell (p := ⟨w.heap.size, 0, none⟩) (by simp; omega)).trans (show _ = some (Value.slice (some ⟨G, 0, none⟩) n n) by simp)
      have az : w.heap.size < w1.heap.size := by omega
      have HF := Lib.hid ((below_alloc2 w _ _).trans (hb1.mono (below_alloc2 w _ _).size))
      clear hb1
      go_wp2
      exact bodyPost_ret (v := .tuple #[.agg #[.slice none 0 0], .int .i64 2]) (by simp [results, Try.results42, go_sem, r0]) rfl ⟨rfl, HF.out.setCell (show w.heap.size ≤ w.heap.size + 1 by omega) _⟩

set_option maxHeartbeats 4000000 in
theorem implCut_ok (a b : Nat) (n : Nat) (ink : List (List P3)) (hn : ink.length = n) (hcap : n ≤ 1048576) (hsm : ∀ q ∈ ink, q.length ≤ 1048576) (hv : vI ink = true) (hab : a ≤ b) (hbn : b ≤ n) (han : a < n) : Takes 42 n ink (a : Int) (b : Int) ((ink.drop a).take (b - a)) 0 := by
  unfold Takes
  rw [len_cut hn hbn]
  intro G w hg hp
  have HN := Lib.hid hn
  have HP := Lib.hid (hp.below (below_alloc2 w (.cells #[.slice (some ⟨G, 0, none⟩) n n] 40) (.cells #[.slice none 0 0] 40)) hg)
  have HM := Lib.hid hsm
  have HV := Lib.hid hv
  clear hn hp hsm hv
  have i1 : (0 : Int) ≤ (a : Int) := by omega
  have i2 : (a : Int) ≤ (b : Int) := by omega
  have i3 : ¬ ((n : Int) < (b : Int)) := by omega
  have i6 : ¬ ((a : Int) < 0) := by omega
  have i7 : ¬ ((b : Int) < (a : Int)) := by omega
  have i4 : (b : Int) ≤ (n : Int) := by omega
  have i5 : ¬ n = a := by omega
  go_enter Try.func42, Try.ntmps42
  go_wp2_with fail
  refine (implValidInk_calls G n ink _ HN.out hcap HM.out (by simp; omega) HP.out).mono ?_
  rintro e w1 ⟨rfl, hb1⟩
  rw [HV.out]
  have HR := Lib.hid ((hb1.block _ (by simp)).trans (res_new1 w _))
  have rz := lt_of_cells HR.out
  have a3 := (hb1.cell (p := ⟨w.heap.size, 0, none⟩) (by simp; omega)).trans (show _ = some (Value.slice (some ⟨G, 0, none⟩) n n) by simp)
  have az : w.heap.size < w1.heap.size := by omega
  have hG1 : G < w1.heap.size := by omega
  have HP1 := Lib.hid (HP.out.below hb1 (by simp; omega))
  have HF := Lib.hid ((below_alloc2 w _ _).trans (hb1.mono (below_alloc2 w _ _).size))
  clear hb1 HP
  have HSR := Lib.hid (src_cut (a := a) (b := b) HN.out HV.out hbn hG1 HP1.out)
  go_wp2_with fail
  refine (copyStrokes_calls (C := n - a) (some ⟨G, a, none⟩) (b - a) (FI ((ink.drop a).take (b - a))) _ (by omega) HSR.out).mono ?_
  rintro e w4 ⟨A, c4, gs, cs, rfl, hbd, hb4⟩
  have HB4 := Lib.hid hb4
  have HR4 := Lib.hid ((HB4.out.block _ rz).trans HR.out)
  have r0 := (cell_of_block HR4.out 0).trans (show _ = some (Value.slice none 0 0) from rfl)
  have rf := unfrozen_of_block HR4.out
  have rz4 := lt_of_cells HR4.out
  have hw1 : w.heap.size ≤ w1.heap.size := HF.out.size
  have HD := Lib.hid (hbd.mono (base' := w.heap.size) (by omega))
  have HF4 := Lib.hid (HF.out.trans (HB4.out.mono HF.out.size))
  clear hbd hb4 HSR HF HB4
  go_wp2
  exact bodyPost_ret (v := .tuple #[.agg #[.slice A (b - a) c4], .int .i64 0]) (by simp [results, Try.results42, go_sem, r0]) rfl ⟨A, c4, rfl, (HD.out.set HR4.out _).ink, HF4.out.setCell (show w.heap.size ≤ w.heap.size + 1 by omega) _⟩

set_option maxHeartbeats 4000000 in
theorem implCut_end (n : Nat) (ink : List (List P3)) (hn : ink.length = n) (hcap : n ≤ 1048576) (hsm : ∀ q ∈ ink, q.length ≤ 1048576) (hv : vI ink = true) : Takes 42 n ink (n : Int) (n : Int) [] 0 := by
  intro G w hg hp
  have HN := Lib.hid hn
  have HP := Lib.hid (hp.below (below_alloc2 w (.cells #[.slice (some ⟨G, 0, none⟩) n n] 40) (.cells #[.slice none 0 0] 40)) hg)
  have HM := Lib.hid hsm
  have HV := Lib.hid hv
  clear hn hp hsm hv
  have i1 : (0 : Int) ≤ (n : Int) := by omega
  have i6 : ¬ ((n : Int) < 0) := by omega
  go_enter Try.func42, Try.ntmps42
  go_wp2_with fail
  refine (implValidInk_calls G n ink _ HN.out hcap HM.out (by simp; omega) HP.out).mono ?_
  rintro e w1 ⟨rfl, hb1⟩
  rw [HV.out]
  have HR := Lib.hid ((hb1.block _ (by simp)).trans (res_new1 w _))
  have rz := lt_of_cells HR.out
  have a3 := (hb1.cell (p := ⟨w.heap.size, 0, none⟩) (by simp; omega)).trans (show _ = some (Value.slice (some ⟨G, 0, none⟩) n n) by simp)
  have az : w.heap.size < w1.heap.size := by omega
  have HF := Lib.hid ((below_alloc2 w _ _).trans (hb1.mono (below_alloc2 w _ _).size))
  clear hb1 HP
  go_wp2_with fail
  refine (copyStrokes_calls (C := 0) (some ⟨G, 0, none⟩) 0 (FI []) _ (by omega) (fun i hi => absurd hi (by omega))).mono ?_
  rintro e w4 ⟨A, c4, gs, cs, rfl, hbd, hb4⟩
  have HB4 := Lib.hid hb4
  have HR4 := Lib.hid ((HB4.out.block _ rz).trans HR.out)
  have r0 := (cell_of_block HR4.out 0).trans (show _ = some (Value.slice none 0 0) from rfl)
  have rf := unfrozen_of_block HR4.out
  have rz4 := lt_of_cells HR4.out
  have HF4 := Lib.hid (HF.out.trans (HB4.out.mono HF.out.size))
  clear hbd hb4 HF HB4
  go_wp2
  exact bodyPost_ret (v := .tuple #[.agg #[.slice A 0 c4], .int .i64 0]) (by simp [results, Try.results42, go_sem, r0]) rfl ⟨A, c4, rfl, .inl rfl, HF4.out.setCell (show w.heap.size ≤ w.heap.size + 1 by omega) _⟩

theorem both_cut (n : Nat) (ink : List (List P3)) (x y : Int) (hn : ink.length = n) (hcap : n ≤ 1048576) (hsm : ∀ q ∈ ink, q.length ≤ 1048576) :
    ∃ (res : List (List P3)) (code : Int), Hid (Takes 41 n ink x y res code) ∧ Hid (Takes 42 n ink x y res code) ∧ res.length ≤ 17 ∧ Hid (∀ q ∈ res, q.length ≤ 60) := by
  cases hv : vI ink with
  | false => exact ⟨[], 1, Lib.hid (specCut_bad x y n ink hn hcap hsm hv), Lib.hid (implCut_bad x y n ink hn hcap hsm hv), by simp, Lib.hid (by simp)⟩
  | true =>
    have h16 := (vI_out hv).1
    by_cases hr : 0 ≤ x ∧ x ≤ y ∧ y ≤ (n : Int)
    · obtain ⟨a, rfl⟩ : ∃ a : Nat, x = a := ⟨x.toNat, by omega⟩
      obtain ⟨b, rfl⟩ : ∃ b : Nat, y = b := ⟨y.toNat, by omega⟩
      by_cases han : a < n
      · refine ⟨_, 0, Lib.hid (specCut_ok a b n ink hn hcap hsm hv (by omega) (by omega) han), Lib.hid (implCut_ok a b n ink hn hcap hsm hv (by omega) (by omega) han), by simp; omega, Lib.hid fun q hq => ?_⟩
        obtain ⟨i, hi⟩ := List.getElem?_of_mem (List.mem_of_mem_drop (List.mem_of_mem_take hq))
        exact (vI_len hv hi).2
      · obtain rfl : a = n := by omega
        obtain rfl : b = a := by omega
        exact ⟨[], 0, Lib.hid (specCut_end b ink hn hcap hsm hv), Lib.hid (implCut_end b ink hn hcap hsm hv), by simp, Lib.hid (by simp)⟩
    · exact ⟨[], 2, Lib.hid (specCut_range x y n ink hn hcap hsm hv hr), Lib.hid (implCut_range x y n ink hn hcap hsm hv hr), by simp, Lib.hid (by simp)⟩
end Go.Proofs.Ytklfmlbokedbdaa.owned
