/-
  Proved: both functions that cut ink answer as the document's definition, and their answers lie in blocks of their own (contracts of the callees of the law on CutInk).
  Conditions: the ink lies in a row of its own.
-/
import Derived.Test.YtklfmlbokedbdaaAddBoth
namespace Go.Proofs.Ytklfmlbokedbdaa.owned
open Go.ChangeShapes Go.WideShapes Go.ChangeAt Go.RowKit Go.Joins
open Go.Proofs.Ytklfmlbokedbdaa.join Go.Proofs.Ytklfmlbokedbdaa.strokes Go.Proofs.Ytklfmlbokedbdaa.valid Go.Proofs.Ytklfmlbokedbdaa.inks Go.Proofs.Ytklfmlbokedbdaa.inkOk
open Go.Proofs.Ytklfmlbokedbdaa.count (vI_len)
set_option linter.unusedVariables false

set_option maxHeartbeats 1000000 in
theorem l00In_yes (a b c : Int) (w : World) (h1 : b ≤ a) (h2 : a ≤ c) : Calls Try.prog 74 #[.int .i64 a, .int .i64 b, .int .i64 c] w fun e w' => e = .returned (.bool true) ∧ w = w' := by
  go_enter Try.func74, Try.ntmps74
  go_wp2
  go_ret
  exact ⟨rfl, by trivial⟩
set_option maxHeartbeats 1000000 in
theorem l00In_no (a b c : Int) (w : World) (h : ¬ (b ≤ a ∧ a ≤ c)) : Calls Try.prog 74 #[.int .i64 a, .int .i64 b, .int .i64 c] w fun e w' => e = .returned (.bool false) ∧ w = w' := by
  by_cases h1 : b ≤ a
  · have h2 : ¬ a ≤ c := fun h2 => h ⟨h1, h2⟩
    have h2' : c < a := by omega
    clear h
    go_enter Try.func74, Try.ntmps74
    go_wp2
    go_ret
    exact ⟨rfl, by trivial⟩
  · have h1' : a < b := by omega
    clear h
    go_enter Try.func74, Try.ntmps74
    go_wp2
    go_ret
    exact ⟨rfl, by trivial⟩

/-- What a function with an ink and two numbers does. -/
def Takes (f : Nat) (n : Nat) (ink : List (List P3)) (x y : Int) (res : List (List P3)) (code : Int) : Prop :=
  ∀ (G : Nat) (W : World), G < W.heap.size → RowsFrom 0 W G ink →
    Calls Try.prog f #[inkV G n, .int .i64 x, .int .i64 y] W fun e w' => ∃ A c, e = .returned (.tuple #[.agg #[.slice A res.length c], .int .i64 code]) ∧ OwnInk W.heap.size w'.heap.size w' A res.length (FI res) ∧ Below W.heap.size W w'
theorem takes_err {f n : Nat} {ink : List (List P3)} {x y code : Int} (h : ∀ (G : Nat) (W : World), G < W.heap.size → RowsFrom 0 W G ink →
    Calls Try.prog f #[inkV G n, .int .i64 x, .int .i64 y] W fun e w' => e = .returned (.tuple #[.agg #[.slice none 0 0], .int .i64 code]) ∧ Below W.heap.size W w') : Takes f n ink x y [] code :=
  fun G W h1 h3 => (h G W h1 h3).mono fun e w' ⟨he, hb⟩ => ⟨none, 0, he, .inl rfl, hb⟩

theorem res_new1 (w : World) (a : Obj) : ((w.alloc a).alloc (.cells #[.slice none 0 0] 40)).heap[w.heap.size + 1]? = some (.cells #[.slice none 0 0] 40 (0, 0)) := by
  have h := heap_alloc_new (w.alloc a) (.cells #[.slice none 0 0] 40)
  have e : (w.alloc a).heap.size = w.heap.size + 1 := by simp
  rw [e] at h
  exact h

set_option maxHeartbeats 2000000 in
theorem specCut_bad (x y : Int) (n : Nat) (ink : List (List P3)) (hn : ink.length = n) (hcap : n ≤ 1048576) (hsm : ∀ q ∈ ink, q.length ≤ 1048576) (hv : vI ink = false) : Takes 41 n ink x y [] 1 := takes_err fun G w hg hp => by
  have HN := Lib.hid hn
  have HP := Lib.hid (hp.below (below_alloc2 w (.cells #[.slice (some ⟨G, 0, none⟩) n n] 40) (.cells #[.slice none 0 0] 40)) hg)
  have HM := Lib.hid hsm
  have HV := Lib.hid hv
  clear hn hp hsm hv
  go_enter Try.func41, Try.ntmps41
  go_wp2_with fail
  refine (l02Ok_calls (C := n) (o := 0) w.heap.size G n ink _ HN.out hcap HM.out (by simp; omega) (by simp; omega) (by simp) HP.out).mono ?_
  rintro e w1 ⟨rfl, hb1⟩
  rw [HV.out]
  have HR := Lib.hid ((hb1.block _ (by simp)).trans (res_new1 w _))
  have r0 := (cell_of_block HR.out 0).trans (show _ = some (Value.slice none 0 0) from rfl)
  have rf := unfrozen_of_block HR.out
  have rz := lt_of_cells HR.out
  have HF := Lib.hid ((below_alloc2 w _ _).trans (hb1.mono (below_alloc2 w _ _).size))
  clear hb1
  go_wp2
  exact bodyPost_ret (v := .tuple #[.agg #[.slice none 0 0], .int .i64 1]) (by simp [results, Try.results41, go_sem, r0]) rfl ⟨rfl, HF.out.setCell (show w.heap.size ≤ w.heap.size + 1 by omega) _⟩

set_option maxHeartbeats 2000000 in
theorem specCut_range (x y : Int) (n : Nat) (ink : List (List P3)) (hn : ink.length = n) (hcap : n ≤ 1048576) (hsm : ∀ q ∈ ink, q.length ≤ 1048576) (hv : vI ink = true) (hx : ¬ (0 ≤ x ∧ x ≤ y ∧ y ≤ (n : Int))) : Takes 41 n ink x y [] 2 := takes_err fun G w hg hp => by
  have HN := Lib.hid hn
  have HP := Lib.hid (hp.below (below_alloc2 w (.cells #[.slice (some ⟨G, 0, none⟩) n n] 40) (.cells #[.slice none 0 0] 40)) hg)
  have HM := Lib.hid hsm
  have HV := Lib.hid hv
  clear hn hp hsm hv
  by_cases hxy : 0 ≤ x ∧ x ≤ y
  · have hy : (n : Int) < y := by omega
    go_enter Try.func41, Try.ntmps41
    go_wp2_with fail
    refine (l02Ok_calls (C := n) (o := 0) w.heap.size G n ink _ HN.out hcap HM.out (by simp; omega) (by simp; omega) (by simp) HP.out).mono ?_
    rintro e w1 ⟨rfl, hb1⟩
    rw [HV.out]
    have HR := Lib.hid ((hb1.block _ (by simp)).trans (res_new1 w _))
    have r0 := (cell_of_block HR.out 0).trans (show _ = some (Value.slice none 0 0) from rfl)
    have rf := unfrozen_of_block HR.out
    have rz := lt_of_cells HR.out
    have a3 := (hb1.cell (p := ⟨w.heap.size, 0, none⟩) (by simp; omega)).trans (show _ = some (Value.slice (some ⟨G, 0, none⟩) n n) by simp)
    have az : w.heap.size < w1.heap.size := by omega
    have HF := Lib.hid ((below_alloc2 w _ _).trans (hb1.mono (below_alloc2 w _ _).size))
    clear hb1
    go_wp2_with fail
    refine (l00In_yes x 0 y _ hxy.1 hxy.2).mono ?_
    rintro e w2 ⟨rfl, rfl⟩
    go_wp2
    exact bodyPost_ret (v := .tuple #[.agg #[.slice none 0 0], .int .i64 2]) (by simp [results, Try.results41, go_sem, r0]) rfl ⟨rfl, HF.out.setCell (show w.heap.size ≤ w.heap.size + 1 by omega) _⟩
  · go_enter Try.func41, Try.ntmps41
    go_wp2_with fail
    refine (l02Ok_calls (C := n) (o := 0) w.heap.size G n ink _ HN.out hcap HM.out (by simp; omega) (by simp; omega) (by simp) HP.out).mono ?_
    rintro e w1 ⟨rfl, hb1⟩
    rw [HV.out]
    have HR := Lib.hid ((hb1.block _ (by simp)).trans (res_new1 w _))
    have r0 := (cell_of_block HR.out 0).trans (show _ = some (Value.slice none 0 0) from rfl)
    have rf := unfrozen_of_block HR.out
    have rz := lt_of_cells HR.out
    have HF := Lib.hid ((below_alloc2 w _ _).trans (hb1.mono (below_alloc2 w _ _).size))
    clear hb1
    go_wp2_with fail
    refine (l00In_no x 0 y _ hxy).mono ?_
    rintro e w2 ⟨rfl, rfl⟩
    go_wp2
    exact bodyPost_ret (v := .tuple #[.agg #[.slice none 0 0], .int .i64 2]) (by simp [results, Try.results41, go_sem, r0]) rfl ⟨rfl, HF.out.setCell (show w.heap.size ≤ w.heap.size + 1 by omega) _⟩

theorem FI_cut {ink : List (List P3)} {a b i : Nat} (h : i < b - a) : FI ((ink.drop a).take (b - a)) i = FI ink (a + i) := by
  unfold FI
  rw [List.getElem?_take_of_lt h, List.getElem?_drop]
theorem len_cut {ink : List (List P3)} {a b n : Nat} (hn : ink.length = n) (hb : b ≤ n) : ((ink.drop a).take (b - a)).length = b - a := by simp; omega

theorem src_cut {w : World} {G n a b : Nat} {ink : List (List P3)} (hn : ink.length = n) (hv : vI ink = true) (hb : b ≤ n) (hg : G < w.heap.size) (hp : RowsFrom 0 w G ink) : SrcRows w (some ⟨G, a, none⟩) (b - a) (FI ((ink.drop a).take (b - a))) := fun i hi => by
  have hil : a + i < ink.length := by omega
  have e := List.getElem?_eq_getElem hil
  obtain ⟨g, c, -, hgl, p0, hpt⟩ := hp (a + i) _ e
  have hl := vI_len hv e
  rw [FI_cut hi, FI_at e]
  exact ⟨G, a, g, c, rfl, hg, p0, hgl, hpt, hl.1, by omega⟩

set_option maxHeartbeats 4000000 in
theorem specCut_ok (a b : Nat) (n : Nat) (ink : List (List P3)) (hn : ink.length = n) (hcap : n ≤ 1048576) (hsm : ∀ q ∈ ink, q.length ≤ 1048576) (hv : vI ink = true) (hab : a ≤ b) (hbn : b ≤ n) (han : a < n) : Takes 41 n ink (a : Int) (b : Int) ((ink.drop a).take (b - a)) 0 := by
  unfold Takes
  rw [len_cut hn hbn]
  intro G w hg hp
  have HN := Lib.hid hn
  have HP := Lib.hid (hp.below (below_alloc2 w (.cells #[.slice (some ⟨G, 0, none⟩) n n] 40) (.cells #[.slice none 0 0] 40)) hg)
  have HM := Lib.hid hsm
  have HV := Lib.hid hv
  clear hn hp hsm hv
  have i1 : (0 : Int) ≤ (a : Int) := by omega
  have i2 : (a : Int) ≤ (b : Int) := by omega
  have i3 : ¬ ((n : Int) < (b : Int)) := by omega
  have i4 : (b : Int) ≤ (n : Int) := by omega
  have i5 : ¬ n = a := by omega
  go_enter Try.func41, Try.ntmps41
  go_wp2_with fail
  refine (l02Ok_calls (C := n) (o := 0) w.heap.size G n ink _ HN.out hcap HM.out (by simp; omega) (by simp; omega) (by simp) HP.out).mono ?_
  rintro e w1 ⟨rfl, hb1⟩
  rw [HV.out]
  have HR := Lib.hid ((hb1.block _ (by simp)).trans (res_new1 w _))
  have rz := lt_of_cells HR.out
  have a3 := (hb1.cell (p := ⟨w.heap.size, 0, none⟩) (by simp; omega)).trans (show _ = some (Value.slice (some ⟨G, 0, none⟩) n n) by simp)
  have az : w.heap.size < w1.heap.size := by omega
  have hG1 : G < w1.heap.size := by omega
  have HP1 := Lib.hid (HP.out.below hb1 (by simp; omega))
  have HF := Lib.hid ((below_alloc2 w _ _).trans (hb1.mono (below_alloc2 w _ _).size))
  clear hb1 HP
  go_wp2_with fail
  refine (l00In_yes (a : Int) 0 (b : Int) _ i1 i2).mono ?_
  rintro e w2 ⟨rfl, rfl⟩
  have HSR := Lib.hid ((src_cut (a := a) (b := b) HN.out HV.out hbn hG1 HP1.out).below (below_alloc1 w1 (.cells #[.slice (some ⟨G, a, none⟩) (b - a) (n - a)] 40)))
  go_wp2_with fail
  refine (l02Own_calls (o := 0) (C := n - a) w1.heap.size (b - a) (some ⟨G, a, none⟩) (FI ((ink.drop a).take (b - a))) _ (by omega) (by simp) (by simp) HSR.out).mono ?_
  rintro e w4 ⟨A, c4, gs, cs, rfl, hbd, hb4⟩
  have HB4 := Lib.hid ((below_alloc1 w1 (.cells #[.slice (some ⟨G, a, none⟩) (b - a) (n - a)] 40)).trans (hb4.mono (below_alloc1 w1 _).size))
  have HR4 := Lib.hid ((HB4.out.block _ rz).trans HR.out)
  have r0 := (cell_of_block HR4.out 0).trans (show _ = some (Value.slice none 0 0) from rfl)
  have rf := unfrozen_of_block HR4.out
  have rz4 := lt_of_cells HR4.out
  have hw1 : w.heap.size ≤ w1.heap.size := HF.out.size
  have HD := Lib.hid (hbd.mono (base' := w.heap.size) (by simp; omega))
  have HF4 := Lib.hid (HF.out.trans (HB4.out.mono HF.out.size))
  clear hbd hb4 HSR HF HB4
  go_wp2
  exact bodyPost_ret (v := .tuple #[.agg #[.slice A (b - a) c4], .int .i64 0]) (by simp [results, Try.results41, go_sem, r0]) rfl ⟨A, c4, rfl, (HD.out.set HR4.out _).ink, HF4.out.setCell (show w.heap.size ≤ w.heap.size + 1 by omega) _⟩

set_option maxHeartbeats 4000000 in
theorem specCut_end (n : Nat) (ink : List (List P3)) (hn : ink.length = n) (hcap : n ≤ 1048576) (hsm : ∀ q ∈ ink, q.length ≤ 1048576) (hv : vI ink = true) : Takes 41 n ink (n : Int) (n : Int) [] 0 := by
  intro G w hg hp
  have HN := Lib.hid hn
  have HP := Lib.hid (hp.below (below_alloc2 w (.cells #[.slice (some ⟨G, 0, none⟩) n n] 40) (.cells #[.slice none 0 0] 40)) hg)
  have HM := Lib.hid hsm
  have HV := Lib.hid hv
  clear hn hp hsm hv
  have i1 : (0 : Int) ≤ (n : Int) := by omega
  go_enter Try.func41, Try.ntmps41
  go_wp2_with fail
  refine (l02Ok_calls (C := n) (o := 0) w.heap.size G n ink _ HN.out hcap HM.out (by simp; omega) (by simp; omega) (by simp) HP.out).mono ?_
  rintro e w1 ⟨rfl, hb1⟩
  rw [HV.out]
  have HR := Lib.hid ((hb1.block _ (by simp)).trans (res_new1 w _))
  have rz := lt_of_cells HR.out
  have a3 := (hb1.cell (p := ⟨w.heap.size, 0, none⟩) (by simp; omega)).trans (show _ = some (Value.slice (some ⟨G, 0, none⟩) n n) by simp)
  have az : w.heap.size < w1.heap.size := by omega
  have HF := Lib.hid ((below_alloc2 w _ _).trans (hb1.mono (below_alloc2 w _ _).size))
  clear hb1 HP
  go_wp2_with fail
  refine (l00In_yes (n : Int) 0 (n : Int) _ i1 (Int.le_refl _)).mono ?_
  rintro e w2 ⟨rfl, rfl⟩
  go_wp2_with fail
  refine (l02Own_calls (o := 0) (C := 0) w1.heap.size 0 (some ⟨G, 0, none⟩) (FI []) _ (by omega) (by simp) (by simp) (fun i hi => absurd hi (by omega))).mono ?_
  rintro e w4 ⟨A, c4, gs, cs, rfl, hbd, hb4⟩
  have HB4 := Lib.hid ((below_alloc1 w1 (.cells #[.slice (some ⟨G, 0, none⟩) 0 0] 40)).trans (hb4.mono (below_alloc1 w1 _).size))
  have HR4 := Lib.hid ((HB4.out.block _ rz).trans HR.out)
  have r0 := (cell_of_block HR4.out 0).trans (show _ = some (Value.slice none 0 0) from rfl)
  have rf := unfrozen_of_block HR4.out
  have rz4 := lt_of_cells HR4.out
  have HF4 := Lib.hid (HF.out.trans (HB4.out.mono HF.out.size))
  clear hbd hb4 HF HB4
  go_wp2
  exact bodyPost_ret (v := .tuple #[.agg #[.slice A 0 c4], .int .i64 0]) (by simp [results, Try.results41, go_sem, r0]) rfl ⟨A, c4, rfl, .inl rfl, HF4.out.setCell (show w.heap.size ≤ w.heap.size + 1 by omega) _⟩
end Go.Proofs.Ytklfmlbokedbdaa.owned
