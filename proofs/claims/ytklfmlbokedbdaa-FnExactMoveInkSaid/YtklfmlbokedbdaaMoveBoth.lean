/-
  Proved: both functions that move ink give the same answer, in blocks of its own (contracts of the callees of the law on MoveInk).
  Conditions: the ink lies in a row of its own; the numbers are of 64 bits.
-/
import Derived.Test.YtklfmlbokedbdaaMoveI
namespace Go.Proofs.Ytklfmlbokedbdaa.owned
open Go.ChangeShapes Go.WideShapes Go.ChangeAt Go.RowKit Go.Joins
open Go.Proofs.Ytklfmlbokedbdaa.join Go.Proofs.Ytklfmlbokedbdaa.strokes Go.Proofs.Ytklfmlbokedbdaa.valid Go.Proofs.Ytklfmlbokedbdaa.inks Go.Proofs.Ytklfmlbokedbdaa.inkOk
open Go.Proofs.Ytklfmlbokedbdaa.count (vI_len)
set_option linter.unusedVariables false

def mvI (x y : Int) (ink : List (List P3)) : List (List P3) := ink.map (mvS x y)
theorem mvI_len {x y : Int} {ink : List (List P3)} {n : Nat} (h : ink.length = n) : (mvI x y ink).length = n := by simp [mvI, h]
theorem FI_mvI {x y : Int} {ink : List (List P3)} {n i : Nat} (hn : ink.length = n) (hi : i < n) : FI (mvI x y ink) i = mvF x y (FI ink) n i := by
  have hl : i < ink.length := by omega
  have e := List.getElem?_eq_getElem hl
  simp [mvF, hi, FI, mvI, e]
theorem mvI_small {x y : Int} {ink : List (List P3)} {M : Nat} (h : ∀ q ∈ ink, q.length ≤ M) : ∀ q ∈ mvI x y ink, q.length ≤ M := by
  intro q hq
  simp only [mvI, List.mem_map] at hq
  obtain ⟨q', hq', rfl⟩ := hq
  rw [mvS_len]
  exact h q' hq'

set_option maxHeartbeats 1000000 in
theorem l02Ok_none {o C : Nat} (b : Nat) (A : Option Addr) (w : World) (hbz : b < w.heap.size) (hs : w.cell? ⟨b, o, none⟩ = some (.slice A 0 C)) :
    Calls Try.prog 53 #[.pointer (some ⟨b, o, none⟩)] w fun e w' => e = .returned (.bool true) ∧ Below w.heap.size w w' := by
  go_enter Try.func53, Try.ntmps53
  go_wp2
  go_loopw [3] (fun i w' => i = .int .i64 0 ∧ w = w') (fun _ _ => 0)
  case atStart => exact ⟨rfl, rfl⟩
  case round =>
    obtain ⟨rfl, rfl⟩ := hrel
    go_wp2
    go_ret
    exact ⟨rfl, Below.refl _ _⟩

set_option maxHeartbeats 1000000 in
theorem implValidInk_none {C : Nat} (A : Option Addr) (w : World) :
    Calls Try.prog 22 #[.agg #[.slice A 0 C]] w fun e w' => e = .returned (.bool true) ∧ Below w.heap.size w w' := by
  go_enter Try.func22, Try.ntmps22
  go_wp2
  go_loopw [12] (fun i w' => i = .int .i64 0 ∧ Hid (Below w.heap.size w w')) (fun _ _ => 0)
  case atStart => exact ⟨rfl, Lib.hid (below_alloc1 _ _)⟩
  case round =>
    obtain ⟨rfl, HB⟩ := hrel
    go_wp2
    go_ret
    exact ⟨rfl, HB.out⟩

set_option maxHeartbeats 2000000 in
theorem specMove_bad (x y : Int) (n : Nat) (ink : List (List P3)) (hn : ink.length = n) (hcap : n ≤ 1048576) (hsm : ∀ q ∈ ink, q.length ≤ 1048576) (hv : vI ink = false) : Takes 43 n ink x y [] 1 := takes_err fun G w hg hp => by
  have HN := Lib.hid hn
  have HP := Lib.hid (hp.below (below_alloc2 w (.cells #[.slice (some ⟨G, 0, none⟩) n n] 40) (.cells #[.slice none 0 0] 40)) hg)
  have HM := Lib.hid hsm
  have HV := Lib.hid hv
  clear hn hp hsm hv
  go_enter Try.func43, Try.ntmps43
  go_wp2_with fail
  refine (l02Ok_calls (C := n) (o := 0) w.heap.size G n ink _ HN.out hcap HM.out (by simp; omega) (by simp; omega) (by simp) HP.out).mono ?_
  rintro e w1 ⟨rfl, hb1⟩
  rw [HV.out]
  have HR := Lib.hid ((hb1.block _ (by simp)).trans (res_new1 w _))
  have rz := lt_of_cells HR.out
  have a3 := (hb1.cell (p := ⟨w.heap.size, 0, none⟩) (by simp; omega)).trans (show _ = some (Value.slice (some ⟨G, 0, none⟩) n n) by simp)
  have az : w.heap.size < w1.heap.size := by omega
  have hG1 : G < w1.heap.size := by omega
  have HP1 := Lib.hid (HP.out.below hb1 (by simp; omega))
  have HF := Lib.hid ((below_alloc2 w _ _).trans (hb1.mono (below_alloc2 w _ _).size))
  clear hb1 HP
  have r0 := (cell_of_block HR.out 0).trans (show _ = some (Value.slice none 0 0) from rfl)
  have rf := unfrozen_of_block HR.out
  go_wp2
  exact bodyPost_ret (v := .tuple #[.agg #[.slice none 0 0], .int .i64 1]) (by simp [results, Try.results43, go_sem, r0]) rfl ⟨rfl, HF.out.setCell (show w.heap.size ≤ w.heap.size + 1 by omega) _⟩

set_option maxHeartbeats 2000000 in
theorem implMove_bad (x y : Int) (n : Nat) (ink : List (List P3)) (hn : ink.length = n) (hcap : n ≤ 1048576) (hsm : ∀ q ∈ ink, q.length ≤ 1048576) (hv : vI ink = false) : Takes 44 n ink x y [] 1 := takes_err fun G w hg hp => by
  have HN := Lib.hid hn
  have HP := Lib.hid (hp.below (below_alloc2 w (.cells #[.slice (some ⟨G, 0, none⟩) n n] 40) (.cells #[.slice none 0 0] 40)) hg)
  have HM := Lib.hid hsm
  have HV := Lib.hid hv
  clear hn hp hsm hv
  go_enter Try.func44, Try.ntmps44
  go_wp2_with fail
  refine (implValidInk_calls G n ink _ HN.out hcap HM.out (by simp; omega) HP.out).mono ?_
  rintro e w1 ⟨rfl, hb1⟩
  rw [HV.out]
  have HR := Lib.hid ((hb1.block _ (by simp)).trans (res_new1 w _))
  have rz := lt_of_cells HR.out
  have a3 := (hb1.cell (p := ⟨w.heap.size, 0, none⟩) (by simp; omega)).trans (show _ = some (Value.slice (some ⟨G, 0, none⟩) n n) by simp)
  have az : w.heap.size < w1.heap.size := by omega
  have hG1 : G < w1.heap.size := by omega
  have HP1 := Lib.hid (HP.out.below hb1 (by simp; omega))
  have HF := Lib.hid ((below_alloc2 w _ _).trans (hb1.mono (below_alloc2 w _ _).size))
  clear hb1 HP
  have r0 := (cell_of_block HR.out 0).trans (show _ = some (Value.slice none 0 0) from rfl)
  have rf := unfrozen_of_block HR.out
  go_wp2
  exact bodyPost_ret (v := .tuple #[.agg #[.slice none 0 0], .int .i64 1]) (by simp [results, Try.results44, go_sem, r0]) rfl ⟨rfl, HF.out.setCell (show w.heap.size ≤ w.heap.size + 1 by omega) _⟩

set_option maxHeartbeats 2000000 in
theorem specMove_farx (x y : Int) (n : Nat) (ink : List (List P3)) (hn : ink.length = n) (hcap : n ≤ 1048576) (hsm : ∀ q ∈ ink, q.length ≤ 1048576)(hv : vI ink = true) (hn0 : 0 < n) (hx : ¬ (-4095 ≤ x ∧ x ≤ 4095)) : Takes 43 n ink x y [] 2 := takes_err fun G w hg hp => by
  have hn1 : (0 : Int) < (n : Int) := by omega
  have HN := Lib.hid hn
  have HP := Lib.hid (hp.below (below_alloc2 w (.cells #[.slice (some ⟨G, 0, none⟩) n n] 40) (.cells #[.slice none 0 0] 40)) hg)
  have HM := Lib.hid hsm
  have HV := Lib.hid hv
  clear hn hp hsm hv
  go_enter Try.func43, Try.ntmps43
  go_wp2_with fail
  refine (l02Ok_calls (C := n) (o := 0) w.heap.size G n ink _ HN.out hcap HM.out (by simp; omega) (by simp; omega) (by simp) HP.out).mono ?_
  rintro e w1 ⟨rfl, hb1⟩
  rw [HV.out]
  have HR := Lib.hid ((hb1.block _ (by simp)).trans (res_new1 w _))
  have rz := lt_of_cells HR.out
  have a3 := (hb1.cell (p := ⟨w.heap.size, 0, none⟩) (by simp; omega)).trans (show _ = some (Value.slice (some ⟨G, 0, none⟩) n n) by simp)
  have az : w.heap.size < w1.heap.size := by omega
  have hG1 : G < w1.heap.size := by omega
  have HP1 := Lib.hid (HP.out.below hb1 (by simp; omega))
  have HF := Lib.hid ((below_alloc2 w _ _).trans (hb1.mono (below_alloc2 w _ _).size))
  clear hb1 HP
  have r0 := (cell_of_block HR.out 0).trans (show _ = some (Value.slice none 0 0) from rfl)
  have rf := unfrozen_of_block HR.out
  go_wp2_with fail
  refine (l00In_no x (-4095) 4095 _ hx).mono ?_
  rintro e w2 ⟨rfl, rfl⟩
  go_wp2
  exact bodyPost_ret (v := .tuple #[.agg #[.slice none 0 0], .int .i64 2]) (by simp [results, Try.results43, go_sem, r0]) rfl ⟨rfl, HF.out.setCell (show w.heap.size ≤ w.heap.size + 1 by omega) _⟩

set_option maxHeartbeats 2000000 in
theorem specMove_fary (x y : Int) (n : Nat) (ink : List (List P3)) (hn : ink.length = n) (hcap : n ≤ 1048576) (hsm : ∀ q ∈ ink, q.length ≤ 1048576)(hv : vI ink = true) (hn0 : 0 < n) (hx : -4095 ≤ x ∧ x ≤ 4095) (hy : ¬ (-4095 ≤ y ∧ y ≤ 4095)) : Takes 43 n ink x y [] 2 := takes_err fun G w hg hp => by
  have hn1 : (0 : Int) < (n : Int) := by omega
  have HN := Lib.hid hn
  have HP := Lib.hid (hp.below (below_alloc2 w (.cells #[.slice (some ⟨G, 0, none⟩) n n] 40) (.cells #[.slice none 0 0] 40)) hg)
  have HM := Lib.hid hsm
  have HV := Lib.hid hv
  clear hn hp hsm hv
  go_enter Try.func43, Try.ntmps43
  go_wp2_with fail
  refine (l02Ok_calls (C := n) (o := 0) w.heap.size G n ink _ HN.out hcap HM.out (by simp; omega) (by simp; omega) (by simp) HP.out).mono ?_
  rintro e w1 ⟨rfl, hb1⟩
  rw [HV.out]
  have HR := Lib.hid ((hb1.block _ (by simp)).trans (res_new1 w _))
  have rz := lt_of_cells HR.out
  have a3 := (hb1.cell (p := ⟨w.heap.size, 0, none⟩) (by simp; omega)).trans (show _ = some (Value.slice (some ⟨G, 0, none⟩) n n) by simp)
  have az : w.heap.size < w1.heap.size := by omega
  have hG1 : G < w1.heap.size := by omega
  have HP1 := Lib.hid (HP.out.below hb1 (by simp; omega))
  have HF := Lib.hid ((below_alloc2 w _ _).trans (hb1.mono (below_alloc2 w _ _).size))
  clear hb1 HP
  have r0 := (cell_of_block HR.out 0).trans (show _ = some (Value.slice none 0 0) from rfl)
  have rf := unfrozen_of_block HR.out
  go_wp2_with fail
  refine (l00In_yes x (-4095) 4095 _ hx.1 hx.2).mono ?_
  rintro e w2 ⟨rfl, rfl⟩
  go_wp2_with fail
  refine (l00In_no y (-4095) 4095 _ hy).mono ?_
  rintro e w3 ⟨rfl, rfl⟩
  go_wp2
  exact bodyPost_ret (v := .tuple #[.agg #[.slice none 0 0], .int .i64 2]) (by simp [results, Try.results43, go_sem, r0]) rfl ⟨rfl, HF.out.setCell (show w.heap.size ≤ w.heap.size + 1 by omega) _⟩

set_option maxHeartbeats 2000000 in
theorem specMove_zero1 (x y : Int) (ink : List (List P3)) (hn : ink.length = 0) (hcap : 0 ≤ 1048576) (hsm : ∀ q ∈ ink, q.length ≤ 1048576) (hv : vI ink = true) (hx : ¬ (-4095 ≤ x ∧ x ≤ 4095)) : Takes 43 0 ink x y [] 0 := by
  intro G w hg hp
  have HN := Lib.hid hn
  have HP := Lib.hid (hp.below (below_alloc2 w (.cells #[.slice (some ⟨G, 0, none⟩) 0 0] 40) (.cells #[.slice none 0 0] 40)) hg)
  have HM := Lib.hid hsm
  have HV := Lib.hid hv
  clear hn hp hsm hv
  go_enter Try.func43, Try.ntmps43
  go_wp2_with fail
  refine (l02Ok_calls (C := 0) (o := 0) w.heap.size G 0 ink _ HN.out hcap HM.out (by simp; omega) (by simp; omega) (by simp) HP.out).mono ?_
  rintro e w1 ⟨rfl, hb1⟩
  rw [HV.out]
  have HR := Lib.hid ((hb1.block _ (by simp)).trans (res_new1 w _))
  have rz := lt_of_cells HR.out
  have a3 := (hb1.cell (p := ⟨w.heap.size, 0, none⟩) (by simp; omega)).trans (show _ = some (Value.slice (some ⟨G, 0, none⟩) 0 0) by simp)
  have az : w.heap.size < w1.heap.size := by omega
  have hG1 : G < w1.heap.size := by omega
  have HP1 := Lib.hid (HP.out.below hb1 (by simp; omega))
  have HF := Lib.hid ((below_alloc2 w _ _).trans (hb1.mono (below_alloc2 w _ _).size))
  clear hb1 HP
  go_wp2_with fail
  refine (l00In_no x (-4095) 4095 _ hx).mono ?_
  rintro e w2 ⟨rfl, rfl⟩
  go_wp2_with fail
  refine (l02Move_none (o := 0) (C := 0) w.heap.size x y (some ⟨G, 0, none⟩) _ az a3).mono ?_
  rintro e w4 ⟨A, c, rfl, hb4⟩
  have HR4 := Lib.hid ((Below.heap_alloc w4 (.cells #[.slice A 0 c] 40) _ (Nat.lt_of_lt_of_le rz hb4.size)).trans ((hb4.block _ rz).trans HR.out))
  have HF4 := Lib.hid ((HF.out.trans (hb4.mono HF.out.size)).alloc (Nat.le_trans HF.out.size hb4.size) (.cells #[.slice A 0 c] 40))
  clear hb4 a3
  go_wp2_with fail
  refine (l02Ok_none (o := 0) (C := c) w4.heap.size A _ (by simp) (by simp)).mono ?_
  rintro e w5 ⟨rfl, hb5⟩
  have HR5 := Lib.hid ((hb5.block _ (lt_of_cells HR4.out)).trans HR4.out)
  have r0 := (cell_of_block HR5.out 0).trans (show _ = some (Value.slice none 0 0) from rfl)
  have rf := unfrozen_of_block HR5.out
  have rz5 := lt_of_cells HR5.out
  have t9 := (hb5.cell (p := ⟨w4.heap.size, 0, none⟩) (by simp)).trans (show _ = some (Value.slice A 0 c) by simp)
  have z9 : w4.heap.size < w5.heap.size := by have := hb5.size; simp at this; omega
  have HF5 := Lib.hid (HF4.out.trans (hb5.mono HF4.out.size))
  clear hb5
  go_wp2
  exact bodyPost_ret (v := .tuple #[.agg #[.slice A 0 c], .int .i64 0]) (by simp [results, Try.results43, go_sem, r0]) rfl ⟨A, c, rfl, .inl rfl, HF5.out.setCell (show w.heap.size ≤ w.heap.size + 1 by omega) _⟩

set_option maxHeartbeats 2000000 in
theorem specMove_zero2 (x y : Int) (ink : List (List P3)) (hn : ink.length = 0) (hcap : 0 ≤ 1048576) (hsm : ∀ q ∈ ink, q.length ≤ 1048576) (hv : vI ink = true) (hx : -4095 ≤ x ∧ x ≤ 4095) (hy : ¬ (-4095 ≤ y ∧ y ≤ 4095)) : Takes 43 0 ink x y [] 0 := by
  intro G w hg hp
  have HN := Lib.hid hn
  have HP := Lib.hid (hp.below (below_alloc2 w (.cells #[.slice (some ⟨G, 0, none⟩) 0 0] 40) (.cells #[.slice none 0 0] 40)) hg)
  have HM := Lib.hid hsm
  have HV := Lib.hid hv
  clear hn hp hsm hv
  go_enter Try.func43, Try.ntmps43
  go_wp2_with fail
  refine (l02Ok_calls (C := 0) (o := 0) w.heap.size G 0 ink _ HN.out hcap HM.out (by simp; omega) (by simp; omega) (by simp) HP.out).mono ?_
  rintro e w1 ⟨rfl, hb1⟩
  rw [HV.out]
  have HR := Lib.hid ((hb1.block _ (by simp)).trans (res_new1 w _))
  have rz := lt_of_cells HR.out
  have a3 := (hb1.cell (p := ⟨w.heap.size, 0, none⟩) (by simp; omega)).trans (show _ = some (Value.slice (some ⟨G, 0, none⟩) 0 0) by simp)
  have az : w.heap.size < w1.heap.size := by omega
  have hG1 : G < w1.heap.size := by omega
  have HP1 := Lib.hid (HP.out.below hb1 (by simp; omega))
  have HF := Lib.hid ((below_alloc2 w _ _).trans (hb1.mono (below_alloc2 w _ _).size))
  clear hb1 HP
  go_wp2_with fail
  refine (l00In_yes x (-4095) 4095 _ hx.1 hx.2).mono ?_
  rintro e w2 ⟨rfl, rfl⟩
  go_wp2_with fail
  refine (l00In_no y (-4095) 4095 _ hy).mono ?_
  rintro e w3 ⟨rfl, rfl⟩
  go_wp2_with fail
  refine (l02Move_none (o := 0) (C := 0) w.heap.size x y (some ⟨G, 0, none⟩) _ az a3).mono ?_
  rintro e w4 ⟨A, c, rfl, hb4⟩
  have HR4 := Lib.hid ((Below.heap_alloc w4 (.cells #[.slice A 0 c] 40) _ (Nat.lt_of_lt_of_le rz hb4.size)).trans ((hb4.block _ rz).trans HR.out))
  have HF4 := Lib.hid ((HF.out.trans (hb4.mono HF.out.size)).alloc (Nat.le_trans HF.out.size hb4.size) (.cells #[.slice A 0 c] 40))
  clear hb4 a3
  go_wp2_with fail
  refine (l02Ok_none (o := 0) (C := c) w4.heap.size A _ (by simp) (by simp)).mono ?_
  rintro e w5 ⟨rfl, hb5⟩
  have HR5 := Lib.hid ((hb5.block _ (lt_of_cells HR4.out)).trans HR4.out)
  have r0 := (cell_of_block HR5.out 0).trans (show _ = some (Value.slice none 0 0) from rfl)
  have rf := unfrozen_of_block HR5.out
  have rz5 := lt_of_cells HR5.out
  have t9 := (hb5.cell (p := ⟨w4.heap.size, 0, none⟩) (by simp)).trans (show _ = some (Value.slice A 0 c) by simp)
  have z9 : w4.heap.size < w5.heap.size := by have := hb5.size; simp at this; omega
  have HF5 := Lib.hid (HF4.out.trans (hb5.mono HF4.out.size))
  clear hb5
  go_wp2
  exact bodyPost_ret (v := .tuple #[.agg #[.slice A 0 c], .int .i64 0]) (by simp [results, Try.results43, go_sem, r0]) rfl ⟨A, c, rfl, .inl rfl, HF5.out.setCell (show w.heap.size ≤ w.heap.size + 1 by omega) _⟩

set_option maxHeartbeats 2000000 in
theorem specMove_zero3 (x y : Int) (ink : List (List P3)) (hn : ink.length = 0) (hcap : 0 ≤ 1048576) (hsm : ∀ q ∈ ink, q.length ≤ 1048576) (hv : vI ink = true) (hx : -4095 ≤ x ∧ x ≤ 4095) (hy : -4095 ≤ y ∧ y ≤ 4095) : Takes 43 0 ink x y [] 0 := by
  intro G w hg hp
  have HN := Lib.hid hn
  have HP := Lib.hid (hp.below (below_alloc2 w (.cells #[.slice (some ⟨G, 0, none⟩) 0 0] 40) (.cells #[.slice none 0 0] 40)) hg)
  have HM := Lib.hid hsm
  have HV := Lib.hid hv
  clear hn hp hsm hv
  go_enter Try.func43, Try.ntmps43
  go_wp2_with fail
  refine (l02Ok_calls (C := 0) (o := 0) w.heap.size G 0 ink _ HN.out hcap HM.out (by simp; omega) (by simp; omega) (by simp) HP.out).mono ?_
  rintro e w1 ⟨rfl, hb1⟩
  rw [HV.out]
  have HR := Lib.hid ((hb1.block _ (by simp)).trans (res_new1 w _))
  have rz := lt_of_cells HR.out
  have a3 := (hb1.cell (p := ⟨w.heap.size, 0, none⟩) (by simp; omega)).trans (show _ = some (Value.slice (some ⟨G, 0, none⟩) 0 0) by simp)
  have az : w.heap.size < w1.heap.size := by omega
  have hG1 : G < w1.heap.size := by omega
  have HP1 := Lib.hid (HP.out.below hb1 (by simp; omega))
  have HF := Lib.hid ((below_alloc2 w _ _).trans (hb1.mono (below_alloc2 w _ _).size))
  clear hb1 HP
  go_wp2_with fail
  refine (l00In_yes x (-4095) 4095 _ hx.1 hx.2).mono ?_
  rintro e w2 ⟨rfl, rfl⟩
  go_wp2_with fail
  refine (l00In_yes y (-4095) 4095 _ hy.1 hy.2).mono ?_
  rintro e w3 ⟨rfl, rfl⟩
  go_wp2_with fail
  refine (l02Move_none (o := 0) (C := 0) w.heap.size x y (some ⟨G, 0, none⟩) _ az a3).mono ?_
  rintro e w4 ⟨A, c, rfl, hb4⟩
  have HR4 := Lib.hid ((Below.heap_alloc w4 (.cells #[.slice A 0 c] 40) _ (Nat.lt_of_lt_of_le rz hb4.size)).trans ((hb4.block _ rz).trans HR.out))
  have HF4 := Lib.hid ((HF.out.trans (hb4.mono HF.out.size)).alloc (Nat.le_trans HF.out.size hb4.size) (.cells #[.slice A 0 c] 40))
  clear hb4 a3
  go_wp2_with fail
  refine (l02Ok_none (o := 0) (C := c) w4.heap.size A _ (by simp) (by simp)).mono ?_
  rintro e w5 ⟨rfl, hb5⟩
  have HR5 := Lib.hid ((hb5.block _ (lt_of_cells HR4.out)).trans HR4.out)
  have r0 := (cell_of_block HR5.out 0).trans (show _ = some (Value.slice none 0 0) from rfl)
  have rf := unfrozen_of_block HR5.out
  have rz5 := lt_of_cells HR5.out
  have t9 := (hb5.cell (p := ⟨w4.heap.size, 0, none⟩) (by simp)).trans (show _ = some (Value.slice A 0 c) by simp)
  have z9 : w4.heap.size < w5.heap.size := by have := hb5.size; simp at this; omega
  have HF5 := Lib.hid (HF4.out.trans (hb5.mono HF4.out.size))
  clear hb5
  go_wp2
  exact bodyPost_ret (v := .tuple #[.agg #[.slice A 0 c], .int .i64 0]) (by simp [results, Try.results43, go_sem, r0]) rfl ⟨A, c, rfl, .inl rfl, HF5.out.setCell (show w.heap.size ≤ w.heap.size + 1 by omega) _⟩

set_option maxHeartbeats 2000000 in
theorem implMove_zero (x y : Int) (ink : List (List P3)) (hn : ink.length = 0) (hcap : 0 ≤ 1048576) (hsm : ∀ q ∈ ink, q.length ≤ 1048576) (hv : vI ink = true) : Takes 44 0 ink x y [] 0 := by
  intro G w hg hp
  have HN := Lib.hid hn
  have HP := Lib.hid (hp.below (below_alloc2 w (.cells #[.slice (some ⟨G, 0, none⟩) 0 0] 40) (.cells #[.slice none 0 0] 40)) hg)
  have HM := Lib.hid hsm
  have HV := Lib.hid hv
  clear hn hp hsm hv
  go_enter Try.func44, Try.ntmps44
  go_wp2_with fail
  refine (implValidInk_calls G 0 ink _ HN.out hcap HM.out (by simp; omega) HP.out).mono ?_
  rintro e w1 ⟨rfl, hb1⟩
  rw [HV.out]
  have HR := Lib.hid ((hb1.block _ (by simp)).trans (res_new1 w _))
  have rz := lt_of_cells HR.out
  have a3 := (hb1.cell (p := ⟨w.heap.size, 0, none⟩) (by simp; omega)).trans (show _ = some (Value.slice (some ⟨G, 0, none⟩) 0 0) by simp)
  have az : w.heap.size < w1.heap.size := by omega
  have hG1 : G < w1.heap.size := by omega
  have HP1 := Lib.hid (HP.out.below hb1 (by simp; omega))
  have HF := Lib.hid ((below_alloc2 w _ _).trans (hb1.mono (below_alloc2 w _ _).size))
  clear hb1 HP
  go_wp2_with fail
  refine (change_none (C := 0) x y (some ⟨G, 0, none⟩) _).mono ?_
  rintro e w4 ⟨A, c, rfl, hb4⟩
  have HB4 := Lib.hid ((below_alloc1 w1 (.cells #[.int .i64 x, .int .i64 y, .int .i64 0] 71)).trans (hb4.mono (below_alloc1 w1 _).size))
  have HR4 := Lib.hid ((Below.heap_alloc w4 (.cells #[.slice A 0 c] 40) _ (Nat.lt_of_lt_of_le rz HB4.out.size)).trans ((HB4.out.block _ rz).trans HR.out))
  have HF4 := Lib.hid ((HF.out.trans (HB4.out.mono HF.out.size)).alloc (Nat.le_trans HF.out.size HB4.out.size) (.cells #[.slice A 0 c] 40))
  clear hb4 a3
  go_wp2_with fail
  refine (implValidInk_none (C := c) A _).mono ?_
  rintro e w5 ⟨rfl, hb5⟩
  have HR5 := Lib.hid ((hb5.block _ (lt_of_cells HR4.out)).trans HR4.out)
  have r0 := (cell_of_block HR5.out 0).trans (show _ = some (Value.slice none 0 0) from rfl)
  have rf := unfrozen_of_block HR5.out
  have rz5 := lt_of_cells HR5.out
  have t9 := (hb5.cell (p := ⟨w4.heap.size, 0, none⟩) (by simp)).trans (show _ = some (Value.slice A 0 c) by simp)
  have z9 : w4.heap.size < w5.heap.size := by have := hb5.size; simp at this; omega
  have HF5 := Lib.hid (HF4.out.trans (hb5.mono HF4.out.size))
  clear hb5
  go_wp2
  exact bodyPost_ret (v := .tuple #[.agg #[.slice A 0 c], .int .i64 0]) (by simp [results, Try.results44, go_sem, r0]) rfl ⟨A, c, rfl, .inl rfl, HF5.out.setCell (show w.heap.size ≤ w.heap.size + 1 by omega) _⟩

set_option maxHeartbeats 4000000 in
theorem specMove_ok (x y : Int) (n : Nat) (ink : List (List P3)) (hn : ink.length = n) (hcap : n ≤ 1048576) (hsm : ∀ q ∈ ink, q.length ≤ 1048576)(hv : vI ink = true) (hn0 : 0 < n) (hx : -4095 ≤ x ∧ x ≤ 4095) (hy : -4095 ≤ y ∧ y ≤ 4095) (hm : vI (mvI x y ink) = true) : Takes 43 n ink x y (mvI x y ink) 0 := by
  unfold Takes
  rw [mvI_len hn]
  intro G w hg hp
  have HMV := Lib.hid hm
  clear hm
  have HN := Lib.hid hn
  have HP := Lib.hid (hp.below (below_alloc2 w (.cells #[.slice (some ⟨G, 0, none⟩) n n] 40) (.cells #[.slice none 0 0] 40)) hg)
  have HM := Lib.hid hsm
  have HV := Lib.hid hv
  clear hn hp hsm hv
  go_enter Try.func43, Try.ntmps43
  go_wp2_with fail
  refine (l02Ok_calls (C := n) (o := 0) w.heap.size G n ink _ HN.out hcap HM.out (by simp; omega) (by simp; omega) (by simp) HP.out).mono ?_
  rintro e w1 ⟨rfl, hb1⟩
  rw [HV.out]
  have HR := Lib.hid ((hb1.block _ (by simp)).trans (res_new1 w _))
  have rz := lt_of_cells HR.out
  have a3 := (hb1.cell (p := ⟨w.heap.size, 0, none⟩) (by simp; omega)).trans (show _ = some (Value.slice (some ⟨G, 0, none⟩) n n) by simp)
  have az : w.heap.size < w1.heap.size := by omega
  have hG1 : G < w1.heap.size := by omega
  have HP1 := Lib.hid (HP.out.below hb1 (by simp; omega))
  have HF := Lib.hid ((below_alloc2 w _ _).trans (hb1.mono (below_alloc2 w _ _).size))
  clear hb1 HP
  have HSR := Lib.hid (src_of (jnk := ink) HN.out HV.out hG1 HP1.out (fun _ _ => rfl))
  go_wp2_with fail
  refine (l00In_yes x (-4095) 4095 _ hx.1 hx.2).mono ?_
  rintro e w2 ⟨rfl, rfl⟩
  go_wp2_with fail
  refine (l00In_yes y (-4095) 4095 _ hy.1 hy.2).mono ?_
  rintro e w3 ⟨rfl, rfl⟩
  go_wp2_with fail
  refine (l02Move_some (o := 0) (C := n) w.heap.size n x y (some ⟨G, 0, none⟩) (FI ink) _ hn0 hcap az a3 HSR.out).mono ?_
  rintro e w4 ⟨G4, gs, c, rfl, ho4, hb4⟩
  have HB4 := Lib.hid hb4
  have HO4 := Lib.hid (show Own w1.heap.size w4.heap.size w4 G4 gs n (FI (mvI x y ink)) from ho4.cast fun i hi => FI_mvI HN.out hi)
  have HR4 := Lib.hid ((Below.heap_alloc w4 (.cells #[.slice (some ⟨G4, 0, none⟩) n c] 40) _ (Nat.lt_of_lt_of_le rz HB4.out.size)).trans ((HB4.out.block _ rz).trans HR.out))
  have HF4 := Lib.hid ((HF.out.trans (HB4.out.mono HF.out.size)).alloc (Nat.le_trans HF.out.size HB4.out.size) (.cells #[.slice (some ⟨G4, 0, none⟩) n c] 40))
  have HO5 := Lib.hid (HO4.out.kept (below_alloc1 w4 (.cells #[.slice (some ⟨G4, 0, none⟩) n c] 40)))
  have hG4 : G4 < w4.heap.size := HO4.out.ghi
  have hw1 : w.heap.size ≤ w1.heap.size := HF.out.size
  clear hb4 ho4 a3 HSR HO4
  go_wp2_with fail
  refine (l02Ok_calls (o := 0) (C := c) w4.heap.size G4 n (mvI x y ink) _ (mvI_len HN.out) hcap (mvI_small HM.out) (by simp; omega) (by simp) (by simp) (HO5.out.rows (mvI_len HN.out))).mono ?_
  rintro e w5 ⟨rfl, hb5⟩
  rw [HMV.out]
  have HR5 := Lib.hid ((hb5.block _ (lt_of_cells HR4.out)).trans HR4.out)
  have r0 := (cell_of_block HR5.out 0).trans (show _ = some (Value.slice none 0 0) from rfl)
  have rf := unfrozen_of_block HR5.out
  have rz5 := lt_of_cells HR5.out
  have t9 := (hb5.cell (p := ⟨w4.heap.size, 0, none⟩) (by simp)).trans (show _ = some (Value.slice (some ⟨G4, 0, none⟩) n c) by simp)
  have z9 : w4.heap.size < w5.heap.size := by have := hb5.size; simp at this; omega
  have HF5 := Lib.hid (HF4.out.trans (hb5.mono HF4.out.size))
  have HO6 := Lib.hid (HO5.out.kept hb5)
  clear hb5 HO5
  go_wp2
  exact bodyPost_ret (v := .tuple #[.agg #[.slice (some ⟨G4, 0, none⟩) n c], .int .i64 0]) (by simp [results, Try.results43, go_sem, r0]) rfl
    ⟨_, c, rfl, OwnInk.mono (OwnInk.set' (.inr ⟨G4, gs, rfl, HO6.out⟩) (.inl (by omega)) _) (by omega) (by simp [World.setCell]; omega) (Nat.le_refl _), HF5.out.setCell (show w.heap.size ≤ w.heap.size + 1 by omega) _⟩

set_option maxHeartbeats 4000000 in
theorem specMove_out (x y : Int) (n : Nat) (ink : List (List P3)) (hn : ink.length = n) (hcap : n ≤ 1048576) (hsm : ∀ q ∈ ink, q.length ≤ 1048576)(hv : vI ink = true) (hn0 : 0 < n) (hx : -4095 ≤ x ∧ x ≤ 4095) (hy : -4095 ≤ y ∧ y ≤ 4095) (hm : vI (mvI x y ink) = false) : Takes 43 n ink x y [] 2 := takes_err fun G w hg hp => by
  have HMV := Lib.hid hm
  clear hm
  have HN := Lib.hid hn
  have HP := Lib.hid (hp.below (below_alloc2 w (.cells #[.slice (some ⟨G, 0, none⟩) n n] 40) (.cells #[.slice none 0 0] 40)) hg)
  have HM := Lib.hid hsm
  have HV := Lib.hid hv
  clear hn hp hsm hv
  go_enter Try.func43, Try.ntmps43
  go_wp2_with fail
  refine (l02Ok_calls (C := n) (o := 0) w.heap.size G n ink _ HN.out hcap HM.out (by simp; omega) (by simp; omega) (by simp) HP.out).mono ?_
  rintro e w1 ⟨rfl, hb1⟩
  rw [HV.out]
  have HR := Lib.hid ((hb1.block _ (by simp)).trans (res_new1 w _))
  have rz := lt_of_cells HR.out
  have a3 := (hb1.cell (p := ⟨w.heap.size, 0, none⟩) (by simp; omega)).trans (show _ = some (Value.slice (some ⟨G, 0, none⟩) n n) by simp)
  have az : w.heap.size < w1.heap.size := by omega
  have hG1 : G < w1.heap.size := by omega
  have HP1 := Lib.hid (HP.out.below hb1 (by simp; omega))
  have HF := Lib.hid ((below_alloc2 w _ _).trans (hb1.mono (below_alloc2 w _ _).size))
  clear hb1 HP
  have HSR := Lib.hid (src_of (jnk := ink) HN.out HV.out hG1 HP1.out (fun _ _ => rfl))
  go_wp2_with fail
  refine (l00In_yes x (-4095) 4095 _ hx.1 hx.2).mono ?_
  rintro e w2 ⟨rfl, rfl⟩
  go_wp2_with fail
  refine (l00In_yes y (-4095) 4095 _ hy.1 hy.2).mono ?_
  rintro e w3 ⟨rfl, rfl⟩
  go_wp2_with fail
  refine (l02Move_some (o := 0) (C := n) w.heap.size n x y (some ⟨G, 0, none⟩) (FI ink) _ hn0 hcap az a3 HSR.out).mono ?_
  rintro e w4 ⟨G4, gs, c, rfl, ho4, hb4⟩
  have HB4 := Lib.hid hb4
  have HO4 := Lib.hid (show Own w1.heap.size w4.heap.size w4 G4 gs n (FI (mvI x y ink)) from ho4.cast fun i hi => FI_mvI HN.out hi)
  have HR4 := Lib.hid ((Below.heap_alloc w4 (.cells #[.slice (some ⟨G4, 0, none⟩) n c] 40) _ (Nat.lt_of_lt_of_le rz HB4.out.size)).trans ((HB4.out.block _ rz).trans HR.out))
  have HF4 := Lib.hid ((HF.out.trans (HB4.out.mono HF.out.size)).alloc (Nat.le_trans HF.out.size HB4.out.size) (.cells #[.slice (some ⟨G4, 0, none⟩) n c] 40))
  have HO5 := Lib.hid (HO4.out.kept (below_alloc1 w4 (.cells #[.slice (some ⟨G4, 0, none⟩) n c] 40)))
  have hG4 : G4 < w4.heap.size := HO4.out.ghi
  have hw1 : w.heap.size ≤ w1.heap.size := HF.out.size
  clear hb4 ho4 a3 HSR HO4
  go_wp2_with fail
  refine (l02Ok_calls (o := 0) (C := c) w4.heap.size G4 n (mvI x y ink) _ (mvI_len HN.out) hcap (mvI_small HM.out) (by simp; omega) (by simp) (by simp) (HO5.out.rows (mvI_len HN.out))).mono ?_
  rintro e w5 ⟨rfl, hb5⟩
  rw [HMV.out]
  have HR5 := Lib.hid ((hb5.block _ (lt_of_cells HR4.out)).trans HR4.out)
  have r0 := (cell_of_block HR5.out 0).trans (show _ = some (Value.slice none 0 0) from rfl)
  have rf := unfrozen_of_block HR5.out
  have rz5 := lt_of_cells HR5.out
  have t9 := (hb5.cell (p := ⟨w4.heap.size, 0, none⟩) (by simp)).trans (show _ = some (Value.slice (some ⟨G4, 0, none⟩) n c) by simp)
  have z9 : w4.heap.size < w5.heap.size := by have := hb5.size; simp at this; omega
  have HF5 := Lib.hid (HF4.out.trans (hb5.mono HF4.out.size))
  have HO6 := Lib.hid (HO5.out.kept hb5)
  clear hb5 HO5
  go_wp2
  exact bodyPost_ret (v := .tuple #[.agg #[.slice none 0 0], .int .i64 2]) (by simp [results, Try.results43, go_sem, r0]) rfl ⟨rfl, HF5.out.setCell (show w.heap.size ≤ w.heap.size + 1 by omega) _⟩

set_option maxHeartbeats 4000000 in
theorem implMove_ok (x y : Int) (n : Nat) (ink : List (List P3)) (hn : ink.length = n) (hcap : n ≤ 1048576) (hsm : ∀ q ∈ ink, q.length ≤ 1048576)(hv : vI ink = true) (hn0 : 0 < n) (ht : ∀ i, i < n → ∀ p ∈ FI ink i, -9223372036854775808 ≤ p.2.2 ∧ p.2.2 ≤ 9223372036854775807) (hm : vI (mvI x y ink) = true) : Takes 44 n ink x y (mvI x y ink) 0 := by
  unfold Takes
  rw [mvI_len hn]
  intro G w hg hp
  have HMV := Lib.hid hm
  have HT := Lib.hid ht
  clear hm ht
  have HN := Lib.hid hn
  have HP := Lib.hid (hp.below (below_alloc2 w (.cells #[.slice (some ⟨G, 0, none⟩) n n] 40) (.cells #[.slice none 0 0] 40)) hg)
  have HM := Lib.hid hsm
  have HV := Lib.hid hv
  clear hn hp hsm hv
  go_enter Try.func44, Try.ntmps44
  go_wp2_with fail
  refine (implValidInk_calls G n ink _ HN.out hcap HM.out (by simp; omega) HP.out).mono ?_
  rintro e w1 ⟨rfl, hb1⟩
  rw [HV.out]
  have HR := Lib.hid ((hb1.block _ (by simp)).trans (res_new1 w _))
  have rz := lt_of_cells HR.out
  have a3 := (hb1.cell (p := ⟨w.heap.size, 0, none⟩) (by simp; omega)).trans (show _ = some (Value.slice (some ⟨G, 0, none⟩) n n) by simp)
  have az : w.heap.size < w1.heap.size := by omega
  have hG1 : G < w1.heap.size := by omega
  have HP1 := Lib.hid (HP.out.below hb1 (by simp; omega))
  have HF := Lib.hid ((below_alloc2 w _ _).trans (hb1.mono (below_alloc2 w _ _).size))
  clear hb1 HP
  have HSR := Lib.hid (src_of (jnk := ink) HN.out HV.out hG1 HP1.out (fun _ _ => rfl))
  go_wp2_with fail
  refine (change_some (C := n) n x y (some ⟨G, 0, none⟩) (FI ink) _ hn0 hcap (HSR.out.below (below_alloc1 w1 _)) HT.out).mono ?_
  rintro e w4 ⟨G4, gs, c, rfl, ho4, hb4⟩
  have HB4 := Lib.hid ((below_alloc1 w1 (.cells #[.int .i64 x, .int .i64 y, .int .i64 0] 71)).trans (hb4.mono (below_alloc1 w1 _).size))
  have HO4 := Lib.hid (show Own (w1.heap.size + 1) w4.heap.size w4 G4 gs n (FI (mvI x y ink)) from by have := ho4.cast fun i hi => FI_mvI (x := x) (y := y) HN.out hi; simpa using this)
  have HR4 := Lib.hid ((Below.heap_alloc w4 (.cells #[.slice (some ⟨G4, 0, none⟩) n c] 40) _ (Nat.lt_of_lt_of_le rz HB4.out.size)).trans ((HB4.out.block _ rz).trans HR.out))
  have HF4 := Lib.hid ((HF.out.trans (HB4.out.mono HF.out.size)).alloc (Nat.le_trans HF.out.size HB4.out.size) (.cells #[.slice (some ⟨G4, 0, none⟩) n c] 40))
  have HO5 := Lib.hid (HO4.out.kept (below_alloc1 w4 (.cells #[.slice (some ⟨G4, 0, none⟩) n c] 40)))
  have hG4 : G4 < w4.heap.size := HO4.out.ghi
  have hw1 : w.heap.size ≤ w1.heap.size := HF.out.size
  clear hb4 ho4 a3 HSR HO4
  go_wp2_with fail
  refine (implValidInk_calls (C := c) G4 n (mvI x y ink) _ (mvI_len HN.out) hcap (mvI_small HM.out) (by simp; omega) (HO5.out.rows (mvI_len HN.out))).mono ?_
  rintro e w5 ⟨rfl, hb5⟩
  rw [HMV.out]
  have HR5 := Lib.hid ((hb5.block _ (lt_of_cells HR4.out)).trans HR4.out)
  have r0 := (cell_of_block HR5.out 0).trans (show _ = some (Value.slice none 0 0) from rfl)
  have rf := unfrozen_of_block HR5.out
  have rz5 := lt_of_cells HR5.out
  have t9 := (hb5.cell (p := ⟨w4.heap.size, 0, none⟩) (by simp)).trans (show _ = some (Value.slice (some ⟨G4, 0, none⟩) n c) by simp)
  have z9 : w4.heap.size < w5.heap.size := by have := hb5.size; simp at this; omega
  have HF5 := Lib.hid (HF4.out.trans (hb5.mono HF4.out.size))
  have HO6 := Lib.hid (HO5.out.kept hb5)
  clear hb5 HO5
  go_wp2
  exact bodyPost_ret (v := .tuple #[.agg #[.slice (some ⟨G4, 0, none⟩) n c], .int .i64 0]) (by simp [results, Try.results44, go_sem, r0]) rfl
    ⟨_, c, rfl, OwnInk.mono (OwnInk.set' (.inr ⟨G4, gs, rfl, HO6.out⟩) (.inl (by omega)) _) (by omega) (by simp [World.setCell]; omega) (Nat.le_refl _), HF5.out.setCell (show w.heap.size ≤ w.heap.size + 1 by omega) _⟩

set_option maxHeartbeats 4000000 in
theorem implMove_out (x y : Int) (n : Nat) (ink : List (List P3)) (hn : ink.length = n) (hcap : n ≤ 1048576) (hsm : ∀ q ∈ ink, q.length ≤ 1048576)(hv : vI ink = true) (hn0 : 0 < n) (ht : ∀ i, i < n → ∀ p ∈ FI ink i, -9223372036854775808 ≤ p.2.2 ∧ p.2.2 ≤ 9223372036854775807) (hm : vI (mvI x y ink) = false) : Takes 44 n ink x y [] 2 := takes_err fun G w hg hp => by
  have HMV := Lib.hid hm
  have HT := Lib.hid ht
  clear hm ht
  have HN := Lib.hid hn
  have HP := Lib.hid (hp.below (below_alloc2 w (.cells #[.slice (some ⟨G, 0, none⟩) n n] 40) (.cells #[.slice none 0 0] 40)) hg)
  have HM := Lib.hid hsm
  have HV := Lib.hid hv
  clear hn hp hsm hv
  go_enter Try.func44, Try.ntmps44
  go_wp2_with fail
  refine (implValidInk_calls G n ink _ HN.out hcap HM.out (by simp; omega) HP.out).mono ?_
  rintro e w1 ⟨rfl, hb1⟩
  rw [HV.out]
  have HR := Lib.hid ((hb1.block _ (by simp)).trans (res_new1 w _))
  have rz := lt_of_cells HR.out
  have a3 := (hb1.cell (p := ⟨w.heap.size, 0, none⟩) (by simp; omega)).trans (show _ = some (Value.slice (some ⟨G, 0, none⟩) n n) by simp)
  have az : w.heap.size < w1.heap.size := by omega
  have hG1 : G < w1.heap.size := by omega
  have HP1 := Lib.hid (HP.out.below hb1 (by simp; omega))
  have HF := Lib.hid ((below_alloc2 w _ _).trans (hb1.mono (below_alloc2 w _ _).size))
  clear hb1 HP
  have HSR := Lib.hid (src_of (jnk := ink) HN.out HV.out hG1 HP1.out (fun _ _ => rfl))
  go_wp2_with fail
  refine (change_some (C := n) n x y (some ⟨G, 0, none⟩) (FI ink) _ hn0 hcap (HSR.out.below (below_alloc1 w1 _)) HT.out).mono ?_
  rintro e w4 ⟨G4, gs, c, rfl, ho4, hb4⟩
  have HB4 := Lib.hid ((below_alloc1 w1 (.cells #[.int .i64 x, .int .i64 y, .int .i64 0] 71)).trans (hb4.mono (below_alloc1 w1 _).size))
  have HO4 := Lib.hid (show Own (w1.heap.size + 1) w4.heap.size w4 G4 gs n (FI (mvI x y ink)) from by have := ho4.cast fun i hi => FI_mvI (x := x) (y := y) HN.out hi; simpa using this)
  have HR4 := Lib.hid ((Below.heap_alloc w4 (.cells #[.slice (some ⟨G4, 0, none⟩) n c] 40) _ (Nat.lt_of_lt_of_le rz HB4.out.size)).trans ((HB4.out.block _ rz).trans HR.out))
  have HF4 := Lib.hid ((HF.out.trans (HB4.out.mono HF.out.size)).alloc (Nat.le_trans HF.out.size HB4.out.size) (.cells #[.slice (some ⟨G4, 0, none⟩) n c] 40))
  have HO5 := Lib.hid (HO4.out.kept (below_alloc1 w4 (.cells #[.slice (some ⟨G4, 0, none⟩) n c] 40)))
  have hG4 : G4 < w4.heap.size := HO4.out.ghi
  have hw1 : w.heap.size ≤ w1.heap.size := HF.out.size
  clear hb4 ho4 a3 HSR HO4
  go_wp2_with fail
  refine (implValidInk_calls (C := c) G4 n (mvI x y ink) _ (mvI_len HN.out) hcap (mvI_small HM.out) (by simp; omega) (HO5.out.rows (mvI_len HN.out))).mono ?_
  rintro e w5 ⟨rfl, hb5⟩
  rw [HMV.out]
  have HR5 := Lib.hid ((hb5.block _ (lt_of_cells HR4.out)).trans HR4.out)
  have r0 := (cell_of_block HR5.out 0).trans (show _ = some (Value.slice none 0 0) from rfl)
  have rf := unfrozen_of_block HR5.out
  have rz5 := lt_of_cells HR5.out
  have t9 := (hb5.cell (p := ⟨w4.heap.size, 0, none⟩) (by simp)).trans (show _ = some (Value.slice (some ⟨G4, 0, none⟩) n c) by simp)
  have z9 : w4.heap.size < w5.heap.size := by have := hb5.size; simp at this; omega
  have HF5 := Lib.hid (HF4.out.trans (hb5.mono HF4.out.size))
  have HO6 := Lib.hid (HO5.out.kept hb5)
  clear hb5 HO5
  go_wp2
  exact bodyPost_ret (v := .tuple #[.agg #[.slice none 0 0], .int .i64 2]) (by simp [results, Try.results44, go_sem, r0]) rfl ⟨rfl, HF5.out.setCell (show w.heap.size ≤ w.heap.size + 1 by omega) _⟩
end Go.Proofs.Ytklfmlbokedbdaa.owned
