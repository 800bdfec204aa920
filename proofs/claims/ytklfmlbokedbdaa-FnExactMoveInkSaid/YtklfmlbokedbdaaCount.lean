/-
  Proved: both functions that count the points of ink answer as the document's definition (contracts of the callees of the law on PointCount).
  Conditions: the ink's strokes lie in a row of their own.
-/
import Derived.Test.YtklfmlbokedbdaaInkLaw
namespace Go.Proofs.Ytklfmlbokedbdaa.count
open Go.ChangeShapes Go.WideShapes Go.ChangeAt Go.RowKit Go.Joins
open Go.Proofs.Ytklfmlbokedbdaa.join Go.Proofs.Ytklfmlbokedbdaa.strokes Go.Proofs.Ytklfmlbokedbdaa.valid Go.Proofs.Ytklfmlbokedbdaa.inks Go.Proofs.Ytklfmlbokedbdaa.inkOk
set_option linter.unusedVariables false

def cnt (ink : List (List P3)) : Nat := (ink.map List.length).sum
theorem cnt_succ {ink : List (List P3)} {k : Nat} {pts : List P3} (h : ink[k]? = some pts) : cnt (ink.take (k + 1)) = cnt (ink.take k) + pts.length := by
  unfold cnt
  rw [List.take_add_one, h]
  simp
theorem vI_len {ink : List (List P3)} (h : vI ink = true) {k : Nat} {pts : List P3} (hk : ink[k]? = some pts) : 1 ≤ pts.length ∧ pts.length ≤ 60 := by
  obtain ⟨q, e, hv, _⟩ := (vI_out h).2 k (List.getElem?_eq_some_iff.1 hk).1
  rw [hk] at e
  injection e with e
  subst e
  exact vS_pos hv

set_option maxRecDepth 100000 in
set_option maxHeartbeats 2000000 in
theorem l02Count_calls {o C : Nat} (b G n : Nat) (ink : List (List P3)) (w : World) (hn : ink.length = n) (h16 : n ≤ 16) (hlen : ∀ (k : Nat) (pts : List P3), ink[k]? = some pts → pts.length ≤ 60) (hg : G < w.heap.size) (hbz : b < w.heap.size) (hs : w.cell? ⟨b, o, none⟩ = some (.slice (some ⟨G, 0, none⟩) n C)) (hp : RowsFrom 0 w G ink) :
    Calls Try.prog 78 #[.pointer (some ⟨b, o, none⟩)] w fun e w' => e = .returned (.int .i64 (cnt ink : Int)) ∧ Below w.heap.size w w' := by
  have HN := Lib.hid hn
  have HP := Lib.hid hp
  have HL := Lib.hid hlen
  clear hn hp hlen
  go_enter Try.func78, Try.ntmps78
  go_wp2
  go_loopw [3, 4] (fun c i w' => ∃ k m : Nat, k ≤ n ∧ m ≤ 60 * k ∧ i = .int .i64 (k : Int) ∧ c = .int .i64 (m : Int) ∧ Hid (m = cnt (ink.take k)) ∧ w = w') (fun _ i _ => n - (intOf i).toNat)
  case atStart => exact ⟨0, 0, Nat.zero_le _, Nat.zero_le _, rfl, rfl, Lib.hid (by simp [cnt]), rfl⟩
  case round =>
    obtain ⟨k, m, hk, hm, rfl, rfl, HC, rfl⟩ := hrel
    by_cases hlt : k < n
    · have hkl : k < ink.length := by rw [HN.out]; exact hlt
      obtain ⟨g, c, -, hgl, p0, -⟩ := HP.out k ink[k] (List.getElem?_eq_getElem hkl)
      have hl60 := HL.out k ink[k] (List.getElem?_eq_getElem hkl)
      have HC2 := Lib.hid (show m + ink[k].length = cnt (ink.take (k + 1)) by rw [cnt_succ (List.getElem?_eq_getElem hkl), HC.out])
      generalize ink[k].length = L at p0 hl60 HC2
      have hli : (k : Int) < (n : Int) := by omega
      go_wp2
      go_roundw
      case rel => exact ⟨k + 1, m + L, by omega, by omega, by go_num, by go_num, HC2, by trivial⟩
      case measure => simp [intOf]; omega
    · have HE := Lib.hid (show m = cnt ink by rw [HC.out, List.take_of_length_le (by rw [HN.out]; omega)])
      go_wp2
      go_ret
      exact ⟨by rw [HE.out]; rfl, Below.refl _ _⟩

set_option maxRecDepth 100000 in
set_option maxHeartbeats 2000000 in
theorem specCount_calls {C : Nat} (G n : Nat) (ink : List (List P3)) (w : World) (hn : ink.length = n) (hcap : n ≤ 1048576) (hsm : ∀ pts ∈ ink, pts.length ≤ 1048576) (hg : G < w.heap.size) (hp : RowsFrom 0 w G ink) :
    Calls Try.prog 45 #[.agg #[.slice (some ⟨G, 0, none⟩) n C]] w fun e w' => e = .returned (.tuple #[.int .i64 (if vI ink then (cnt ink : Int) else 0), .int .i64 (if vI ink then 0 else 1)]) ∧ Below w.heap.size w w' := by
  have HN := Lib.hid hn
  have HP := Lib.hid hp
  have HM := Lib.hid hsm
  clear hn hp hsm
  cases hv : vI ink with
  | false =>
    go_enter Try.func45, Try.ntmps45
    go_wp2_with fail
    refine (l02Ok_calls (o := 0) (C := C) _ G n ink _ HN.out hcap HM.out (by simp; omega) (by simp) (by simp) (HP.out.below (below_alloc1 _ _) hg)).mono ?_
    rintro e w1 ⟨rfl, hb1⟩
    have HB := Lib.hid ((below_alloc1 w _).trans (hb1.mono (below_alloc1 w _).size))
    clear hb1
    rw [hv]
    go_wp2
    exact bodyPost_ret (v := .tuple #[.int .i64 0, .int .i64 1]) (by simp [results, Try.results45, go_sem]) rfl ⟨rfl, HB.out⟩
  | true =>
    have h16 := (vI_out hv).1
    have HL := Lib.hid (show ∀ (k : Nat) (pts : List P3), ink[k]? = some pts → pts.length ≤ 60 from fun k pts hk => (vI_len hv hk).2)
    have h16' : n ≤ 16 := by have := HN.out; omega
    clear h16
    go_enter Try.func45, Try.ntmps45
    go_wp2_with fail
    refine (l02Ok_calls (o := 0) (C := C) _ G n ink _ HN.out hcap HM.out (by simp; omega) (by simp) (by simp) (HP.out.below (below_alloc1 _ _) hg)).mono ?_
    rintro e w1 ⟨rfl, hb1⟩
    have HB := Lib.hid hb1
    clear hb1
    rw [hv]
    go_wp2_with fail
    refine (l02Count_calls (o := 0) (C := C) _ G n ink _ HN.out h16' HL.out (Nat.lt_of_lt_of_le (by simp; omega) HB.out.size) (Nat.lt_of_lt_of_le (by simp) HB.out.size) ((HB.out.cell (by simp)).trans (by simp)) ((HP.out.below (below_alloc1 _ _) hg).below HB.out (by simp; omega))).mono ?_
    rintro e w2 ⟨rfl, hb2⟩
    have HF := Lib.hid ((below_alloc1 w _).trans ((HB.out.trans (hb2.mono HB.out.size)).mono (below_alloc1 w _).size))
    clear hb2 HB
    go_wp2
    exact bodyPost_ret (v := .tuple #[.int .i64 (cnt ink : Int), .int .i64 0]) (by simp [results, Try.results45, go_sem]) rfl ⟨rfl, HF.out⟩

set_option maxRecDepth 100000 in
set_option maxHeartbeats 2000000 in
theorem implCount_calls (G n : Nat) (ink : List (List P3)) (w : World) (hn : ink.length = n) (hcap : n ≤ 1048576) (hsm : ∀ pts ∈ ink, pts.length ≤ 1048576) (hg : G < w.heap.size) (hp : RowsFrom 0 w G ink) :
    Calls Try.prog 46 #[.agg #[.slice (some ⟨G, 0, none⟩) n n]] w fun e w' => e = .returned (.tuple #[.int .i64 (if vI ink then (cnt ink : Int) else 0), .int .i64 (if vI ink then 0 else 1)]) ∧ Below w.heap.size w w' := by
  have HN := Lib.hid hn
  have HP := Lib.hid hp
  have HM := Lib.hid hsm
  clear hn hp hsm
  cases hv : vI ink with
  | false =>
    go_enter Try.func46, Try.ntmps46
    go_wp2_with fail
    refine (implValidInk_calls G n ink _ HN.out hcap HM.out (by simp; omega) (HP.out.below (below_alloc1 _ _) hg)).mono ?_
    rintro e w1 ⟨rfl, hb1⟩
    have HB := Lib.hid ((below_alloc1 w _).trans (hb1.mono (below_alloc1 w _).size))
    clear hb1
    rw [hv]
    go_wp2
    exact bodyPost_ret (v := .tuple #[.int .i64 0, .int .i64 1]) (by simp [results, Try.results46, go_sem]) rfl ⟨rfl, HB.out⟩
  | true =>
    have h16 := (vI_out hv).1
    have HL := Lib.hid (show ∀ (k : Nat) (pts : List P3), ink[k]? = some pts → pts.length ≤ 60 from fun k pts hk => (vI_len hv hk).2)
    have h16' : n ≤ 16 := by have := HN.out; omega
    clear h16
    go_enter Try.func46, Try.ntmps46
    go_wp2_with fail
    refine (implValidInk_calls G n ink _ HN.out hcap HM.out (by simp; omega) (HP.out.below (below_alloc1 _ _) hg)).mono ?_
    rintro e w1 ⟨rfl, hb1⟩
    have HB := Lib.hid ((below_alloc1 w _).trans (hb1.mono (below_alloc1 w _).size))
    have HP1 := Lib.hid ((HP.out.below (below_alloc1 w (.cells #[.slice (some ⟨G, 0, none⟩) n n] 40)) hg).below hb1 (by simp; omega))
    have hg1 : G < w1.heap.size := Nat.lt_of_lt_of_le (by simp; omega) hb1.size
    have hs1 := (hb1.cell (p := ⟨w.heap.size, 0, none⟩) (by simp)).trans (show _ = some (Value.slice (some ⟨G, 0, none⟩) n n) by simp)
    clear hb1 HP
    rw [hv]
    go_wp2
    go_loopw [4, 13] (fun c i w' => ∃ k m : Nat, k ≤ n ∧ m ≤ 60 * k ∧ i = .int .i64 (k : Int) ∧ c = .int .i64 (m : Int) ∧ Hid (m = cnt (ink.take k)) ∧ Hid (Below w1.heap.size w1 w')) (fun _ i _ => n - (intOf i).toNat)
    case atStart => exact ⟨0, 0, Nat.zero_le _, Nat.zero_le _, rfl, rfl, Lib.hid (by simp [cnt]), Lib.hid (Below.refl _ _)⟩
    case round =>
      obtain ⟨k, m, hk, hm, rfl, rfl, HC, HW⟩ := hrel
      by_cases hlt : k < n
      · have hkl : k < ink.length := by rw [HN.out]; exact hlt
        obtain ⟨g, c, -, hgl, p0, -⟩ := HP1.out k ink[k] (List.getElem?_eq_getElem hkl)
        have q0 := (HW.out.cell (p := ⟨G, k, none⟩) hg1).trans p0
        clear p0
        have hl60 := HL.out k ink[k] (List.getElem?_eq_getElem hkl)
        have HC2 := Lib.hid (show m + ink[k].length = cnt (ink.take (k + 1)) by rw [cnt_succ (List.getElem?_eq_getElem hkl), HC.out])
        generalize ink[k].length = L at q0 hl60 HC2
        have hli : (k : Int) < (n : Int) := by omega
        go_wp2
        go_roundw
        case rel => exact ⟨k + 1, m + L, by omega, by omega, by go_num, by go_num, HC2, Lib.hid (by first | exact (HW.out.alloc HW.out.size _).setCell (Nat.le_trans HW.out.size (Nat.le_refl _)) _ | exact HW.out.alloc HW.out.size _)⟩
        case measure => simp [intOf]; omega
      · have HT := Lib.hid (show m = cnt ink by rw [HC.out, List.take_of_length_le (by rw [HN.out]; omega)])
        have HF := Lib.hid (HB.out.trans (HW.out.mono HB.out.size))
        go_wp2
        exact bodyPost_ret (v := .tuple #[.int .i64 (m : Int), .int .i64 0]) (by simp [results, Try.results46, go_sem]) rfl ⟨by rw [← HT.out], HF.out⟩
end Go.Proofs.Ytklfmlbokedbdaa.count
