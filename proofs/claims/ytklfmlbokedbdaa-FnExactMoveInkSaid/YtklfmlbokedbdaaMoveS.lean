/-
  Proved: the document's function that moves ink leaves the moved ink in blocks of its own (a contract of a callee of the law on MoveInk).
  Conditions: each stroke has points, which lie in a row of their own.
-/
import Derived.Test.YtklfmlbokedbdaaMove
namespace Go.Proofs.Ytklfmlbokedbdaa.owned
open Go.ChangeShapes Go.WideShapes Go.ChangeAt Go.RowKit Go.Joins
open Go.Proofs.Ytklfmlbokedbdaa.join Go.Proofs.Ytklfmlbokedbdaa.strokes Go.Proofs.Ytklfmlbokedbdaa.valid Go.Proofs.Ytklfmlbokedbdaa.inks Go.Proofs.Ytklfmlbokedbdaa.inkOk
set_option linter.unusedVariables false

theorem mvF_zero (x y : Int) (F : Nat → List P3) (i : Nat) : mvF x y F 0 i = F i := by simp [mvF]
theorem mvF_self (x y : Int) (F : Nat → List P3) (i : Nat) : mvF x y F i i = F i := by simp [mvF]

set_option maxRecDepth 100000 in
set_option maxHeartbeats 4000000 in
theorem l02Move_some {o C : Nat} (b n : Nat) (x y : Int) (B : Option Addr) (F : Nat → List P3) (w : World) (hn0 : 0 < n) (hcap : n ≤ 1048576) (hbz : b < w.heap.size) (hs : w.cell? ⟨b, o, none⟩ = some (.slice B n C)) (hp : SrcRows w B n F) :
    Calls Try.prog 75 #[.pointer (some ⟨b, o, none⟩), .int .i64 x, .int .i64 y] w fun e w' => ∃ G gs c, e = .returned (.agg #[.slice (some ⟨G, 0, none⟩) n c]) ∧ Own w.heap.size w'.heap.size w' G gs n (mvF x y F n) ∧ Below w.heap.size w w' := by
  have HS := Lib.hid ((World.cell?_alloc_lt w (.cells #[.slice none 0 0] 40) ⟨b, o, none⟩ hbz).trans hs)
  have HL := Lib.hid (show ∀ i, i < n → (F i).length ≤ 1048576 from fun i hi => by obtain ⟨_, _, _, _, _, _, _, _, _, _, h⟩ := hp i hi; exact h)
  have HP := Lib.hid (hp.below (below_alloc1 w (.cells #[.slice none 0 0] 40)))
  clear hp hs
  go_enter Try.func75, Try.ntmps75
  go_wp2_with fail
  refine (l02Own_calls (o := o) (C := C) b n B F _ hcap (by simp; omega) HS.out HP.out).mono ?_
  rintro e w4 ⟨A, c, gs0, cs, rfl, hbd, hb4⟩
  have hown := hbd.ink
  rcases hown with h0 | ⟨G, gs, rfl, ho⟩
  · exact absurd h0 (by omega)
  have hz4 := hb4.size
  simp at hz4
  have HO0 := Lib.hid (show Own (w.heap.size + 1) w4.heap.size w4 G gs n F by simpa using ho)
  have HR4 := Lib.hid ((hb4.block w.heap.size (by simp)).trans (show _ = some (Obj.cells #[.slice none 0 0] 40 (0, 0)) from heap_alloc_new w _))
  have HF4 := Lib.hid ((below_alloc1 w (.cells #[.slice none 0 0] 40)).trans (hb4.mono (below_alloc1 w _).size))
  clear hb4 hbd ho HP HS
  go_wp2
  go_loopw [8] (fun i w' => ∃ k : Nat, k ≤ n ∧ i = .int .i64 (k : Int) ∧ Hid (Own (w.heap.size + 1) w4.heap.size w' G gs n (mvF x y F k)) ∧ Hid (Only (w.heap.size + 1) w4.heap.size (w4.alloc (.cells #[.slice (some ⟨G, 0, none⟩) n c] 40)) w')) (fun i _ => n - (intOf i).toNat)
  case atStart => exact ⟨0, Nat.zero_le _, rfl, Lib.hid ((HO0.out.kept (below_alloc1 w4 _)).cast fun i _ => mvF_zero x y F i), Lib.hid (Only.refl _ _ _)⟩
  case round =>
    obtain ⟨k, hk, rfl, HG, HW⟩ := hrel
    have t7 : wr.cell? ⟨w4.heap.size, 0, none⟩ = some (.slice (some ⟨G, 0, none⟩) n c) := (HW.out.cell (p := ⟨w4.heap.size, 0, none⟩) (by simp) (.inr (Nat.le_refl _))).trans (by simp)
    have hz := HW.out.size
    simp at hz
    have tz : w4.heap.size < wr.heap.size := by omega
    by_cases hlt : k < n
    · obtain ⟨d, hc⟩ := HG.out.at_ k hlt
      have hpt := HG.out.pts k hlt
      rw [mvF_self] at hc hpt
      have hGz := HG.out.ghi
      have hgi := HG.out.inn k hlt
      have hne := HG.out.ne hlt
      have HM0 := Lib.hid (Moving.start (x := x) (y := y) hpt)
      have hfl := HL.out k hlt
      generalize hgk : gs k = g at hc hpt hgi hne HM0
      have HGK := Lib.hid hgk
      have HC := Lib.hid hc
      clear hpt hc hgk
      have HT7 := Lib.hid t7
      have hli : (k : Int) < (n : Int) := by omega
      go_wp2
      go_loopw [9] (fun i w' => ∃ j : Nat, j ≤ (F k).length ∧ i = .int .i64 (j : Int) ∧ Hid (Moving wr g x y (F k) j w')) (fun i _ => (F k).length - (intOf i).toNat)
      case atStart => exact ⟨0, Nat.zero_le _, rfl, HM0⟩
      case round =>
        obtain ⟨j, hj, rfl, HM⟩ := hrel
        have s7 := (HM.out.only.cell (p := ⟨w4.heap.size, 0, none⟩) tz (show w4.heap.size < g ∨ g + 1 ≤ w4.heap.size by omega)).trans HT7.out
        have sC := (HM.out.only.cell (p := ⟨G, k, none⟩) (show G < _ by omega) (show G < g ∨ g + 1 ≤ G by omega)).trans HC.out
        have zz := HM.out.only.size
        have tz2 : w4.heap.size < wr.heap.size := by omega
        have Gz2 : G < wr.heap.size := by omega
        have gz2 : g < wr.heap.size := by omega
        have hne2 : ¬ G = g := fun h => hne h.symm
        have hne3 : ¬ w4.heap.size = g := by omega
        have hne4 : ¬ g = w4.heap.size := by omega
        by_cases hj2 : j < (F k).length
        · have hq := List.getElem?_eq_getElem hj2
          generalize (F k)[j] = p at hq
          have HQ := Lib.hid hq
          obtain ⟨p0, p1, p2, pf⟩ := HM.out.at_ hq
          clear hq
          have hli2 : (j : Int) < ((F k).length : Int) := by omega
          go_wp2
          go_roundw
          case rel => exact ⟨j + 1, by omega, by go_num, Lib.hid (HM.out.step HQ.out rfl rfl)⟩
          case measure => simp [intOf]; omega
        · obtain rfl : j = (F k).length := by omega
          have HO2 := Lib.hid (HG.out.moved hlt (by rw [HGK.out]; exact HM.out))
          have HW2 := Lib.hid (HW.out.trans (HM.out.only.mono hgi.1 (by omega)))
          go_wp2
          go_roundw
          case rel => exact ⟨k + 1, by omega, by go_num, HO2, HW2⟩
          case measure => simp [intOf]; omega
    · obtain rfl : k = n := by omega
      have HR := Lib.hid ((HW.out.block w.heap.size (by simp; omega) (.inl (by omega))).trans ((Below.heap_alloc w4 _ _ (by omega)).trans HR4.out))
      have r0 := (cell_of_block HR.out 0).trans (show _ = some (Value.slice none 0 0) from rfl)
      have rf := unfrozen_of_block HR.out
      have rz := lt_of_cells HR.out
      have HB := Lib.hid (HF4.out.trans (((below_alloc1 w4 _).mono (show w.heap.size ≤ w4.heap.size by omega)).trans (HW.out.below (show w.heap.size ≤ w.heap.size + 1 by omega) (by simp; omega))))
      go_wp2
      refine bodyPost_ret (v := .agg #[.slice (some ⟨G, 0, none⟩) k c]) (by simp [results, Try.results75, go_sem, r0]) rfl ⟨G, gs, c, rfl, ?_, HB.out.setCell (by simp) _⟩
      have h1 := HG.out.only (lo' := w.heap.size) (hi' := w.heap.size + 1) ((Only.refl w.heap.size (w.heap.size + 1) wr).setCell (g := w.heap.size) (i := 0) (by omega) (by omega) (.slice (some ⟨G, 0, none⟩) k c)) (.inr (by omega))
      exact ⟨Nat.le_refl _, h1.row, by have := h1.glo; omega, Nat.lt_of_lt_of_le h1.ghi h1.top, h1.inj, fun i hi => ⟨by have := (h1.inn i hi).1; omega, Nat.lt_of_lt_of_le (h1.inn i hi).2 h1.top⟩, h1.pts, h1.at_⟩

set_option maxHeartbeats 2000000 in
theorem l02Move_none {o C : Nat} (b : Nat) (x y : Int) (B : Option Addr) (w : World) (hbz : b < w.heap.size) (hs : w.cell? ⟨b, o, none⟩ = some (.slice B 0 C)) :
    Calls Try.prog 75 #[.pointer (some ⟨b, o, none⟩), .int .i64 x, .int .i64 y] w fun e w' => ∃ A c, e = .returned (.agg #[.slice A 0 c]) ∧ Below w.heap.size w w' := by
  have HS := Lib.hid ((World.cell?_alloc_lt w (.cells #[.slice none 0 0] 40) ⟨b, o, none⟩ hbz).trans hs)
  clear hs
  go_enter Try.func75, Try.ntmps75
  go_wp2_with fail
  refine (l02Own_calls (o := o) (C := C) b 0 B (fun _ => []) _ (by omega) (by simp; omega) HS.out (fun i hi => absurd hi (by omega))).mono ?_
  rintro e w4 ⟨A, c, gs0, cs, rfl, -, hb4⟩
  have hz4 := hb4.size
  simp at hz4
  have HR4 := Lib.hid ((hb4.block w.heap.size (by simp)).trans (show _ = some (Obj.cells #[.slice none 0 0] 40 (0, 0)) from heap_alloc_new w _))
  have r0 := (cell_of_block HR4.out 0).trans (show _ = some (Value.slice none 0 0) from rfl)
  have rf := unfrozen_of_block HR4.out
  have rz := lt_of_cells HR4.out
  have HF4 := Lib.hid ((below_alloc1 w (.cells #[.slice none 0 0] 40)).trans (hb4.mono (below_alloc1 w _).size))
  clear hb4 HS
  go_wp2
  go_loopw [8] (fun i w' => i = .int .i64 0 ∧ Hid (Below w.heap.size w w') ∧ Hid (w'.heap[w.heap.size]? = some (Obj.cells #[.slice none 0 0] 40 (0, 0))) ∧ Hid (w'.cell? ⟨w4.heap.size, 0, none⟩ = some (.slice A 0 c)) ∧ w4.heap.size < w'.heap.size) (fun _ _ => 0)
  case atStart => exact ⟨rfl, Lib.hid (HF4.out.alloc (by omega) _), Lib.hid ((Below.heap_alloc w4 _ _ rz).trans HR4.out), Lib.hid (by simp), by simp⟩
  case round =>
    clear r0 rf
    obtain ⟨rfl, HB, HR, HC, hz⟩ := hrel
    have t7 := HC.out
    have r0 := (cell_of_block HR.out 0).trans (show _ = some (Value.slice none 0 0) from rfl)
    have rf := unfrozen_of_block HR.out
    have rz' := lt_of_cells HR.out
    go_wp2
    exact bodyPost_ret (v := .agg #[.slice A 0 c]) (by simp [results, Try.results75, go_sem, r0]) rfl ⟨A, c, rfl, HB.out.setCell (by simp) _⟩
end Go.Proofs.Ytklfmlbokedbdaa.owned
