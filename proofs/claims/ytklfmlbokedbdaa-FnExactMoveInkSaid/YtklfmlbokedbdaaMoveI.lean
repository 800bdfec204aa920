/-
  Proved: the program's function that changes all points of ink by adding a way leaves the moved ink in blocks of its own (a contract of a callee of the law on MoveInk).
  Conditions: each stroke has points, which lie in a row of their own.
-/
import Derived.Test.YtklfmlbokedbdaaMoveS
import Derived.Deep.RegionWith
namespace Go.Proofs.Ytklfmlbokedbdaa.owned
open Go.ChangeShapes Go.WideShapes Go.ChangeAt Go.RowKit Go.Joins
open Go.Proofs.Ytklfmlbokedbdaa.join Go.Proofs.Ytklfmlbokedbdaa.strokes Go.Proofs.Ytklfmlbokedbdaa.valid Go.Proofs.Ytklfmlbokedbdaa.inks Go.Proofs.Ytklfmlbokedbdaa.inkOk
set_option linter.unusedVariables false

set_option maxRecDepth 100000 in
set_option maxHeartbeats 4000000 in
theorem change_some {C : Nat} (n : Nat) (x y : Int) (B : Option Addr) (F : Nat → List P3) (w : World) (hn0 : 0 < n) (hcap : n ≤ 1048576) (hp : SrcRows w B n F) (ht : ∀ i, i < n → ∀ p ∈ F i, -9223372036854775808 ≤ p.2.2 ∧ p.2.2 ≤ 9223372036854775807) :
    Calls Try.prog 76 #[.agg #[.slice B n C], .func (.func 77) #[pt x y 0] #[]] w fun e w' => ∃ G gs c, e = .returned (.agg #[.slice (some ⟨G, 0, none⟩) n c]) ∧ Own w.heap.size w'.heap.size w' G gs n (mvF x y F n) ∧ Below w.heap.size w w' := by
  have HL := Lib.hid (show ∀ i, i < n → (F i).length ≤ 1048576 from fun i hi => by obtain ⟨_, _, _, _, _, _, _, _, _, _, h⟩ := hp i hi; exact h)
  have HP := Lib.hid (hp.below (below_alloc2 w (.cells #[.slice B n C] 40) (.cells #[.slice none 0 0] 40)))
  have HT := Lib.hid ht
  clear hp ht
  go_enter Try.func76, Try.ntmps76
  go_wp2_with fail
  refine (copyStrokes_calls (C := C) B n F _ hcap HP.out).mono ?_
  rintro e w4 ⟨A, c, gs0, cs, rfl, hbd, hb4⟩
  have hown := hbd.ink
  rcases hown with h0 | ⟨G, gs, rfl, ho⟩
  · exact absurd h0 (by omega)
  have hz4 := hb4.size
  simp at hz4
  have HO0 := Lib.hid (show Own (w.heap.size + 1 + 1) w4.heap.size w4 G gs n F by simpa using ho)
  have HR4 := Lib.hid ((hb4.block (w.heap.size + 1) (by simp)).trans (res_new1 w _))
  have HF4 := Lib.hid ((below_alloc2 w (.cells #[.slice B n C] 40) (.cells #[.slice none 0 0] 40)).trans (hb4.mono (below_alloc2 w _ _).size))
  clear hb4 hbd ho HP
  go_wp2
  go_loopw [15] (fun i w' => ∃ k : Nat, k ≤ n ∧ i = .int .i64 (k : Int) ∧ Hid (Own (w.heap.size + 1 + 1) w4.heap.size w' G gs n (mvF x y F k)) ∧ Hid (Only (w.heap.size + 1 + 1) w4.heap.size w4 w')) (fun i _ => n - (intOf i).toNat)
  case atStart => exact ⟨0, Nat.zero_le _, rfl, Lib.hid (HO0.out.cast fun i _ => mvF_zero x y F i), Lib.hid (Only.refl _ _ _)⟩
  case round =>
    obtain ⟨k, hk, rfl, HG, HW⟩ := hrel
    have hz := HW.out.size
    by_cases hlt : k < n
    · obtain ⟨d, hc⟩ := HG.out.at_ k hlt
      have hpt := HG.out.pts k hlt
      rw [mvF_self] at hc hpt
      have hGz := HG.out.ghi
      have hGz' : G < wr.heap.size := by omega
      have hgi := HG.out.inn k hlt
      have hfl := HL.out k hlt
      have HTk := Lib.hid (HT.out k hlt)
      generalize hgk : gs k = g at hc hpt hgi
      have HGK := Lib.hid hgk
      have HM0 := Lib.hid (Moving.start (x := x) (y := y) (hpt.same ((below_alloc1 wr (.cells #[.slice (some ⟨g, 0, none⟩) (F k).length d] 29)).block _ hpt.lt)))
      clear hpt hgk
      have hli : (k : Int) < (n : Int) := by omega
      have hgs : ¬ wr.heap.size = g := by omega
      have hgs' : g < wr.heap.size := by omega
      have HOK := Lib.hid (HG.out.kept (below_alloc1 wr (.cells #[.slice (some ⟨g, 0, none⟩) (F k).length d] 29)))
      have HWK := Lib.hid (HW.out.trans (Only.of_below (below_alloc1 wr (.cells #[.slice (some ⟨g, 0, none⟩) (F k).length d] 29))))
      obtain ⟨sb, hsb⟩ : ∃ sb, sb = wr.heap.size := ⟨_, rfl⟩
      go_wp2
      go_loopw [22] (fun i w' => ∃ j : Nat, j ≤ (F k).length ∧ i = .int .i64 (j : Int) ∧ Hid (Moving (wr.alloc (.cells #[.slice (some ⟨g, 0, none⟩) (F k).length d] 29)) g x y (F k) j w')) (fun i _ => (F k).length - (intOf i).toNat)
      case atStart => exact ⟨0, Nat.zero_le _, rfl, HM0⟩
      case round =>
        obtain ⟨j, hj, rfl, HM⟩ := hrel
        have zz := HM.out.only.size
        simp at zz
        rw [← hsb] at zz hgs hgs'
        rw [← hsb]
        have hsz : sb < wr.heap.size := by omega
        have sC : wr.cell? ⟨sb, 0, none⟩ = some (.slice (some ⟨g, 0, none⟩) (F k).length d) := (HM.out.only.cell (p := ⟨sb, 0, none⟩) (by simp; omega) (show sb < g ∨ g + 1 ≤ sb by omega)).trans (by rw [hsb]; simp)
        clear hsb
        have gz2 : g < wr.heap.size := by omega
        have hgs2 : ¬ g = sb := fun h => hgs h.symm
        by_cases hj2 : j < (F k).length
        · have hq := List.getElem?_eq_getElem hj2
          have hmem : (F k)[j] ∈ F k := List.getElem_mem hj2
          generalize (F k)[j] = p at hq hmem
          have hrg := HTk.out p hmem
          have HQ := Lib.hid hq
          obtain ⟨p0, p1, p2, pf⟩ := HM.out.at_ hq
          have HMx := Lib.hid (HM.out.kept (below_alloc1 wr (.cells #[.int .i64 p.1, .int .i64 p.2.1, .int .i64 p.2.2] 71)))
          clear hq hmem
          have hli2 : (j : Int) < ((F k).length : Int) := by omega
          go_wp2
          go_region_with (first | (go_at_call 77; refine (plus_calls x y 0 p.1 p.2.1 p.2.2 _).mono ?_; rintro e w5 ⟨rfl, hb5⟩; have HM5 := Lib.hid (HMx.out.kept (show Below (wr.alloc (.cells #[.int .i64 p.1, .int .i64 p.2.1, .int .i64 p.2.2] 71)).heap.size _ w5 from ⟨hb5.os, hb5.tape, hb5.output, hb5.size, hb5.block⟩)); have s5 : w5.cell? ⟨sb, 0, none⟩ = some (.slice (some ⟨g, 0, none⟩) (F k).length d) := (hb5.cell (p := ⟨sb, 0, none⟩) (by simp; omega)).trans ((World.cell?_alloc_lt wr _ _ hsz).trans sC); have hz5 := hb5.size; simp at hz5; have sz5 : sb < w5.heap.size := (by omega); have gz5 : g < w5.heap.size := (by omega); obtain ⟨t0, t1, t2, tf⟩ := HM5.out.at_ HQ.out; clear hb5))
          all_goals
            go_wp2
            go_roundw
            case rel => exact ⟨j + 1, by omega, by go_num, Lib.hid (HM5.out.step3 HQ.out (by show _ = wrap64 (p.1 + x); rw [Int.add_comm]) (by show _ = wrap64 (p.2.1 + y); rw [Int.add_comm]) (by unfold wrap64; omega))⟩
            case measure => simp [intOf]; omega
        · obtain rfl : j = (F k).length := by omega
          have HO2 := Lib.hid (HOK.out.moved hlt (by rw [HGK.out]; exact HM.out))
          have HW2 := Lib.hid (HWK.out.trans (HM.out.only.mono hgi.1 (by omega)))
          go_wp2
          go_roundw
          case rel => exact ⟨k + 1, by omega, by go_num, HO2, HW2⟩
          case measure => simp [intOf]; omega
    · obtain rfl : k = n := by omega
      have HR := Lib.hid ((HW.out.block (w.heap.size + 1) (by omega) (.inl (by omega))).trans HR4.out)
      have r0 := (cell_of_block HR.out 0).trans (show _ = some (Value.slice none 0 0) from rfl)
      have rf := unfrozen_of_block HR.out
      have rz := lt_of_cells HR.out
      have HB := Lib.hid (HF4.out.trans (HW.out.below (show w.heap.size ≤ w.heap.size + 1 + 1 by omega) (by omega)))
      go_wp2
      refine bodyPost_ret (v := .agg #[.slice (some ⟨G, 0, none⟩) k c]) (by simp [results, Try.results76, go_sem, r0]) rfl ⟨G, gs, c, rfl, ?_, HB.out.setCell (show w.heap.size ≤ w.heap.size + 1 by omega) _⟩
      have h1 := HG.out.only (lo' := w.heap.size) (hi' := w.heap.size + 1 + 1) ((Only.refl w.heap.size (w.heap.size + 1 + 1) wr).setCell (g := w.heap.size + 1) (i := 0) (by omega) (by omega) (.slice (some ⟨G, 0, none⟩) k c)) (.inr (by omega))
      exact ⟨Nat.le_refl _, h1.row, by have := h1.glo; omega, Nat.lt_of_lt_of_le h1.ghi h1.top, h1.inj, fun i hi => ⟨by have := (h1.inn i hi).1; omega, Nat.lt_of_lt_of_le (h1.inn i hi).2 h1.top⟩, h1.pts, h1.at_⟩

set_option maxHeartbeats 2000000 in
theorem change_none {C : Nat} (x y : Int) (B : Option Addr) (w : World) :
    Calls Try.prog 76 #[.agg #[.slice B 0 C], .func (.func 77) #[pt x y 0] #[]] w fun e w' => ∃ A c, e = .returned (.agg #[.slice A 0 c]) ∧ Below w.heap.size w w' := by
  go_enter Try.func76, Try.ntmps76
  go_wp2_with fail
  refine (copyStrokes_calls (C := C) B 0 (fun _ => []) _ (by omega) (fun i hi => absurd hi (by omega))).mono ?_
  rintro e w4 ⟨A, c, gs0, cs, rfl, -, hb4⟩
  have HR4 := Lib.hid ((hb4.block (w.heap.size + 1) (by simp)).trans (res_new1 w _))
  have HF4 := Lib.hid ((below_alloc2 w (.cells #[.slice B 0 C] 40) (.cells #[.slice none 0 0] 40)).trans (hb4.mono (below_alloc2 w _ _).size))
  clear hb4
  go_wp2
  go_loopw [15] (fun i w' => i = .int .i64 0 ∧ Hid (Below w.heap.size w w') ∧ Hid (w'.heap[w.heap.size + 1]? = some (Obj.cells #[.slice none 0 0] 40 (0, 0)))) (fun _ _ => 0)
  case atStart => exact ⟨rfl, HF4, HR4⟩
  case round =>
    obtain ⟨rfl, HB, HR⟩ := hrel
    have r0 := (cell_of_block HR.out 0).trans (show _ = some (Value.slice none 0 0) from rfl)
    have rf := unfrozen_of_block HR.out
    have rz' := lt_of_cells HR.out
    go_wp2
    exact bodyPost_ret (v := .agg #[.slice A 0 c]) (by simp [results, Try.results76, go_sem, r0]) rfl ⟨A, c, rfl, HB.out.setCell (show w.heap.size ≤ w.heap.size + 1 by omega) _⟩
end Go.Proofs.Ytklfmlbokedbdaa.owned
