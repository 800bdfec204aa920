/-
  Proved: both functions return the same side of three points.
  Conditions: none.
-/
import Derived.Test.YtmpiijnhbeipiaaAll
namespace Go.Proofs.Ytmpiijnhbeipiaa.wTurnOf
open Go.ChangeShapes Go.WideShapes Go.ChangeAt Go.RowKit Go.Joins
open Go.Proofs.Ytmpiijnhbeipiaa.core Go.Proofs.Ytmpiijnhbeipiaa.geoM Go.Proofs.Ytmpiijnhbeipiaa.stk Go.Proofs.Ytmpiijnhbeipiaa.seg Go.Proofs.Ytmpiijnhbeipiaa.side Go.Proofs.Ytmpiijnhbeipiaa.all
set_option linter.unusedVariables false
set_option linter.unusedSimpArgs false
set_option maxRecDepth 100000 in
set_option maxHeartbeats 1000000 in
theorem spec_yes (a b c : P3) (ha : inP a = true) (hb : inP b = true) (hc : inP c = true) (w : World) : Calls Try.prog 24 #[pv a, pv b, pv c] w fun e w' => e = .returned (.tuple #[.int .i64 (turn a b c), .int .i64 0]) ∧ Below w.heap.size w w' := by
  have HA := Lib.hid (fun W => specPoint a true ha W)
  have HB := Lib.hid (fun W => specPoint b true hb W)
  have HC := Lib.hid (fun W => specPoint c true hc W)
  have HL := Lib.hid (fun W => specTurn a b c (inP_rg ha) (inP_rg hb) (inP_rg hc) W)
  have B0 := Lib.hid (below_alloc3 w (.cells #[.int .i64 a.1, .int .i64 a.2.1, .int .i64 a.2.2] 28) (.cells #[.int .i64 b.1, .int .i64 b.2.1, .int .i64 b.2.2] 28) (.cells #[.int .i64 c.1, .int .i64 c.2.1, .int .i64 c.2.2] 28))
  clear ha hb hc
  go_enter Try.func24, Try.ntmps24
  go_wp2_with fail
  with_reducible refine (HA.out _).mono ?_
  rintro e w1 ⟨rfl, hb1⟩
  obtain ⟨hc1, hf1⟩ := bcell2 hb1
  have B1 := Lib.hid (B0.out.trans (hb1.mono B0.out.size))
  have z1 : w.heap.size + 1 + 1 < w1.heap.size := by have := hb1.size; simp at this; omega
  have y1 : w.heap.size + 1 < w1.heap.size := by omega
  have x1 : w.heap.size < w1.heap.size := by omega
  clear hb1
  go_wp2_with fail
  with_reducible refine (HB.out _).mono ?_
  rintro e w2 ⟨rfl, hb2⟩
  obtain ⟨hc2, hf2⟩ := bcell2 hb2
  have B2 := Lib.hid (B1.out.trans (hb2.mono B1.out.size))
  have z2 : w.heap.size + 1 + 1 < w2.heap.size := by have := hb2.size; omega
  have y2 : w.heap.size + 1 < w2.heap.size := by omega
  have x2 : w.heap.size < w2.heap.size := by omega
  clear hb2
  go_wp2_with fail
  with_reducible refine (HC.out _).mono ?_
  rintro e w3 ⟨rfl, hb3⟩
  obtain ⟨hc3, hf3⟩ := bcell2 hb3
  have B3 := Lib.hid (B2.out.trans (hb3.mono B2.out.size))
  have z3 : w.heap.size + 1 + 1 < w3.heap.size := by have := hb3.size; omega
  have y3 : w.heap.size + 1 < w3.heap.size := by omega
  have x3 : w.heap.size < w3.heap.size := by omega
  clear hb3
  go_wp2_with fail
  with_reducible refine (HL.out _).mono ?_
  rintro e w4 ⟨rfl, hb4⟩
  have B4 := Lib.hid (B3.out.trans (hb4.mono B3.out.size))
  clear hb4
  clear hc1 hf1 hc2 hf2 hc3 hf3
  go_wp2
  go_ret2
  exact ⟨rfl, B4.out⟩
set_option maxRecDepth 100000 in
set_option maxHeartbeats 1000000 in
theorem spec_no0 (a b c : P3) (ha : inP a = false) (w : World) : Calls Try.prog 24 #[pv a, pv b, pv c] w fun e w' => e = .returned (.tuple #[.int .i64 0, .int .i64 1]) ∧ Below w.heap.size w w' := by
  have HA := Lib.hid (fun W => specPoint a false ha W)
  have B0 := Lib.hid (below_alloc3 w (.cells #[.int .i64 a.1, .int .i64 a.2.1, .int .i64 a.2.2] 28) (.cells #[.int .i64 b.1, .int .i64 b.2.1, .int .i64 b.2.2] 28) (.cells #[.int .i64 c.1, .int .i64 c.2.1, .int .i64 c.2.2] 28))
  clear ha
  go_enter Try.func24, Try.ntmps24
  go_wp2_with fail
  with_reducible refine (HA.out _).mono ?_
  rintro e w1 ⟨rfl, hb1⟩
  have B1 := Lib.hid (B0.out.trans (hb1.mono B0.out.size))
  clear hb1
  go_wp2
  go_ret2
  exact ⟨rfl, B1.out⟩
set_option maxRecDepth 100000 in
set_option maxHeartbeats 1000000 in
theorem spec_no1 (a b c : P3) (ha : inP a = true) (hb : inP b = false) (w : World) : Calls Try.prog 24 #[pv a, pv b, pv c] w fun e w' => e = .returned (.tuple #[.int .i64 0, .int .i64 1]) ∧ Below w.heap.size w w' := by
  have HA := Lib.hid (fun W => specPoint a true ha W)
  have HB := Lib.hid (fun W => specPoint b false hb W)
  have B0 := Lib.hid (below_alloc3 w (.cells #[.int .i64 a.1, .int .i64 a.2.1, .int .i64 a.2.2] 28) (.cells #[.int .i64 b.1, .int .i64 b.2.1, .int .i64 b.2.2] 28) (.cells #[.int .i64 c.1, .int .i64 c.2.1, .int .i64 c.2.2] 28))
  clear ha hb
  go_enter Try.func24, Try.ntmps24
  go_wp2_with fail
  with_reducible refine (HA.out _).mono ?_
  rintro e w1 ⟨rfl, hb1⟩
  obtain ⟨hc1, hf1⟩ := bcell2 hb1
  have B1 := Lib.hid (B0.out.trans (hb1.mono B0.out.size))
  have z1 : w.heap.size + 1 + 1 < w1.heap.size := by have := hb1.size; simp at this; omega
  have y1 : w.heap.size + 1 < w1.heap.size := by omega
  have x1 : w.heap.size < w1.heap.size := by omega
  clear hb1
  go_wp2_with fail
  with_reducible refine (HB.out _).mono ?_
  rintro e w2 ⟨rfl, hb2⟩
  have B2 := Lib.hid (B1.out.trans (hb2.mono B1.out.size))
  clear hb2
  clear hc1 hf1
  go_wp2
  go_ret2
  exact ⟨rfl, B2.out⟩
set_option maxRecDepth 100000 in
set_option maxHeartbeats 1000000 in
theorem spec_no2 (a b c : P3) (ha : inP a = true) (hb : inP b = true) (hc : inP c = false) (w : World) : Calls Try.prog 24 #[pv a, pv b, pv c] w fun e w' => e = .returned (.tuple #[.int .i64 0, .int .i64 1]) ∧ Below w.heap.size w w' := by
  have HA := Lib.hid (fun W => specPoint a true ha W)
  have HB := Lib.hid (fun W => specPoint b true hb W)
  have HC := Lib.hid (fun W => specPoint c false hc W)
  have B0 := Lib.hid (below_alloc3 w (.cells #[.int .i64 a.1, .int .i64 a.2.1, .int .i64 a.2.2] 28) (.cells #[.int .i64 b.1, .int .i64 b.2.1, .int .i64 b.2.2] 28) (.cells #[.int .i64 c.1, .int .i64 c.2.1, .int .i64 c.2.2] 28))
  clear ha hb hc
  go_enter Try.func24, Try.ntmps24
  go_wp2_with fail
  with_reducible refine (HA.out _).mono ?_
  rintro e w1 ⟨rfl, hb1⟩
  obtain ⟨hc1, hf1⟩ := bcell2 hb1
  have B1 := Lib.hid (B0.out.trans (hb1.mono B0.out.size))
  have z1 : w.heap.size + 1 + 1 < w1.heap.size := by have := hb1.size; simp at this; omega
  have y1 : w.heap.size + 1 < w1.heap.size := by omega
  have x1 : w.heap.size < w1.heap.size := by omega
  clear hb1
  go_wp2_with fail
  with_reducible refine (HB.out _).mono ?_
  rintro e w2 ⟨rfl, hb2⟩
  obtain ⟨hc2, hf2⟩ := bcell2 hb2
  have B2 := Lib.hid (B1.out.trans (hb2.mono B1.out.size))
  have z2 : w.heap.size + 1 + 1 < w2.heap.size := by have := hb2.size; omega
  have y2 : w.heap.size + 1 < w2.heap.size := by omega
  have x2 : w.heap.size < w2.heap.size := by omega
  clear hb2
  go_wp2_with fail
  with_reducible refine (HC.out _).mono ?_
  rintro e w3 ⟨rfl, hb3⟩
  have B3 := Lib.hid (B2.out.trans (hb3.mono B2.out.size))
  clear hb3
  clear hc1 hf1 hc2 hf2
  go_wp2
  go_ret2
  exact ⟨rfl, B3.out⟩
set_option maxRecDepth 100000 in
set_option maxHeartbeats 1000000 in
theorem impl_yes (a b c : P3) (ha : inP a = true) (hb : inP b = true) (hc : inP c = true) (w : World) : Calls Try.prog 25 #[pv a, pv b, pv c] w fun e w' => e = .returned (.tuple #[.int .i64 (turn a b c), .int .i64 0]) ∧ Below w.heap.size w w' := by
  have HA := Lib.hid (fun (W : World) A q (hp : PtsAt W A 3 (pts3 a b c)) => allIn_calls A 3 q (pts3 a b c) true W (by omega) hp ⟨(fun _ i hi => by
    rcases (show i = 0 ∨ i = 1 ∨ i = 2 by omega) with rfl | rfl | rfl
    · exact ha
    · exact hb
    · exact hc), (fun _ => rfl)⟩)
  have HL := Lib.hid (fun W => turnTo_calls a b c (inP_rg ha) (inP_rg hb) (inP_rg hc) W)
  have B0 := Lib.hid (show Below w.heap.size w ((((w.alloc (.cells #[.int .i64 a.1, .int .i64 a.2.1, .int .i64 a.2.2] 28)).alloc (.cells #[.int .i64 b.1, .int .i64 b.2.1, .int .i64 b.2.2] 28)).alloc (.cells #[.int .i64 c.1, .int .i64 c.2.1, .int .i64 c.2.2] 28)).alloc (.cells #[.int .i64 a.1, .int .i64 a.2.1, .int .i64 a.2.2, .int .i64 b.1, .int .i64 b.2.1, .int .i64 b.2.2, .int .i64 c.1, .int .i64 c.2.1, .int .i64 c.2.2] 28)) from (below_alloc3 w _ _ _).trans ((below_alloc1 _ _).mono (below_alloc3 w _ _ _).size))
  have HP := Lib.hid (new3 (((w.alloc (.cells #[.int .i64 a.1, .int .i64 a.2.1, .int .i64 a.2.2] 28)).alloc (.cells #[.int .i64 b.1, .int .i64 b.2.1, .int .i64 b.2.2] 28)).alloc (.cells #[.int .i64 c.1, .int .i64 c.2.1, .int .i64 c.2.2] 28)) a b c 28)
  clear ha hb hc
  go_enter Try.func25, Try.ntmps25
  go_wp2_with fail
  refine (HA.out _ _ _ (by have := HP.out; simp at this; exact this)).mono ?_
  rintro e w1 ⟨rfl, hb1⟩
  obtain ⟨hc1, hf1⟩ := bcell2 hb1
  have B1 := Lib.hid (B0.out.trans (hb1.mono B0.out.size))
  clear hb1 HP
  go_wp2_with fail
  with_reducible refine (HL.out _).mono ?_
  rintro e w2 ⟨rfl, hb2⟩
  have B2 := Lib.hid (B1.out.trans (hb2.mono B1.out.size))
  clear hb2
  clear hc1 hf1
  go_wp2
  go_ret2
  exact ⟨rfl, B2.out⟩
set_option maxRecDepth 100000 in
set_option maxHeartbeats 1000000 in
theorem impl_no (a b c : P3) (h : ¬ (inP a = true ∧ inP b = true ∧ inP c = true)) (w : World) : Calls Try.prog 25 #[pv a, pv b, pv c] w fun e w' => e = .returned (.tuple #[.int .i64 0, .int .i64 1]) ∧ Below w.heap.size w w' := by
  have HA := Lib.hid (fun (W : World) A q (hp : PtsAt W A 3 (pts3 a b c)) => allIn_calls A 3 q (pts3 a b c) false W (by omega) hp ⟨(fun e => by cases e), fun hh => absurd ⟨hh 0 (by omega), hh 1 (by omega), hh 2 (by omega)⟩ h⟩)
  have B0 := Lib.hid (show Below w.heap.size w ((((w.alloc (.cells #[.int .i64 a.1, .int .i64 a.2.1, .int .i64 a.2.2] 28)).alloc (.cells #[.int .i64 b.1, .int .i64 b.2.1, .int .i64 b.2.2] 28)).alloc (.cells #[.int .i64 c.1, .int .i64 c.2.1, .int .i64 c.2.2] 28)).alloc (.cells #[.int .i64 a.1, .int .i64 a.2.1, .int .i64 a.2.2, .int .i64 b.1, .int .i64 b.2.1, .int .i64 b.2.2, .int .i64 c.1, .int .i64 c.2.1, .int .i64 c.2.2] 28)) from (below_alloc3 w _ _ _).trans ((below_alloc1 _ _).mono (below_alloc3 w _ _ _).size))
  have HP := Lib.hid (new3 (((w.alloc (.cells #[.int .i64 a.1, .int .i64 a.2.1, .int .i64 a.2.2] 28)).alloc (.cells #[.int .i64 b.1, .int .i64 b.2.1, .int .i64 b.2.2] 28)).alloc (.cells #[.int .i64 c.1, .int .i64 c.2.1, .int .i64 c.2.2] 28)) a b c 28)
  clear h
  go_enter Try.func25, Try.ntmps25
  go_wp2_with fail
  refine (HA.out _ _ _ (by have := HP.out; simp at this; exact this)).mono ?_
  rintro e w1 ⟨rfl, hb1⟩
  have B1 := Lib.hid (B0.out.trans (hb1.mono B0.out.size))
  clear hb1 HP
  go_wp2
  go_ret2
  exact ⟨rfl, B1.out⟩
theorem spec_no (a b c : P3) (h : ¬ (inP a = true ∧ inP b = true ∧ inP c = true)) (w : World) : Calls Try.prog 24 #[pv a, pv b, pv c] w fun e w' => e = .returned (.tuple #[.int .i64 0, .int .i64 1]) ∧ Below w.heap.size w w' := by
  cases ha : inP a with
  | false => exact spec_no0 a b c ha w
  | true =>
    cases hb : inP b with
    | false => exact spec_no1 a b c ha hb w
    | true =>
      cases hc : inP c with
      | false => exact spec_no2 a b c ha hb hc w
      | true => exact absurd ⟨ha, hb, hc⟩ h
theorem meat (vs0 : Nat → Value) (g0 : Nat → Dat) (vs1 : Nat → Value) (g1 : Nat → Dat) (vs2 : Nat → Value) (g2 : Nat → Dat) (ht0 : tyrPoint g0) (ht1 : tyrPoint g1) (ht2 : tyrPoint g2) :
    ∃ (r0 : Int) (r1 : Int), (∀ (W : World) (us0 : Nat → Value) (us1 : Nat → Value) (us2 : Nat → Value), ReadsRec W 3 us0 g0 → ReadsRec W 3 us1 g1 → ReadsRec W 3 us2 g2 → Calls Try.prog 24 #[.agg #[us0 0, us0 1, us0 2], .agg #[us1 0, us1 1, us1 2], .agg #[us2 0, us2 1, us2 2]] W fun e W' => e = .returned (.tuple #[.int .i64 r0, .int .i64 r1]) ∧ Below W.heap.size W W') ∧ (∀ (W : World) (us0 : Nat → Value) (us1 : Nat → Value) (us2 : Nat → Value), ReadsRec W 3 us0 g0 → ReadsRec W 3 us1 g1 → ReadsRec W 3 us2 g2 → Calls Try.prog 25 #[.agg #[us0 0, us0 1, us0 2], .agg #[us1 0, us1 1, us1 2], .agg #[us2 0, us2 1, us2 2]] W fun e W' => e = .returned (.tuple #[.int .i64 r0, .int .i64 r1]) ∧ Below W.heap.size W W') := by
  by_cases h : inP (ptOf g0) = true ∧ inP (ptOf g1) = true ∧ inP (ptOf g2) = true
  · exact ⟨_, _, fun W us0 us1 us2 h0 h1 h2 => by rw [reads_pt h0 ht0, reads_pt h1 ht1, reads_pt h2 ht2]; exact spec_yes _ _ _ h.1 h.2.1 h.2.2 W, fun W us0 us1 us2 h0 h1 h2 => by rw [reads_pt h0 ht0, reads_pt h1 ht1, reads_pt h2 ht2]; exact impl_yes _ _ _ h.1 h.2.1 h.2.2 W⟩
  · exact ⟨_, _, fun W us0 us1 us2 h0 h1 h2 => by rw [reads_pt h0 ht0, reads_pt h1 ht1, reads_pt h2 ht2]; exact spec_no _ _ _ h W, fun W us0 us1 us2 h0 h1 h2 => by rw [reads_pt h0 ht0, reads_pt h1 ht1, reads_pt h2 ht2]; exact impl_no _ _ _ h W⟩
end Go.Proofs.Ytmpiijnhbeipiaa.wTurnOf
