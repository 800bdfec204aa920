/-
  Proved: both functions return the same length of a segment.
  Conditions: none.
-/
import Derived.Test.YtmpiijnhbeipiaaAll
namespace Go.Proofs.Ytmpiijnhbeipiaa.wSegmentLength
open Go.ChangeShapes Go.WideShapes Go.ChangeAt Go.RowKit Go.Joins
open Go.Proofs.Ytmpiijnhbeipiaa.core Go.Proofs.Ytmpiijnhbeipiaa.geoM Go.Proofs.Ytmpiijnhbeipiaa.stk Go.Proofs.Ytmpiijnhbeipiaa.seg Go.Proofs.Ytmpiijnhbeipiaa.side Go.Proofs.Ytmpiijnhbeipiaa.all
set_option linter.unusedVariables false
set_option linter.unusedSimpArgs false
set_option maxRecDepth 100000 in
set_option maxHeartbeats 1000000 in
theorem spec_yes (a b : P3) (ha : inP a = true) (hb : inP b = true) (w : World) : Calls Try.prog 16 #[pv a, pv b] w fun e w' => e = .returned (.tuple #[.int .i64 (len a b : Nat), .int .i64 0]) ∧ Below w.heap.size w w' := by
  have HA := Lib.hid (fun W => specPoint a true ha W)
  have HB := Lib.hid (fun W => specPoint b true hb W)
  have HL := Lib.hid (fun W => specLen a b (inP_rg ha) (inP_rg hb) W)
  have B0 := Lib.hid (below_alloc2 w (.cells #[.int .i64 a.1, .int .i64 a.2.1, .int .i64 a.2.2] 28) (.cells #[.int .i64 b.1, .int .i64 b.2.1, .int .i64 b.2.2] 28))
  clear ha hb
  go_enter Try.func16, Try.ntmps16
  go_wp2_with fail
  with_reducible refine (HA.out _).mono ?_
  rintro e w1 ⟨rfl, hb1⟩
  obtain ⟨hc, hf⟩ := bcell2 hb1
  have B1 := Lib.hid (B0.out.trans (hb1.mono B0.out.size))
  have z1 : w.heap.size + 1 < w1.heap.size := by have := hb1.size; simp at this; omega
  have y1 : w.heap.size < w1.heap.size := by omega
  clear hb1
  go_wp2_with fail
  with_reducible refine (HB.out _).mono ?_
  rintro e w2 ⟨rfl, hb2⟩
  obtain ⟨hc2, hf2⟩ := bcell2 hb2
  have B2 := Lib.hid (B1.out.trans (hb2.mono B1.out.size))
  clear hb2
  go_wp2_with fail
  with_reducible refine (HL.out _).mono ?_
  rintro e w3 ⟨rfl, hb3⟩
  have B3 := Lib.hid (B2.out.trans (hb3.mono B2.out.size))
  clear hb3 hc hf hc2 hf2
  go_wp2
  go_ret2
  exact ⟨rfl, B3.out⟩
set_option maxRecDepth 100000 in
set_option maxHeartbeats 1000000 in
theorem spec_no (a b : P3) (h : ¬ (inP a = true ∧ inP b = true)) (w : World) : Calls Try.prog 16 #[pv a, pv b] w fun e w' => e = .returned (.tuple #[.int .i64 0, .int .i64 1]) ∧ Below w.heap.size w w' := by
  have B0 := Lib.hid (below_alloc2 w (.cells #[.int .i64 a.1, .int .i64 a.2.1, .int .i64 a.2.2] 28) (.cells #[.int .i64 b.1, .int .i64 b.2.1, .int .i64 b.2.2] 28))
  cases ha : inP a with
  | false =>
    have HA := Lib.hid (fun W => specPoint a false ha W)
    clear ha h
    go_enter Try.func16, Try.ntmps16
    go_wp2_with fail
    with_reducible refine (HA.out _).mono ?_
    rintro e w1 ⟨rfl, hb1⟩
    have B1 := Lib.hid (B0.out.trans (hb1.mono B0.out.size))
    clear hb1
    go_wp2
    go_ret2
    exact ⟨rfl, B1.out⟩
  | true =>
    have hbb : inP b = false := by
      cases hh : inP b
      · rfl
      · exact absurd ⟨ha, hh⟩ h
    have HA := Lib.hid (fun W => specPoint a true ha W)
    have HB := Lib.hid (fun W => specPoint b false hbb W)
    clear ha hbb h
    go_enter Try.func16, Try.ntmps16
    go_wp2_with fail
    with_reducible refine (HA.out _).mono ?_
    rintro e w1 ⟨rfl, hb1⟩
    obtain ⟨hc, hf⟩ := bcell2 hb1
    have B1 := Lib.hid (B0.out.trans (hb1.mono B0.out.size))
    clear hb1
    go_wp2_with fail
    with_reducible refine (HB.out _).mono ?_
    rintro e w2 ⟨rfl, hb2⟩
    have B2 := Lib.hid (B1.out.trans (hb2.mono B1.out.size))
    clear hb2 hc hf
    go_wp2
    go_ret2
    exact ⟨rfl, B2.out⟩
set_option maxRecDepth 100000 in
set_option maxHeartbeats 1000000 in
theorem impl_yes (a b : P3) (ha : inP a = true) (hb : inP b = true) (w : World) : Calls Try.prog 18 #[pv a, pv b] w fun e w' => e = .returned (.tuple #[.int .i64 (len a b : Nat), .int .i64 0]) ∧ Below w.heap.size w w' := by
  have HA := Lib.hid (fun (W : World) A c (hp : PtsAt W A 2 (pts2 a b)) => allIn_calls A 2 c (pts2 a b) true W (by omega) hp ⟨fun _ i hi => by
    rcases (show i = 0 ∨ i = 1 by omega) with rfl | rfl
    · exact ha
    · exact hb, fun _ => rfl⟩)
  have HL := Lib.hid (fun W => length_calls a b (inP_rg ha) (inP_rg hb) W)
  have B0 := Lib.hid (below_alloc3 w (.cells #[.int .i64 a.1, .int .i64 a.2.1, .int .i64 a.2.2] 28) (.cells #[.int .i64 b.1, .int .i64 b.2.1, .int .i64 b.2.2] 28) (.cells #[.int .i64 a.1, .int .i64 a.2.1, .int .i64 a.2.2, .int .i64 b.1, .int .i64 b.2.1, .int .i64 b.2.2] 28))
  have HP := Lib.hid (new2 ((w.alloc (.cells #[.int .i64 a.1, .int .i64 a.2.1, .int .i64 a.2.2] 28)).alloc (.cells #[.int .i64 b.1, .int .i64 b.2.1, .int .i64 b.2.2] 28)) a b 28)
  clear ha hb
  go_enter Try.func18, Try.ntmps18
  go_wp2_with fail
  refine (HA.out _ _ _ (by have := HP.out; simp at this; exact this)).mono ?_
  rintro e w1 ⟨rfl, hb1⟩
  obtain ⟨hc, hf⟩ := bcell2 hb1
  have B1 := Lib.hid (B0.out.trans (hb1.mono B0.out.size))
  clear hb1 HP
  go_wp2_with fail
  with_reducible refine (HL.out _).mono ?_
  rintro e w3 ⟨rfl, hb3⟩
  have B3 := Lib.hid (B1.out.trans (hb3.mono B1.out.size))
  clear hb3 hc hf
  go_wp2
  go_ret2
  exact ⟨rfl, B3.out⟩
set_option maxRecDepth 100000 in
set_option maxHeartbeats 1000000 in
theorem impl_no (a b : P3) (h : ¬ (inP a = true ∧ inP b = true)) (w : World) : Calls Try.prog 18 #[pv a, pv b] w fun e w' => e = .returned (.tuple #[.int .i64 0, .int .i64 1]) ∧ Below w.heap.size w w' := by
  have HA := Lib.hid (fun (W : World) A c (hp : PtsAt W A 2 (pts2 a b)) => allIn_calls A 2 c (pts2 a b) false W (by omega) hp ⟨(fun e => by cases e), fun hh => absurd ⟨hh 0 (by omega), hh 1 (by omega)⟩ h⟩)
  have B0 := Lib.hid (below_alloc3 w (.cells #[.int .i64 a.1, .int .i64 a.2.1, .int .i64 a.2.2] 28) (.cells #[.int .i64 b.1, .int .i64 b.2.1, .int .i64 b.2.2] 28) (.cells #[.int .i64 a.1, .int .i64 a.2.1, .int .i64 a.2.2, .int .i64 b.1, .int .i64 b.2.1, .int .i64 b.2.2] 28))
  have HP := Lib.hid (new2 ((w.alloc (.cells #[.int .i64 a.1, .int .i64 a.2.1, .int .i64 a.2.2] 28)).alloc (.cells #[.int .i64 b.1, .int .i64 b.2.1, .int .i64 b.2.2] 28)) a b 28)
  clear h
  go_enter Try.func18, Try.ntmps18
  go_wp2_with fail
  refine (HA.out _ _ _ (by have := HP.out; simp at this; exact this)).mono ?_
  rintro e w1 ⟨rfl, hb1⟩
  have B1 := Lib.hid (B0.out.trans (hb1.mono B0.out.size))
  clear hb1 HP
  go_wp2
  go_ret2
  exact ⟨rfl, B1.out⟩
theorem meat (vs0 : Nat → Value) (g0 : Nat → Dat) (vs1 : Nat → Value) (g1 : Nat → Dat) (ht0 : tyrPoint g0) (ht1 : tyrPoint g1) :
    ∃ (r0 : Int) (r1 : Int), (∀ (W : World) (us0 : Nat → Value) (us1 : Nat → Value), ReadsRec W 3 us0 g0 → ReadsRec W 3 us1 g1 → Calls Try.prog 16 #[.agg #[us0 0, us0 1, us0 2], .agg #[us1 0, us1 1, us1 2]] W fun e W' => e = .returned (.tuple #[.int .i64 r0, .int .i64 r1]) ∧ Below W.heap.size W W') ∧ (∀ (W : World) (us0 : Nat → Value) (us1 : Nat → Value), ReadsRec W 3 us0 g0 → ReadsRec W 3 us1 g1 → Calls Try.prog 18 #[.agg #[us0 0, us0 1, us0 2], .agg #[us1 0, us1 1, us1 2]] W fun e W' => e = .returned (.tuple #[.int .i64 r0, .int .i64 r1]) ∧ Below W.heap.size W W') := by
  by_cases h : inP (ptOf g0) = true ∧ inP (ptOf g1) = true
  · exact ⟨_, _, fun W us0 us1 h0 h1 => by rw [reads_pt h0 ht0, reads_pt h1 ht1]; exact spec_yes _ _ h.1 h.2 W, fun W us0 us1 h0 h1 => by rw [reads_pt h0 ht0, reads_pt h1 ht1]; exact impl_yes _ _ h.1 h.2 W⟩
  · exact ⟨_, _, fun W us0 us1 h0 h1 => by rw [reads_pt h0 ht0, reads_pt h1 ht1]; exact spec_no _ _ h W, fun W us0 us1 h0 h1 => by rw [reads_pt h0 ht0, reads_pt h1 ht1]; exact impl_no _ _ h W⟩
end Go.Proofs.Ytmpiijnhbeipiaa.wSegmentLength
