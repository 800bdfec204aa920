/-
  Proved: both functions answer the same on segments that meet.
  Conditions: none.
-/
import Derived.Test.YtmpiijnhbeipiaaMeet
namespace Go.Proofs.Ytmpiijnhbeipiaa.wSegmentsMeet
open Go.ChangeShapes Go.WideShapes Go.ChangeAt Go.RowKit Go.Joins
open Go.Proofs.Ytmpiijnhbeipiaa.core Go.Proofs.Ytmpiijnhbeipiaa.geoM Go.Proofs.Ytmpiijnhbeipiaa.stk Go.Proofs.Ytmpiijnhbeipiaa.seg Go.Proofs.Ytmpiijnhbeipiaa.side Go.Proofs.Ytmpiijnhbeipiaa.all Go.Proofs.Ytmpiijnhbeipiaa.meetS Go.Proofs.Ytmpiijnhbeipiaa.meetI Go.Proofs.Ytmpiijnhbeipiaa.meet
set_option linter.unusedVariables false
set_option linter.unusedSimpArgs false
set_option maxRecDepth 100000 in
set_option maxHeartbeats 4000000 in
theorem spec_0 (a b c d : P3) (ha : inP a = false) (w : World) : Calls Try.prog 26 #[pv a, pv b, pv c, pv d] w fun e w' => e = .returned (.bool (false)) ∧ Below w.heap.size w w' := by
  have Pa := Lib.hid (fun W => specPoint a false ha W)
  have F0 := Lib.hid (Four.start w a b c d 28)
  clear ha
  go_enter Try.func26, Try.ntmps26
  go_wp2_with (first | (go_at_call 45; (first | (with_reducible refine (Pa.out _).mono ?_)); rintro e wn ⟨rfl, hbn⟩; have F1 := Lib.hid (F0.out.kept hbn); clear F0 hbn; (have F0 := F1); clear F1; (try clear a0 a1 a2 b0 b1 b2 c0 c1 c2 d0 d1 d2); obtain ⟨-, -, a0, a1, a2, b0, b1, b2, c0, c1, c2, d0, d1, d2⟩ := F0.out))
  all_goals go_ret
  all_goals exact ⟨rfl, F0.out.below⟩
set_option maxRecDepth 100000 in
set_option maxHeartbeats 4000000 in
theorem spec_1 (a b c d : P3) (ha : inP a = true) (hb : inP b = false) (w : World) : Calls Try.prog 26 #[pv a, pv b, pv c, pv d] w fun e w' => e = .returned (.bool (false)) ∧ Below w.heap.size w w' := by
  have Pa := Lib.hid (fun W => specPoint a true ha W)
  have Pb := Lib.hid (fun W => specPoint b false hb W)
  have F0 := Lib.hid (Four.start w a b c d 28)
  clear ha hb
  go_enter Try.func26, Try.ntmps26
  go_wp2_with (first | (go_at_call 45; (first | (with_reducible refine (Pa.out _).mono ?_) | (with_reducible refine (Pb.out _).mono ?_)); rintro e wn ⟨rfl, hbn⟩; have F1 := Lib.hid (F0.out.kept hbn); clear F0 hbn; (have F0 := F1); clear F1; (try clear a0 a1 a2 b0 b1 b2 c0 c1 c2 d0 d1 d2); obtain ⟨-, -, a0, a1, a2, b0, b1, b2, c0, c1, c2, d0, d1, d2⟩ := F0.out))
  all_goals go_ret
  all_goals exact ⟨rfl, F0.out.below⟩
set_option maxRecDepth 100000 in
set_option maxHeartbeats 4000000 in
theorem spec_2 (a b c d : P3) (ha : inP a = true) (hb : inP b = true) (hc : inP c = false) (w : World) : Calls Try.prog 26 #[pv a, pv b, pv c, pv d] w fun e w' => e = .returned (.bool (false)) ∧ Below w.heap.size w w' := by
  have Pa := Lib.hid (fun W => specPoint a true ha W)
  have Pb := Lib.hid (fun W => specPoint b true hb W)
  have Pc := Lib.hid (fun W => specPoint c false hc W)
  have F0 := Lib.hid (Four.start w a b c d 28)
  clear ha hb hc
  go_enter Try.func26, Try.ntmps26
  go_wp2_with (first | (go_at_call 45; (first | (with_reducible refine (Pa.out _).mono ?_) | (with_reducible refine (Pb.out _).mono ?_) | (with_reducible refine (Pc.out _).mono ?_)); rintro e wn ⟨rfl, hbn⟩; have F1 := Lib.hid (F0.out.kept hbn); clear F0 hbn; (have F0 := F1); clear F1; (try clear a0 a1 a2 b0 b1 b2 c0 c1 c2 d0 d1 d2); obtain ⟨-, -, a0, a1, a2, b0, b1, b2, c0, c1, c2, d0, d1, d2⟩ := F0.out))
  all_goals go_ret
  all_goals exact ⟨rfl, F0.out.below⟩
set_option maxRecDepth 100000 in
set_option maxHeartbeats 4000000 in
theorem spec_3 (a b c d : P3) (ha : inP a = true) (hb : inP b = true) (hc : inP c = true) (hd : inP d = false) (w : World) : Calls Try.prog 26 #[pv a, pv b, pv c, pv d] w fun e w' => e = .returned (.bool (false)) ∧ Below w.heap.size w w' := by
  have Pa := Lib.hid (fun W => specPoint a true ha W)
  have Pb := Lib.hid (fun W => specPoint b true hb W)
  have Pc := Lib.hid (fun W => specPoint c true hc W)
  have Pd := Lib.hid (fun W => specPoint d false hd W)
  have F0 := Lib.hid (Four.start w a b c d 28)
  clear ha hb hc hd
  go_enter Try.func26, Try.ntmps26
  go_wp2_with (first | (go_at_call 45; (first | (with_reducible refine (Pa.out _).mono ?_) | (with_reducible refine (Pb.out _).mono ?_) | (with_reducible refine (Pc.out _).mono ?_) | (with_reducible refine (Pd.out _).mono ?_)); rintro e wn ⟨rfl, hbn⟩; have F1 := Lib.hid (F0.out.kept hbn); clear F0 hbn; (have F0 := F1); clear F1; (try clear a0 a1 a2 b0 b1 b2 c0 c1 c2 d0 d1 d2); obtain ⟨-, -, a0, a1, a2, b0, b1, b2, c0, c1, c2, d0, d1, d2⟩ := F0.out))
  all_goals go_ret
  all_goals exact ⟨rfl, F0.out.below⟩
set_option maxRecDepth 100000 in
set_option maxHeartbeats 4000000 in
theorem spec_4 (a b c d : P3) (ha : inP a = true) (hb : inP b = true) (hc : inP c = true) (hd : inP d = true) (w : World) : Calls Try.prog 26 #[pv a, pv b, pv c, pv d] w fun e w' => e = .returned (.bool (meetB a b c d)) ∧ Below w.heap.size w w' := by
  have Pa := Lib.hid (fun W => specPoint a true ha W)
  have Pb := Lib.hid (fun W => specPoint b true hb W)
  have Pc := Lib.hid (fun W => specPoint c true hc W)
  have Pd := Lib.hid (fun W => specPoint d true hd W)
  have M := Lib.hid (fun W => meetS.meet_calls a b c d (inP_rg ha) (inP_rg hb) (inP_rg hc) (inP_rg hd) W)
  rw [meet_eq] at M
  generalize meetB a b c d = r at *
  have F0 := Lib.hid (Four.start w a b c d 28)
  clear ha hb hc hd
  go_enter Try.func26, Try.ntmps26
  go_wp2_with (first | (go_at_call 45; (first | (with_reducible refine (Pa.out _).mono ?_) | (with_reducible refine (Pb.out _).mono ?_) | (with_reducible refine (Pc.out _).mono ?_) | (with_reducible refine (Pd.out _).mono ?_)); rintro e wn ⟨rfl, hbn⟩; have F1 := Lib.hid (F0.out.kept hbn); clear F0 hbn; (have F0 := F1); clear F1; (try clear a0 a1 a2 b0 b1 b2 c0 c1 c2 d0 d1 d2); obtain ⟨-, -, a0, a1, a2, b0, b1, b2, c0, c1, c2, d0, d1, d2⟩ := F0.out) | (go_at_call 58; (with_reducible refine (M.out _).mono ?_); rintro e wn ⟨rfl, hbn⟩; have F1 := Lib.hid (F0.out.kept hbn); clear F0 hbn; (have F0 := F1); clear F1; (try clear a0 a1 a2 b0 b1 b2 c0 c1 c2 d0 d1 d2); obtain ⟨-, -, a0, a1, a2, b0, b1, b2, c0, c1, c2, d0, d1, d2⟩ := F0.out))
  all_goals go_ret
  all_goals exact ⟨rfl, F0.out.below⟩
set_option maxRecDepth 100000 in
set_option maxHeartbeats 4000000 in
theorem impl_yes (a b c d : P3) (ha : inP a = true) (hb : inP b = true) (hc : inP c = true) (hd : inP d = true) (w : World) : Calls Try.prog 27 #[pv a, pv b, pv c, pv d] w fun e w' => e = .returned (.bool (meetB a b c d)) ∧ Below w.heap.size w w' := by
  have HA := Lib.hid (fun (W : World) A q (hp : PtsAt W A 4 (pts4 a b c d)) => allIn_calls A 4 q (pts4 a b c d) true W (by omega) hp ⟨(fun _ i hi => by
    rcases (show i = 0 ∨ i = 1 ∨ i = 2 ∨ i = 3 by omega) with rfl | rfl | rfl | rfl
    · exact ha
    · exact hb
    · exact hc
    · exact hd), (fun _ => rfl)⟩)
  have HL := Lib.hid (fun W => meets_calls a b c d (inP_rg ha) (inP_rg hb) (inP_rg hc) (inP_rg hd) W)
  generalize meetB a b c d = r at *
  have F0 := Lib.hid ((Four.start w a b c d 28).kept (below_alloc1 ((((w.alloc (.cells #[.int .i64 a.1, .int .i64 a.2.1, .int .i64 a.2.2] 28)).alloc (.cells #[.int .i64 b.1, .int .i64 b.2.1, .int .i64 b.2.2] 28)).alloc (.cells #[.int .i64 c.1, .int .i64 c.2.1, .int .i64 c.2.2] 28)).alloc (.cells #[.int .i64 d.1, .int .i64 d.2.1, .int .i64 d.2.2] 28)) (.cells #[.int .i64 a.1, .int .i64 a.2.1, .int .i64 a.2.2, .int .i64 b.1, .int .i64 b.2.1, .int .i64 b.2.2, .int .i64 c.1, .int .i64 c.2.1, .int .i64 c.2.2, .int .i64 d.1, .int .i64 d.2.1, .int .i64 d.2.2] 28)))
  have HP := Lib.hid (new4 ((((w.alloc (.cells #[.int .i64 a.1, .int .i64 a.2.1, .int .i64 a.2.2] 28)).alloc (.cells #[.int .i64 b.1, .int .i64 b.2.1, .int .i64 b.2.2] 28)).alloc (.cells #[.int .i64 c.1, .int .i64 c.2.1, .int .i64 c.2.2] 28)).alloc (.cells #[.int .i64 d.1, .int .i64 d.2.1, .int .i64 d.2.2] 28)) a b c d 28)
  clear ha hb hc hd
  go_enter Try.func27, Try.ntmps27
  go_wp2_with fail
  refine (HA.out _ _ _ (by have := HP.out; simp at this; exact this)).mono ?_
  rintro e wn ⟨rfl, hbn⟩
  have F1 := Lib.hid (F0.out.kept hbn)
  clear F0 hbn
  have F0 := F1
  clear F1
  try clear a0 a1 a2 b0 b1 b2 c0 c1 c2 d0 d1 d2
  obtain ⟨-, -, a0, a1, a2, b0, b1, b2, c0, c1, c2, d0, d1, d2⟩ := F0.out
  clear HP
  go_wp2_with fail
  with_reducible refine (HL.out _).mono ?_
  rintro e w2 ⟨rfl, hb2⟩
  have B2 := Lib.hid (F0.out.below.trans (hb2.mono F0.out.below.size))
  clear hb2 a0 a1 a2 b0 b1 b2 c0 c1 c2 d0 d1 d2
  go_wp2
  go_ret
  exact ⟨rfl, B2.out⟩
set_option maxRecDepth 100000 in
set_option maxHeartbeats 4000000 in
theorem impl_no (a b c d : P3) (h : ¬ (inP a = true ∧ inP b = true ∧ inP c = true ∧ inP d = true)) (w : World) : Calls Try.prog 27 #[pv a, pv b, pv c, pv d] w fun e w' => e = .returned (.bool false) ∧ Below w.heap.size w w' := by
  have HA := Lib.hid (fun (W : World) A q (hp : PtsAt W A 4 (pts4 a b c d)) => allIn_calls A 4 q (pts4 a b c d) false W (by omega) hp ⟨(fun e => by cases e), fun hh => absurd ⟨hh 0 (by omega), hh 1 (by omega), hh 2 (by omega), hh 3 (by omega)⟩ h⟩)
  have hu : undef = Value.tuple #[] := rfl
  have F0 := Lib.hid ((Four.start w a b c d 28).kept (below_alloc1 ((((w.alloc (.cells #[.int .i64 a.1, .int .i64 a.2.1, .int .i64 a.2.2] 28)).alloc (.cells #[.int .i64 b.1, .int .i64 b.2.1, .int .i64 b.2.2] 28)).alloc (.cells #[.int .i64 c.1, .int .i64 c.2.1, .int .i64 c.2.2] 28)).alloc (.cells #[.int .i64 d.1, .int .i64 d.2.1, .int .i64 d.2.2] 28)) (.cells #[.int .i64 a.1, .int .i64 a.2.1, .int .i64 a.2.2, .int .i64 b.1, .int .i64 b.2.1, .int .i64 b.2.2, .int .i64 c.1, .int .i64 c.2.1, .int .i64 c.2.2, .int .i64 d.1, .int .i64 d.2.1, .int .i64 d.2.2] 28)))
  have HP := Lib.hid (new4 ((((w.alloc (.cells #[.int .i64 a.1, .int .i64 a.2.1, .int .i64 a.2.2] 28)).alloc (.cells #[.int .i64 b.1, .int .i64 b.2.1, .int .i64 b.2.2] 28)).alloc (.cells #[.int .i64 c.1, .int .i64 c.2.1, .int .i64 c.2.2] 28)).alloc (.cells #[.int .i64 d.1, .int .i64 d.2.1, .int .i64 d.2.2] 28)) a b c d 28)
  clear h
  go_enter Try.func27, Try.ntmps27
  go_wp2_with fail
  refine (HA.out _ _ _ (by have := HP.out; simp at this; exact this)).mono ?_
  rintro e wn ⟨rfl, hbn⟩
  have F1 := Lib.hid (F0.out.kept hbn)
  clear hbn HP F0 hu
  go_wp2
  go_ret
  exact ⟨rfl, F1.out.below⟩
theorem spec_no (a b c d : P3) (h : ¬ (inP a = true ∧ inP b = true ∧ inP c = true ∧ inP d = true)) (w : World) : Calls Try.prog 26 #[pv a, pv b, pv c, pv d] w fun e w' => e = .returned (.bool false) ∧ Below w.heap.size w w' := by
  cases ha : inP a with
  | false => exact spec_0 a b c d ha w
  | true =>
    cases hb : inP b with
    | false => exact spec_1 a b c d ha hb w
    | true =>
      cases hc : inP c with
      | false => exact spec_2 a b c d ha hb hc w
      | true =>
        cases hd : inP d with
        | false => exact spec_3 a b c d ha hb hc hd w
        | true => exact absurd ⟨ha, hb, hc, hd⟩ h
theorem meat (vs0 : Nat → Value) (g0 : Nat → Dat) (vs1 : Nat → Value) (g1 : Nat → Dat) (vs2 : Nat → Value) (g2 : Nat → Dat) (vs3 : Nat → Value) (g3 : Nat → Dat) (ht0 : tyrPoint g0) (ht1 : tyrPoint g1) (ht2 : tyrPoint g2) (ht3 : tyrPoint g3) :
    ∃ (r0 : Bool), (∀ (W : World) (us0 : Nat → Value) (us1 : Nat → Value) (us2 : Nat → Value) (us3 : Nat → Value), ReadsRec W 3 us0 g0 → ReadsRec W 3 us1 g1 → ReadsRec W 3 us2 g2 → ReadsRec W 3 us3 g3 → Calls Try.prog 26 #[.agg #[us0 0, us0 1, us0 2], .agg #[us1 0, us1 1, us1 2], .agg #[us2 0, us2 1, us2 2], .agg #[us3 0, us3 1, us3 2]] W fun e W' => e = .returned (.bool r0) ∧ Below W.heap.size W W') ∧ (∀ (W : World) (us0 : Nat → Value) (us1 : Nat → Value) (us2 : Nat → Value) (us3 : Nat → Value), ReadsRec W 3 us0 g0 → ReadsRec W 3 us1 g1 → ReadsRec W 3 us2 g2 → ReadsRec W 3 us3 g3 → Calls Try.prog 27 #[.agg #[us0 0, us0 1, us0 2], .agg #[us1 0, us1 1, us1 2], .agg #[us2 0, us2 1, us2 2], .agg #[us3 0, us3 1, us3 2]] W fun e W' => e = .returned (.bool r0) ∧ Below W.heap.size W W') := by
  by_cases h : inP (ptOf g0) = true ∧ inP (ptOf g1) = true ∧ inP (ptOf g2) = true ∧ inP (ptOf g3) = true
  · exact ⟨_, fun W us0 us1 us2 us3 h0 h1 h2 h3 => by rw [reads_pt h0 ht0, reads_pt h1 ht1, reads_pt h2 ht2, reads_pt h3 ht3]; exact spec_4 _ _ _ _ h.1 h.2.1 h.2.2.1 h.2.2.2 W, fun W us0 us1 us2 us3 h0 h1 h2 h3 => by rw [reads_pt h0 ht0, reads_pt h1 ht1, reads_pt h2 ht2, reads_pt h3 ht3]; exact impl_yes _ _ _ _ h.1 h.2.1 h.2.2.1 h.2.2.2 W⟩
  · exact ⟨_, fun W us0 us1 us2 us3 h0 h1 h2 h3 => by rw [reads_pt h0 ht0, reads_pt h1 ht1, reads_pt h2 ht2, reads_pt h3 ht3]; exact spec_no _ _ _ _ h W, fun W us0 us1 us2 us3 h0 h1 h2 h3 => by rw [reads_pt h0 ht0, reads_pt h1 ht1, reads_pt h2 ht2, reads_pt h3 ht3]; exact impl_no _ _ _ _ h W⟩
end Go.Proofs.Ytmpiijnhbeipiaa.wSegmentsMeet
