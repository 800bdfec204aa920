/-
  Proved: what the document's functions return that compare two hypotheses, and that ask whether a list of them is in order.
  Conditions: the list and its labels are not long.
-/
import Derived.Test.YtofgdgdmmlgmnaaHyI
namespace Go.Proofs.Ytofgdgdmmlgmnaa.hyp
open Go.ChangeShapes Go.WideShapes Go.ChangeAt Go.RowKit Go.Joins
open Go.Proofs.Ytofgdgdmmlgmnaa.core Go.Proofs.Ytofgdgdmmlgmnaa.rown Go.Proofs.Ytofgdgdmmlgmnaa.stk Go.Proofs.Ytofgdgdmmlgmnaa.boxed Go.Proofs.Ytofgdgdmmlgmnaa.ft Go.Proofs.Ytofgdgdmmlgmnaa.lab
set_option linter.unusedVariables false
set_option linter.unusedSimpArgs false
theorem toB {P : Program} {k : FuncId} {args : Array Value} {w : World} {v : Value} (h : Calls P k args w fun e w' => e = .returned v ∧ w = w') : Calls P k args w fun e w' => e = .returned v ∧ Below w.heap.size w w' :=
  h.mono fun e w' ⟨a, b⟩ => ⟨a, by rw [← b]; exact Below.refl _ _⟩
set_option maxRecDepth 100000 in
set_option maxHeartbeats 2000000 in
theorem befS (p q : Hy) (w : World) :
    Calls Try.prog 75 #[.agg #[.string p.1, .int .i64 p.2], .agg #[.string q.1, .int .i64 q.2]] w fun e w' => e = .returned (.bool (bef p q)) ∧ Below w.heap.size w w' := by
  obtain ⟨s, c⟩ := p
  obtain ⟨t, d⟩ := q
  dsimp only
  have HB := Lib.hid (below_alloc2 w (.cells #[.string s, .int .i64 c] 40) (.cells #[.string t, .int .i64 d] 40))
  have hund : undef = Value.tuple #[] := rfl
  have HF := Lib.hid (show bef (s, c) (t, d) = (decide (c < d) || (decide (c = d) && ltS s t)) from rfl)
  by_cases h1 : c < d
  · have HR := Lib.hid (show bef (s, c) (t, d) = true by rw [HF.out, decide_eq_true h1]; rfl)
    clear HF
    go_enter Try.func75, Try.ntmps75
    go_wp2
    go_ret
    exact ⟨by rw [HR.out]; rfl, HB.out⟩
  · have e1 : decide (c < d) = false := decide_eq_false h1
    by_cases h2 : c = d
    · subst h2
      have HR := Lib.hid (show bef (s, c) (t, c) = ltS s t by rw [HF.out, e1]; simp)
      cases h3 : ltS s t with
      | true =>
        rw [h3] at HR
        unfold ltS at h3
        clear HF h1 e1
        go_enter Try.func75, Try.ntmps75
        go_wp2
        go_ret
        exact ⟨by rw [HR.out]; rfl, HB.out⟩
      | false =>
        rw [h3] at HR
        unfold ltS at h3
        clear HF h1 e1
        go_enter Try.func75, Try.ntmps75
        go_wp2
        go_ret
        exact ⟨by rw [HR.out]; rfl, HB.out⟩
    · have e2 : (c == d) = false := by rw [beq_eq_false_iff_ne]; exact h2
      have HR := Lib.hid (show bef (s, c) (t, d) = false by rw [HF.out, e1, decide_eq_false h2]; rfl)
      clear HF
      go_enter Try.func75, Try.ntmps75
      go_wp2
      go_ret
      exact ⟨by rw [HR.out]; rfl, HB.out⟩
theorem inC (c : Int) (w : World) : Calls Try.prog 52 #[.int .i64 c, .int .i64 0, .int .i64 1000000] w fun e w' => e = .returned (.bool (cB c)) ∧ Below w.heap.size w w' := by
  by_cases h : 0 ≤ c ∧ c ≤ 1000000
  · rw [cB_iff.2 h]; exact toB (in_t c 0 1000000 h w)
  · rw [cB_no.2 h]; exact toB (in_f c 0 1000000 h w)
set_option maxRecDepth 100000 in
set_option maxHeartbeats 8000000 in
theorem hyOkS {c : Nat} (A : Option Addr) (n : Nat) (f : Nat → Hy) (w : World) (hl : HyL n f) (hp : HyAt w A n f) :
    Calls Try.prog 46 #[.slice A n c] w fun e w' => e = .returned (.bool (hyB n f)) ∧ Below w.heap.size w w' := by
  have HP := Lib.hid hp
  have HL := Lib.hid hl
  have hn := hl.hn
  clear hp hl
  go_enter Try.func46, Try.ntmps46
  go_wp2
  go_loopw [3] (fun i w' => ∃ k : Nat, k ≤ n ∧ i = .int .i64 (k : Int) ∧ Hid (∀ j, j < k → HyP f j) ∧ Hid (Below w.heap.size w w')) (fun i _ => n - (intOf i).toNat)
  case atStart => exact ⟨0, Nat.zero_le _, rfl, Lib.hid (fun j hj => absurd hj (by omega)), Lib.hid (Below.refl _ _)⟩
  case round =>
    obtain ⟨k, hk, rfl, HE, HB⟩ := hrel
    by_cases hlt : k < n
    · obtain ⟨b1, o1, rfl, hb1, c0, c1⟩ := (HP.out.kept HB.out) k hlt
      have hli : (k : Int) < (n : Int) := by omega
      have hmix := mixedH
      have HI := Lib.hid (fun W => toB (isLabS (f k).1 W (HL.out.s k hlt)))
      have HC := Lib.hid (fun W => inC (f k).2 W)
      have HNO := Lib.hid (fun (h : ¬ HyP f k) => hy_no (n := n) (f := f) (fun h' => h (h'.2 k hlt)))
      cases hi : labB (f k).1 with
      | false =>
        have HF := Lib.hid (HNO.out (fun h => by rw [h.1.1] at hi; cases hi))
        rw [hi] at HI
        clear hi HE HNO HC
        obtain ⟨x, hx⟩ : ∃ x, f k = x := ⟨_, rfl⟩
        rw [hx] at c0 c1 HI
        obtain ⟨xs, xc⟩ := x
        dsimp only at c0 c1 HI
        clear hx
        have hund : undef = Value.tuple #[] := rfl
        replace c0 := cell_kept hb1 c0
        replace c1 := cell_kept hb1 c1
        go_wp2
        refine wp_region_quiet_kept (by assumption) (by kernel_rfl) ?_
        repeat (first | go_big_quiet_step ((go_at_call 74; exact Calls.kept_of (HI.out _))) | quiet_step ((go_at_call 74; exact Calls.kept_of (HI.out _))))
        refine wpQuiet_nil ?_
        intro w2 hw'
        have hB : Below wr.heap.size wr w2 := by obtain ⟨⟨wk, hb0⟩, hw''⟩ := hw'; rw [hw'']; exact hb0
        have HB2 := Lib.hid (HB.out.trans (hB.mono HB.out.size))
        clear hw' hB
        go_wp2
        go_ret
        exact ⟨by rw [HF.out]; rfl, HB2.out⟩
      | true =>
        rw [hi] at HI
        cases hc : cB (f k).2 with
        | false =>
          have HF := Lib.hid (HNO.out (fun h => by have := h.1.2; rw [← cB_iff, hc] at this; cases this))
          rw [hc] at HC
          clear hi hc HE HNO
          obtain ⟨x, hx⟩ : ∃ x, f k = x := ⟨_, rfl⟩
          rw [hx] at c0 c1 HI HC
          obtain ⟨xs, xc⟩ := x
          dsimp only at c0 c1 HI HC
          clear hx
          replace c0 := cell_kept hb1 c0
          replace c1 := cell_kept hb1 c1
          have hund : undef = Value.tuple #[] := rfl
          go_wp2
          refine wp_region_quiet_kept (by assumption) (by kernel_rfl) ?_
          repeat (first | go_big_quiet_step ((first | (go_at_call 74; exact Calls.kept_of (HI.out _)) | (go_at_call 52; exact Calls.kept_of (HC.out _)))) | quiet_step ((first | (go_at_call 74; exact Calls.kept_of (HI.out _)) | (go_at_call 52; exact Calls.kept_of (HC.out _)))))
          refine wpQuiet_nil ?_
          intro w2 hw'
          have hB : Below wr.heap.size wr w2 := by obtain ⟨⟨wk, hb0⟩, hw''⟩ := hw'; rw [hw'']; exact hb0
          have HB2 := Lib.hid (HB.out.trans (hB.mono HB.out.size))
          clear hw' hB
          go_wp2
          go_ret
          exact ⟨by rw [HF.out]; rfl, HB2.out⟩
        | true =>
          rw [hc] at HC
          have HLC := Lib.hid (show labB (f k).1 = true ∧ 0 ≤ (f k).2 ∧ (f k).2 ≤ 1000000 from ⟨hi, cB_iff.1 hc⟩)
          clear hi hc
          rcases Nat.eq_zero_or_pos k with hk0 | hk0
          · have e0 : decide (0 < k) = false := decide_eq_false (by omega)
            have HYP := Lib.hid (fun (h : ∀ a, a < k → (f a).1 ≠ (f k).1) => (show HyP f k from ⟨HLC.out, fun h0 => absurd h0 (by omega), h⟩))
            clear HLC
            obtain ⟨fk, hfk⟩ : ∃ x, f k = x := ⟨_, rfl⟩
            rw [hfk] at c0 c1 HI HC
            clear hfk
            replace c0 := cell_kept hb1 c0
            replace c1 := cell_kept hb1 c1
            clear hk0
            go_wp2
            refine wp_region_quiet_kept (by assumption) (by kernel_rfl) ?_
            repeat (first | go_big_quiet_step ((first | (go_at_call 74; exact Calls.kept_of (HI.out _)) | (go_at_call 52; exact Calls.kept_of (HC.out _)))) | quiet_step ((first | (go_at_call 74; exact Calls.kept_of (HI.out _)) | (go_at_call 52; exact Calls.kept_of (HC.out _)))))
            refine wpQuiet_nil ?_
            intro w2 hw'
            have hB : Below wr.heap.size wr w2 := by obtain ⟨⟨wk, hb0⟩, hw''⟩ := hw'; rw [hw'']; exact hb0
            have HB2 := Lib.hid (HB.out.trans (hB.mono HB.out.size))
            clear hw' hB
            clear e0
            clear c0 c1 HI HC hmix
            go_wp2
            go_loopw [4] (fun j w' => ∃ i : Nat, i ≤ k ∧ j = .int .i64 (i : Int) ∧ Hid (∀ a, a < i → (f a).1 ≠ (f k).1) ∧ Hid (Below w.heap.size w w')) (fun j _ => k - (intOf j).toNat)
            case atStart => exact ⟨0, Nat.zero_le _, rfl, Lib.hid (fun a ha => absurd ha (by omega)), HB2⟩
            case round =>
              obtain ⟨i, hi2, rfl, HA, HB3⟩ := hrel
              by_cases hik : i < k
              · obtain ⟨b3, o3, e3, hb3, d0, -⟩ := (HP.out.kept HB3.out) i (by omega)
                obtain ⟨b4, o4, e4, hb4, d1, -⟩ := (HP.out.kept HB3.out) k hlt
                obtain ⟨rfl, rfl⟩ : b3 = b1 ∧ o3 = o1 := by
                  injection e3 with e3
                  injection e3 with e5 e6
                  exact ⟨e5.symm, e6.symm⟩
                obtain ⟨rfl, rfl⟩ : b4 = b3 ∧ o4 = o3 := by
                  injection e4 with e4
                  injection e4 with e5 e6
                  exact ⟨e5.symm, e6.symm⟩
                have hik2 : (i : Int) < (k : Int) := by omega
                have hin : (i : Int) < (n : Int) := by omega
                have hin2 : i < n := by omega
                have HNX := Lib.hid (fun (h : ¬ (f i).1 = (f k).1) => hy_next (P := fun a => (f a).1 ≠ (f k).1) HA.out h)
                have HNF := Lib.hid (fun (h : (f i).1 = (f k).1) => HNO.out (fun hh => hh.2.2 i hik h))
                obtain ⟨xs, hxs⟩ : ∃ x, (f i).1 = x := ⟨_, rfl⟩
                obtain ⟨ys, hys⟩ : ∃ x, (f k).1 = x := ⟨_, rfl⟩
                rw [hxs] at d0
                rw [hys] at d1
                rw [hxs, hys] at HNF
                replace HNX := Lib.hid (fun (h : ¬ xs = ys) => HNX.out (by rw [hxs, hys]; exact h))
                clear hxs hys HA
                replace d0 := cell_kept hb3 d0
                replace d1 := cell_kept hb3 d1
                have hmix := mixedH
                by_cases e : xs = ys
                · subst e
                  have e2 : (xs.toList == xs.toList) = true := by simp
                  have HF := Lib.hid (HNF.out rfl)
                  clear HNX HNF
                  go_wp2
                  refine wp_region_quiet_kept (by assumption) (by kernel_rfl) ?_
                  repeat (first | go_big_quiet_step (fail) | quiet_step (fail))
                  refine wpQuiet_nil ?_
                  intro w2 hw'
                  have hB : Below wr.heap.size wr w2 := by obtain ⟨⟨wk, hb0⟩, hw''⟩ := hw'; rw [hw'']; exact hb0
                  have HB4 := Lib.hid (HB3.out.trans (hB.mono HB3.out.size))
                  clear hw' hB
                  clear d0 d1
                  go_wp2
                  go_ret
                  exact ⟨by rw [HF.out]; rfl, HB4.out⟩
                · have e2 : (xs.toList == ys.toList) = false := by
                    rw [beq_eq_false_iff_ne]
                    exact fun h => e (toList_inj h)
                  have HA2 := Lib.hid (HNX.out e)
                  clear HNX HNF
                  go_wp2
                  refine wp_region_quiet_kept (by assumption) (by kernel_rfl) ?_
                  repeat (first | go_big_quiet_step (fail) | quiet_step (fail))
                  refine wpQuiet_nil ?_
                  intro w2 hw'
                  have hB : Below wr.heap.size wr w2 := by obtain ⟨⟨wk, hb0⟩, hw''⟩ := hw'; rw [hw'']; exact hb0
                  have HB4 := Lib.hid (HB3.out.trans (hB.mono HB3.out.size))
                  clear hw' hB
                  clear d0 d1
                  go_wp2
                  go_roundw
                  case rel => exact ⟨i + 1, by omega, by go_num, HA2, HB4⟩
                  case measure => simp [intOf]; omega
              · obtain rfl : i = k := by omega
                have HE2 := Lib.hid (hy_next HE.out (HYP.out HA.out))
                clear HYP HE HNO
                go_wp2
                go_roundw
                case rel => exact ⟨i + 1, by omega, by go_num, HE2, HB3⟩
                case measure => simp [intOf]; omega
          · obtain ⟨k1, hk1⟩ : ∃ k1, k1 + 1 = k := ⟨k - 1, by omega⟩
            have e0 : (0 : Int) < (k : Int) := by omega
            have e00 : 0 < k := hk0
            have hk1n : k1 < n := by omega
            have hk1i : (k1 : Int) < (n : Int) := by omega
            have hsub : (k : Int) - 1 = (k1 : Int) := by omega
            have hw1 : IntKind.i64.wrap ((k : Int) - 1) = (k1 : Int) := by rw [hsub]; simp [IntKind.wrap, IntKind.bits, IntKind.signed]; omega
            have hw2 : wrap64 ((k : Int) - 1) = (k1 : Int) := by rw [hsub]; unfold wrap64; omega
            have HKK := Lib.hid (show k - 1 = k1 by omega)
            obtain ⟨b2, o2, e2, hb2, d0, d1⟩ := (HP.out.kept HB.out) k1 hk1n
            obtain ⟨rfl, rfl⟩ : b2 = b1 ∧ o2 = o1 := by
              injection e2 with e2
              injection e2 with e3 e4
              exact ⟨e3.symm, e4.symm⟩
            clear e2 hk1 hsub hk0
            have HBF := Lib.hid (fun W => befS (f k1) (f k) W)
            cases hbf : bef (f k1) (f k) with
            | false =>
              have HF := Lib.hid (HNO.out (fun h => by have := h.2.1 e00; rw [HKK.out, hbf] at this; cases this))
              rw [hbf] at HBF
              clear hbf HE HNO HLC
              obtain ⟨fk, hfk⟩ : ∃ x, f k = x := ⟨_, rfl⟩
              obtain ⟨fj, hfj⟩ : ∃ x, f k1 = x := ⟨_, rfl⟩
              rw [hfk] at c0 c1 HI HC
              rw [hfj] at d0 d1
              rw [hfj, hfk] at HBF
              clear hfk hfj
              have hund : undef = Value.tuple #[] := rfl
              replace c0 := cell_kept hb2 c0
              replace c1 := cell_kept hb2 c1
              replace d0 := cell_kept hb2 d0
              replace d1 := cell_kept hb2 d1
              go_wp2
              refine wp_region_quiet_kept (by assumption) (by kernel_rfl) ?_
              repeat (first | go_big_quiet_step ((first | (go_at_call 74; exact Calls.kept_of (HI.out _)) | (go_at_call 52; exact Calls.kept_of (HC.out _)) | (go_at_call 75; exact Calls.kept_of (HBF.out _)))) | quiet_step ((first | (go_at_call 74; exact Calls.kept_of (HI.out _)) | (go_at_call 52; exact Calls.kept_of (HC.out _)) | (go_at_call 75; exact Calls.kept_of (HBF.out _)))))
              refine wpQuiet_nil ?_
              intro w2 hw'
              have hB : Below wr.heap.size wr w2 := by obtain ⟨⟨wk, hb0⟩, hw''⟩ := hw'; rw [hw'']; exact hb0
              have HB2 := Lib.hid (HB.out.trans (hB.mono HB.out.size))
              clear hw' hB
              go_wp2
              go_ret
              exact ⟨by rw [HF.out]; rfl, HB2.out⟩
            | true =>
              have HYP := Lib.hid (fun (h : ∀ a, a < k → (f a).1 ≠ (f k).1) => (show HyP f k from ⟨HLC.out, fun _ => by rw [HKK.out]; exact hbf, h⟩))
              rw [hbf] at HBF
              clear hbf HLC
              obtain ⟨fk, hfk⟩ : ∃ x, f k = x := ⟨_, rfl⟩
              obtain ⟨fj, hfj⟩ : ∃ x, f k1 = x := ⟨_, rfl⟩
              rw [hfk] at c0 c1 HI HC
              rw [hfj] at d0 d1
              rw [hfj, hfk] at HBF
              clear hfk hfj
              replace c0 := cell_kept hb2 c0
              replace c1 := cell_kept hb2 c1
              replace d0 := cell_kept hb2 d0
              replace d1 := cell_kept hb2 d1
              go_wp2
              refine wp_region_quiet_kept (by assumption) (by kernel_rfl) ?_
              repeat (first | go_big_quiet_step ((first | (go_at_call 74; exact Calls.kept_of (HI.out _)) | (go_at_call 52; exact Calls.kept_of (HC.out _)) | (go_at_call 75; exact Calls.kept_of (HBF.out _)))) | quiet_step ((first | (go_at_call 74; exact Calls.kept_of (HI.out _)) | (go_at_call 52; exact Calls.kept_of (HC.out _)) | (go_at_call 75; exact Calls.kept_of (HBF.out _)))))
              refine wpQuiet_nil ?_
              intro w2 hw'
              have hB : Below wr.heap.size wr w2 := by obtain ⟨⟨wk, hb0⟩, hw''⟩ := hw'; rw [hw'']; exact hb0
              have HB2 := Lib.hid (HB.out.trans (hB.mono HB.out.size))
              clear hw' hB
              clear e0 e00 hw1 hw2 hk1n hk1i HKK
              clear c0 c1 HI HC d0 d1 HBF hmix
              go_wp2
              go_loopw [4] (fun j w' => ∃ i : Nat, i ≤ k ∧ j = .int .i64 (i : Int) ∧ Hid (∀ a, a < i → (f a).1 ≠ (f k).1) ∧ Hid (Below w.heap.size w w')) (fun j _ => k - (intOf j).toNat)
              case atStart => exact ⟨0, Nat.zero_le _, rfl, Lib.hid (fun a ha => absurd ha (by omega)), HB2⟩
              case round =>
                obtain ⟨i, hi2, rfl, HA, HB3⟩ := hrel
                by_cases hik : i < k
                · obtain ⟨b3, o3, e3, hb3, d0, -⟩ := (HP.out.kept HB3.out) i (by omega)
                  obtain ⟨b4, o4, e4, hb4, d1, -⟩ := (HP.out.kept HB3.out) k hlt
                  obtain ⟨rfl, rfl⟩ : b3 = b2 ∧ o3 = o2 := by
                    injection e3 with e3
                    injection e3 with e5 e6
                    exact ⟨e5.symm, e6.symm⟩
                  obtain ⟨rfl, rfl⟩ : b4 = b3 ∧ o4 = o3 := by
                    injection e4 with e4
                    injection e4 with e5 e6
                    exact ⟨e5.symm, e6.symm⟩
                  have hik2 : (i : Int) < (k : Int) := by omega
                  have hin : (i : Int) < (n : Int) := by omega
                  have hin2 : i < n := by omega
                  have HNX := Lib.hid (fun (h : ¬ (f i).1 = (f k).1) => hy_next (P := fun a => (f a).1 ≠ (f k).1) HA.out h)
                  have HNF := Lib.hid (fun (h : (f i).1 = (f k).1) => HNO.out (fun hh => hh.2.2 i hik h))
                  obtain ⟨xs, hxs⟩ : ∃ x, (f i).1 = x := ⟨_, rfl⟩
                  obtain ⟨ys, hys⟩ : ∃ x, (f k).1 = x := ⟨_, rfl⟩
                  rw [hxs] at d0
                  rw [hys] at d1
                  rw [hxs, hys] at HNF
                  replace HNX := Lib.hid (fun (h : ¬ xs = ys) => HNX.out (by rw [hxs, hys]; exact h))
                  clear hxs hys HA
                  replace d0 := cell_kept hb3 d0
                  replace d1 := cell_kept hb3 d1
                  have hmix := mixedH
                  by_cases e : xs = ys
                  · subst e
                    have e2 : (xs.toList == xs.toList) = true := by simp
                    have HF := Lib.hid (HNF.out rfl)
                    clear HNX HNF
                    go_wp2
                    refine wp_region_quiet_kept (by assumption) (by kernel_rfl) ?_
                    repeat (first | go_big_quiet_step (fail) | quiet_step (fail))
                    refine wpQuiet_nil ?_
                    intro w2 hw'
                    have hB : Below wr.heap.size wr w2 := by obtain ⟨⟨wk, hb0⟩, hw''⟩ := hw'; rw [hw'']; exact hb0
                    have HB4 := Lib.hid (HB3.out.trans (hB.mono HB3.out.size))
                    clear hw' hB
                    clear d0 d1
                    go_wp2
                    go_ret
                    exact ⟨by rw [HF.out]; rfl, HB4.out⟩
                  · have e2 : (xs.toList == ys.toList) = false := by
                      rw [beq_eq_false_iff_ne]
                      exact fun h => e (toList_inj h)
                    have HA2 := Lib.hid (HNX.out e)
                    clear HNX HNF
                    go_wp2
                    refine wp_region_quiet_kept (by assumption) (by kernel_rfl) ?_
                    repeat (first | go_big_quiet_step (fail) | quiet_step (fail))
                    refine wpQuiet_nil ?_
                    intro w2 hw'
                    have hB : Below wr.heap.size wr w2 := by obtain ⟨⟨wk, hb0⟩, hw''⟩ := hw'; rw [hw'']; exact hb0
                    have HB4 := Lib.hid (HB3.out.trans (hB.mono HB3.out.size))
                    clear hw' hB
                    clear d0 d1
                    go_wp2
                    go_roundw
                    case rel => exact ⟨i + 1, by omega, by go_num, HA2, HB4⟩
                    case measure => simp [intOf]; omega
                · obtain rfl : i = k := by omega
                  have HE2 := Lib.hid (hy_next HE.out (HYP.out HA.out))
                  clear HYP HE HNO
                  go_wp2
                  go_roundw
                  case rel => exact ⟨i + 1, by omega, by go_num, HE2, HB3⟩
                  case measure => simp [intOf]; omega
    · obtain rfl : k = n := by omega
      by_cases h8 : k ≤ 8
      · have h1 : (k : Int) ≤ 8 := by omega
        have d1 : decide ((k : Int) ≤ 8) = true := decide_eq_true h1
        have HF := Lib.hid (hy_iff.2 (show HyOk k f from ⟨h8, HE.out⟩))
        go_wp2
        go_ret
        exact ⟨by rw [HF.out]; rfl, HB.out⟩
      · have h1 : ¬ (k : Int) ≤ 8 := by omega
        have d1 : decide ((k : Int) ≤ 8) = false := decide_eq_false h1
        have HF := Lib.hid (hy_no (fun h : HyOk k f => h8 h.1))
        go_wp2
        go_ret
        exact ⟨by rw [HF.out]; rfl, HB.out⟩
end Go.Proofs.Ytofgdgdmmlgmnaa.hyp
