/-
  Proved: what the program's functions return that test labels with costs, search a list of them for a fault, and compare two such lists.
  Conditions: the labels are not long.
-/
import Derived.Test.YtofgdgdmmlgmnaaHyV
namespace Go.Proofs.Ytofgdgdmmlgmnaa.hyp
open Go.ChangeShapes Go.WideShapes Go.ChangeAt Go.RowKit Go.Joins
open Go.Proofs.Ytofgdgdmmlgmnaa.core Go.Proofs.Ytofgdgdmmlgmnaa.rown Go.Proofs.Ytofgdgdmmlgmnaa.stk Go.Proofs.Ytofgdgdmmlgmnaa.boxed Go.Proofs.Ytofgdgdmmlgmnaa.ft Go.Proofs.Ytofgdgdmmlgmnaa.lab
set_option linter.unusedVariables false
set_option linter.unusedSimpArgs false
def cB (c : Int) : Bool := decide (0 ≤ c) && decide (c ≤ 1000000)
theorem cB_iff {c : Int} : cB c = true ↔ 0 ≤ c ∧ c ≤ 1000000 := by unfold cB; simp
theorem cB_no {c : Int} : cB c = false ↔ ¬ (0 ≤ c ∧ c ≤ 1000000) := by rw [← cB_iff]; cases cB c <;> simp
/-- One label with its cost is as it should be. -/
def hpB (p : Hy) : Bool := labB p.1 && cB p.2
theorem hp_iff {p : Hy} : hpB p = true ↔ labB p.1 = true ∧ 0 ≤ p.2 ∧ p.2 ≤ 1000000 := by unfold hpB; rw [Bool.and_eq_true, cB_iff]
theorem costI (c : Int) (w : World) : Calls Try.prog 57 #[.int .i64 c] w fun e w' => e = .returned (.bool (cB c)) ∧ w = w' := by
  have hund : undef = Value.tuple #[] := rfl
  by_cases h0 : 0 ≤ c
  · by_cases h1 : c ≤ 1000000
    · have HF := Lib.hid (cB_iff.2 ⟨h0, h1⟩)
      have d1 : decide (c ≤ 1000000) = true := decide_eq_true h1
      go_enter Try.func57, Try.ntmps57
      go_wp2
      go_ret
      exact ⟨by rw [HF.out]; rfl, rfl⟩
    · have HF := Lib.hid (cB_no.2 (fun h => h1 h.2))
      have d1 : decide (c ≤ 1000000) = false := decide_eq_false h1
      go_enter Try.func57, Try.ntmps57
      go_wp2
      go_ret
      exact ⟨by rw [HF.out]; rfl, rfl⟩
  · have HF := Lib.hid (cB_no.2 (fun h => h0 h.1))
    go_enter Try.func57, Try.ntmps57
    go_wp2
    go_ret
    exact ⟨by rw [HF.out]; rfl, rfl⟩
set_option maxRecDepth 100000 in
set_option maxHeartbeats 2000000 in
theorem noHypI (p : Hy) (w : World) (hs : p.1.size ≤ maxLen) :
    Calls Try.prog 49 #[.agg #[.string p.1, .int .i64 p.2]] w fun e w' => e = .returned (.bool (!hpB p)) ∧ Below w.heap.size w w' := by
  obtain ⟨s, c⟩ := p
  dsimp only at hs ⊢
  have HBL := Lib.hid (below_alloc1 w (.cells #[.string s, .int .i64 c] 40))
  have HL := Lib.hid (fun W => isLabI s W hs)
  have HC := Lib.hid (fun W => costI c W)
  have hund : undef = Value.tuple #[] := rfl
  cases h : labB s with
  | true =>
    have HF := Lib.hid (show hpB (s, c) = cB c by unfold hpB; rw [h]; rfl)
    rw [h] at HL
    rw [HF.out]
    clear h HF
    generalize cB c = r at *
    go_enter Try.func49, Try.ntmps49
    go_wp2_with fail
    refine (HL.out _).mono ?_
    rintro e _ ⟨rfl, rfl⟩
    go_wp2_with fail
    refine (HC.out _).mono ?_
    rintro e _ ⟨rfl, rfl⟩
    go_wp2
    go_ret
    exact ⟨rfl, HBL.out⟩
  | false =>
    have HF := Lib.hid (show hpB (s, c) = false by unfold hpB; rw [h]; rfl)
    rw [h] at HL
    rw [HF.out]
    clear h HF HC
    go_enter Try.func49, Try.ntmps49
    go_wp2_with fail
    refine (HL.out _).mono ?_
    rintro e _ ⟨rfl, rfl⟩
    go_wp2
    go_ret
    exact ⟨rfl, HBL.out⟩
theorem mixedH : Try.prog.follows .mixedOrders = true := by kernel_rfl
theorem hy_next {P : Nat → Prop} {k : Nat} (h : ∀ j, j < k → P j) (hk : P k) : ∀ j, j < k + 1 → P j := fun j hj => by
  rcases Nat.lt_or_ge j k with h' | h'
  · exact h j h'
  · obtain rfl : j = k := by omega
    exact hk
set_option maxRecDepth 100000 in
set_option maxHeartbeats 2000000 in
theorem indexHI {cb : Nat} (B : Option Addr) (n : Nat) (f : Nat → Hy) (r : Bool) (w : World) (hl : HyL n f) (hr : r = true ↔ ∀ i, i < n → hpB (f i) = true) (hp : HyAt w B n f) :
    Calls Try.prog 76 #[.slice B n cb, .func (.func 49) #[] #[]] w fun e w' => (∃ k : Int, e = .returned (.int .i64 k) ∧ decide (0 ≤ k) = !r) ∧ Below w.heap.size w w' := by
  have HP := Lib.hid hp
  have HR := Lib.hid hr
  have HLN := Lib.hid hl
  have hn := hl.hn
  clear hp hr hl
  go_enter Try.func76, Try.ntmps76
  go_wp2
  go_loopw [8] (fun i w' => ∃ k : Nat, k ≤ n ∧ i = .int .i64 (k : Int) ∧ Hid (∀ j, j < k → hpB (f j) = true) ∧ Hid (Below w.heap.size w w')) (fun i _ => n - (intOf i).toNat)
  case atStart => exact ⟨0, Nat.zero_le _, rfl, Lib.hid (fun j hj => absurd hj (by omega)), Lib.hid (Below.refl _ _)⟩
  case round =>
    obtain ⟨k, hk, rfl, HE, HB⟩ := hrel
    by_cases hlt : k < n
    · obtain ⟨g, o, rfl, hg, c0, c1⟩ := (HP.out.kept HB.out) k hlt
      have hli : (k : Int) < (n : Int) := by omega
      have HI := Lib.hid (noHypI (f k) wr (HLN.out.s k hlt))
      cases hi : hpB (f k) with
      | true =>
        have HE2 := Lib.hid (hy_next HE.out hi)
        rw [hi] at HI
        clear hi HE
        generalize f k = q at *
        go_wp2_with fail
        refine HI.out.mono ?_
        rintro e w2 ⟨rfl, hb2⟩
        have HB2 := Lib.hid (HB.out.trans (hb2.mono HB.out.size))
        clear hb2 c0 c1 HI
        go_wp2
        go_roundw
        case rel => exact ⟨k + 1, by omega, by go_num, HE2, HB2⟩
        case measure => simp [intOf]; omega
      | false =>
        have HF := Lib.hid (show r = false by
          cases hh : r
          · rfl
          · have := HR.out.1 hh k hlt
            rw [hi] at this
            cases this)
        rw [hi] at HI
        clear hi HE
        generalize f k = q at *
        go_wp2_with fail
        refine HI.out.mono ?_
        rintro e w2 ⟨rfl, hb2⟩
        have HB2 := Lib.hid (HB.out.trans (hb2.mono HB.out.size))
        clear hb2 c0 c1 HI
        go_wp2
        go_ret
        exact ⟨⟨_, rfl, by rw [HF.out]; simp⟩, HB2.out⟩
    · obtain rfl : k = n := by omega
      have HF := Lib.hid (show r = true from HR.out.2 HE.out)
      go_wp2
      go_ret
      exact ⟨⟨-1, rfl, by rw [HF.out]; rfl⟩, HB.out⟩
set_option maxRecDepth 100000 in
set_option maxHeartbeats 2000000 in
theorem containsHI {cb : Nat} (B : Option Addr) (n : Nat) (f : Nat → Hy) (r : Bool) (w : World) (hl : HyL n f) (hr : r = true ↔ ∀ i, i < n → hpB (f i) = true) (hp : HyAt w B n f) :
    Calls Try.prog 48 #[.slice B n cb, .func (.func 49) #[] #[]] w fun e w' => e = .returned (.bool (!r)) ∧ Below w.heap.size w w' := by
  have HC := Lib.hid (indexHI (cb := cb) B n f r w hl hr hp)
  clear hr hp hl
  go_enter Try.func48, Try.ntmps48
  go_wp2_with fail
  refine HC.out.mono ?_
  rintro e w1 ⟨⟨k, rfl, hk⟩, hb⟩
  have HK := Lib.hid hk
  have HB := Lib.hid hb
  clear hk hb
  by_cases h : 0 ≤ k
  · have HK2 := Lib.hid (show true = !r by rw [← HK.out, decide_eq_true h])
    go_wp2
    go_ret
    exact ⟨by first | exact ret_bool HK2.out | exact ret_bool HK.out, HB.out⟩
  · have HK2 := Lib.hid (show false = !r by rw [← HK.out, decide_eq_false h])
    go_wp2
    go_ret
    exact ⟨by first | exact ret_bool HK2.out | exact ret_bool HK.out, HB.out⟩
set_option maxRecDepth 100000 in
set_option maxHeartbeats 4000000 in
theorem equalHI {ca cb : Nat} (A B : Option Addr) (n m : Nat) (f g : Nat → Hy) (r : Bool) (w : World) (hn : n ≤ 1048576) (hm : m ≤ 1048576) (hr : r = true ↔ n = m ∧ ∀ i, i < n → f i = g i) (hp : HyAt w A n f) (hq : HyAt w B m g) :
    Calls Try.prog 50 #[.slice A n ca, .slice B m cb] w fun e w' => e = .returned (.bool r) ∧ Below w.heap.size w w' := by
  have HP := Lib.hid hp
  have HQ := Lib.hid hq
  have HR := Lib.hid hr
  clear hp hq hr
  by_cases hnm : n = m
  · subst hnm
    go_enter Try.func50, Try.ntmps50
    go_wp2
    go_loopw [13] (fun i w' => ∃ k : Nat, k ≤ n ∧ i = .int .i64 (k : Int) ∧ Hid (∀ j, j < k → f j = g j) ∧ Hid (Below w.heap.size w w')) (fun i _ => n - (intOf i).toNat)
    case atStart => exact ⟨0, Nat.zero_le _, rfl, Lib.hid (fun j hj => absurd hj (by omega)), Lib.hid (Below.refl _ _)⟩
    case round =>
      obtain ⟨k, hk, rfl, HE, HB⟩ := hrel
      by_cases hlt : k < n
      · obtain ⟨b1, o1, rfl, hb1, c0, c1⟩ := (HP.out.kept HB.out) k hlt
        obtain ⟨b2, o2, rfl, hb2, d0, d1⟩ := (HQ.out.kept HB.out) k hlt
        have hli : (k : Int) < (n : Int) := by omega
        have HN := Lib.hid (fun (h : f k = g k) => hy_next (P := fun j => f j = g j) HE.out h)
        have HNO := Lib.hid (fun (h : ¬ f k = g k) => (show r = false by
          cases hh : r
          · rfl
          · exact absurd ((HR.out.1 hh).2 k hlt) h))
        obtain ⟨x, hx⟩ : ∃ x, f k = x := ⟨_, rfl⟩
        obtain ⟨y, hy⟩ : ∃ y, g k = y := ⟨_, rfl⟩
        rw [hx, hy] at HN HNO
        rw [hx] at c0 c1
        rw [hy] at d0 d1
        obtain ⟨xs, xc⟩ := x
        obtain ⟨ys, yc⟩ := y
        dsimp only at c0 c1 d0 d1
        clear hx hy HE
        replace c0 := cell_kept hb1 c0
        replace c1 := cell_kept hb1 c1
        replace d0 := cell_kept hb2 d0
        replace d1 := cell_kept hb2 d1
        have hmix := mixedH
        by_cases e1 : xs = ys
        · subst e1
          have e2 : (xs.toList == xs.toList) = true := by simp
          by_cases e3 : xc = yc
          · subst e3
            have HE2 := Lib.hid (HN.out rfl)
            clear HN HNO
            go_wp2
            refine wp_region_quiet_kept (by assumption) (by kernel_rfl) ?_
            repeat (first | go_big_quiet_step (fail) | quiet_step (fail))
            refine wpQuiet_nil ?_
            intro w2 hw'
            have hB : Below wr.heap.size wr w2 := by obtain ⟨⟨wk, hb0⟩, hw''⟩ := hw'; rw [hw'']; exact hb0
            have HB2 := Lib.hid (HB.out.trans (hB.mono HB.out.size))
            clear hw' hB c0 c1 d0 d1
            go_wp2
            go_roundw
            case rel => exact ⟨k + 1, by omega, by go_num, HE2, HB2⟩
            case measure => simp [intOf]; omega
          · have HF := Lib.hid (HNO.out (fun h => e3 (by injection h)))
            have e4 : (xc == yc) = false := by rw [beq_eq_false_iff_ne]; exact e3
            clear HN HNO
            go_wp2
            refine wp_region_quiet_kept (by assumption) (by kernel_rfl) ?_
            repeat (first | go_big_quiet_step (fail) | quiet_step (fail))
            refine wpQuiet_nil ?_
            intro w2 hw'
            have hB : Below wr.heap.size wr w2 := by obtain ⟨⟨wk, hb0⟩, hw''⟩ := hw'; rw [hw'']; exact hb0
            have HB2 := Lib.hid (HB.out.trans (hB.mono HB.out.size))
            clear hw' hB c0 c1 d0 d1
            go_wp2
            go_ret
            exact ⟨by rw [HF.out]; rfl, HB2.out⟩
        · have HF := Lib.hid (HNO.out (fun h => e1 (by injection h)))
          have e4 : (xs.toList == ys.toList) = false := by
            rw [beq_eq_false_iff_ne]
            exact fun h => e1 (toList_inj h)
          clear HN HNO
          go_wp2
          refine wp_region_quiet_kept (by assumption) (by kernel_rfl) ?_
          repeat (first | go_big_quiet_step (fail) | quiet_step (fail))
          refine wpQuiet_nil ?_
          intro w2 hw'
          have hB : Below wr.heap.size wr w2 := by obtain ⟨⟨wk, hb0⟩, hw''⟩ := hw'; rw [hw'']; exact hb0
          have HB2 := Lib.hid (HB.out.trans (hB.mono HB.out.size))
          clear hw' hB c0 c1 d0 d1
          go_wp2
          go_ret
          exact ⟨by rw [HF.out]; rfl, HB2.out⟩
      · obtain rfl : k = n := by omega
        have HF := Lib.hid (show r = true from HR.out.2 ⟨by trivial, HE.out⟩)
        go_wp2
        go_ret
        exact ⟨by rw [HF.out]; rfl, HB.out⟩
  · have HF := Lib.hid (show r = false by
      cases hh : r
      · rfl
      · exact absurd (HR.out.1 hh).1 hnm)
    have e1 : ((n : Int) == (m : Int)) = false := by rw [beq_eq_false_iff_ne]; omega
    have e2 : ((n : Int) != (m : Int)) = true := by simp; omega
    clear hnm
    go_enter Try.func50, Try.ntmps50
    go_wp2
    go_ret
    exact ⟨by rw [HF.out]; rfl, Below.refl _ _⟩
end Go.Proofs.Ytofgdgdmmlgmnaa.hyp
