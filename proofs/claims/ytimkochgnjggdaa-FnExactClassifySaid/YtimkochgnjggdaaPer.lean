/-
  Proved: what both functions that ask whether labels, or a perceptron, are valid return.
  Conditions: none.
-/
import Derived.Test.YtimkochgnjggdaaOne
import Derived.Test.YtimkochgnjggdaaLab
import Derived.Sort.Walk0
namespace Go.Proofs.Ytimkochgnjggdaa.per
open Go.ChangeShapes Go.WideShapes Go.ChangeAt Go.RowKit Go.Joins
open Go.Proofs.Ytimkochgnjggdaa.core Go.Proofs.Ytimkochgnjggdaa.rown Go.Proofs.Ytimkochgnjggdaa.stk Go.Proofs.Ytimkochgnjggdaa.boxed Go.Proofs.Ytimkochgnjggdaa.ft Go.Proofs.Ytimkochgnjggdaa.one1 Go.Proofs.Ytimkochgnjggdaa.lab
set_option linter.unusedVariables false
set_option linter.unusedSimpArgs false
def ltB (s t : ByteArray) : Bool := Op.bytesLess s.toList t.toList
theorem lt_tot (s t : ByteArray) : (ltB s t || s.toList == t.toList) = !ltB t s := by
  unfold ltB
  rw [Proofs.bytesLess_eq, Proofs.bytesLess_eq]
  by_cases h : s.toList < t.toList
  · have h2 : ¬ t.toList < s.toList := fun h' => List.lt_irrefl _ (List.lt_trans h h')
    simp [h, h2]
  · by_cases e : s.toList = t.toList
    · simp [e, List.lt_irrefl]
    · have h2 : t.toList < s.toList := by
        have h3 : t.toList ≤ s.toList := h
        by_cases h4 : t.toList < s.toList
        · exact h4
        · exact absurd (List.le_antisymm (show s.toList ≤ t.toList from h4) h3) e
      simp [h, e, h2]
def LabP (s : Nat → ByteArray) (i : Nat) : Prop := labB (s i) = true ∧ (0 < i → ltB (s (i - 1)) (s i) = true)
def LabsOk (n : Nat) (s : Nat → ByteArray) : Prop := (1 ≤ n ∧ n ≤ 12) ∧ ∀ i, i < n → LabP s i
noncomputable def labsB (n : Nat) (s : Nat → ByteArray) : Bool := @decide (LabsOk n s) (Classical.propDecidable _)
theorem labs_iff {n : Nat} {s : Nat → ByteArray} : labsB n s = true ↔ LabsOk n s := by unfold labsB; exact @decide_eq_true_iff _ (Classical.propDecidable _)
theorem labs_no {n : Nat} {s : Nat → ByteArray} (h : ¬ LabsOk n s) : labsB n s = false := by unfold labsB; exact @decide_eq_false _ (Classical.propDecidable _) h
theorem all_next {P : Nat → Prop} {k : Nat} (h : ∀ j, j < k → P j) (hk : P k) : ∀ j, j < k + 1 → P j := fun j hj => by
  rcases Nat.lt_or_ge j k with h' | h'
  · exact h j h'
  · obtain rfl : j = k := by omega
    exact hk
theorem str_geq {sa sb : ByteArray} {r r' : Bool} (h : Op.bytesLess sa.toList sb.toList = r) (hr : (!r) = r') (W : World) : (binOp .geq 9 (.string sa) (.string sb)).run Try.prog W = .ok (.bool r') W := by
  subst h
  subst hr
  kernel_rfl
theorem str_leq {sa sb : ByteArray} {r : Bool} (h : (Op.bytesLess sa.toList sb.toList || sa.toList == sb.toList) = r) (W : World) : (binOp .leq 9 (.string sa) (.string sb)).run Try.prog W = .ok (.bool r) W := by
  subst h
  kernel_rfl
theorem mixedP : Try.prog.follows .mixedOrders = true := by kernel_rfl
set_option maxRecDepth 100000 in
set_option maxHeartbeats 4000000 in
theorem labelsS {c : Nat} (A : Option Addr) (n : Nat) (s : Nat → ByteArray) (w : World) (hn : n ≤ 1048576) (hs : ∀ i, i < n → (s i).size ≤ maxLen) (hp : SsAt w A n s) :
    Calls Try.prog 63 #[.slice A n c] w fun e w' => e = .returned (.bool (labsB n s)) ∧ Below w.heap.size w w' := by
  have HP := Lib.hid hp
  have HS := Lib.hid hs
  clear hp hs
  go_enter Try.func63, Try.ntmps63
  go_wp2
  go_loopw [3] (fun i w' => ∃ k : Nat, k ≤ n ∧ i = .int .i64 (k : Int) ∧ Hid (∀ j, j < k → LabP s j) ∧ Hid (Below w.heap.size w w')) (fun i _ => n - (intOf i).toNat)
  case atStart => exact ⟨0, Nat.zero_le _, rfl, Lib.hid (fun j hj => absurd hj (by omega)), Lib.hid (Below.refl _ _)⟩
  case round =>
    obtain ⟨k, hk, rfl, HE, HB⟩ := hrel
    by_cases hlt : k < n
    · obtain ⟨b1, o1, rfl, hb1, p0⟩ := (HP.out.kept HB.out) k hlt
      have hli : (k : Int) < (n : Int) := by omega
      have hmix := mixedP
      have hund : undef = Value.tuple #[] := rfl
      have HI := Lib.hid (fun W => (isLabS (s k) W (HS.out k hlt)).mono (fun e w' (h : _ ∧ W = w') => (⟨h.1, by rw [← h.2]; exact Below.refl _ _⟩ : e = .returned (.bool (labB (s k))) ∧ Below W.heap.size W w')))
      cases hi : labB (s k) with
      | false =>
        have HF := Lib.hid (labs_no (fun h : LabsOk n s => by have := (h.2 k hlt).1; rw [hi] at this; cases this))
        rw [hi] at HI
        clear hi HE
        replace p0 := cell_kept hb1 p0
        go_wp2
        refine wp_region_quiet_kept (by assumption) (by kernel_rfl) ?_
        repeat (first | go_big_quiet_step ((go_at_call 102; exact Calls.kept_of (HI.out _))) | quiet_step ((go_at_call 102; exact Calls.kept_of (HI.out _))))
        refine wpQuiet_nil ?_
        intro w2 hw'
        have hB : Below wr.heap.size wr w2 := by obtain ⟨⟨wk, hb0⟩, hw''⟩ := hw'; rw [hw'']; exact hb0
        have HB2 := Lib.hid (HB.out.trans (hB.mono HB.out.size))
        clear hw' hB
        go_wp2
        go_ret
        exact ⟨by rw [HF.out]; rfl, HB2.out⟩
      | true =>
        rw [hi] at HI
        rcases Nat.eq_zero_or_pos k with hk0 | hk0
        · have HE2 := Lib.hid (show ∀ j, j < k + 1 → LabP s j from all_next HE.out ⟨hi, fun h => absurd h (by omega)⟩)
          have e0 : decide (0 < k) = false := decide_eq_false (by omega)
          clear hk0
          clear hi HE
          replace p0 := cell_kept hb1 p0
          go_wp2
          refine wp_region_quiet_kept (by assumption) (by kernel_rfl) ?_
          repeat (first | go_big_quiet_step ((go_at_call 102; exact Calls.kept_of (HI.out _))) | quiet_step ((go_at_call 102; exact Calls.kept_of (HI.out _))))
          refine wpQuiet_nil ?_
          intro w2 hw'
          have hB : Below wr.heap.size wr w2 := by obtain ⟨⟨wk, hb0⟩, hw''⟩ := hw'; rw [hw'']; exact hb0
          have HB2 := Lib.hid (HB.out.trans (hB.mono HB.out.size))
          clear hw' hB
          go_wp2
          go_roundw
          case rel => exact ⟨k + 1, by omega, by go_num, HE2, HB2⟩
          case measure => simp [intOf]; omega
        · obtain ⟨k1, rfl⟩ : ∃ k1, k = k1 + 1 := ⟨k - 1, by omega⟩
          have e0 : (0 : Int) < ((k1 + 1 : Nat) : Int) := by omega
          obtain ⟨b2, o2, e2, hb2, p1⟩ := (HP.out.kept HB.out) k1 (by omega)
          obtain ⟨rfl, rfl⟩ : b2 = b1 ∧ o2 = o1 := by
            injection e2 with e2
            injection e2 with e3 e4
            exact ⟨e3.symm, e4.symm⟩
          cases hl : ltB (s k1) (s (k1 + 1)) with
          | true =>
            have HE2 := Lib.hid (show ∀ j, j < k1 + 1 + 1 → LabP s j from all_next HE.out ⟨hi, fun _ => hl⟩)
            unfold ltB at hl
            clear hi HE
            obtain ⟨sa, hsa⟩ : ∃ x, s k1 = x := ⟨_, rfl⟩
            obtain ⟨sb, hsb⟩ : ∃ x, s (k1 + 1) = x := ⟨_, rfl⟩
            rw [hsa] at p1 hl
            rw [hsb] at p0 hl HI
            clear hsa hsb
            have hge := str_geq hl (r' := false) rfl
            clear hund
            replace p0 := cell_kept hb1 p0
            replace p1 := cell_kept hb1 p1
            go_wp2
            refine wp_region_quiet_kept (by assumption) (by kernel_rfl) ?_
            repeat (first | go_big_quiet_step ((go_at_call 102; exact Calls.kept_of (HI.out _))) | quiet_step ((go_at_call 102; exact Calls.kept_of (HI.out _))))
            refine wpQuiet_nil ?_
            intro w2 hw'
            have hB : Below wr.heap.size wr w2 := by obtain ⟨⟨wk, hb0⟩, hw''⟩ := hw'; rw [hw'']; exact hb0
            have HB2 := Lib.hid (HB.out.trans (hB.mono HB.out.size))
            clear hw' hB
            go_wp2
            go_roundw
            case rel => exact ⟨k1 + 1 + 1, by omega, by go_num, HE2, HB2⟩
            case measure => simp [intOf]; omega
          | false =>
            have HF := Lib.hid (labs_no (fun h : LabsOk n s => by have := (h.2 (k1 + 1) hlt).2 (by omega); rw [Nat.add_sub_cancel, hl] at this; cases this))
            unfold ltB at hl
            clear hi HE
            obtain ⟨sa, hsa⟩ : ∃ x, s k1 = x := ⟨_, rfl⟩
            obtain ⟨sb, hsb⟩ : ∃ x, s (k1 + 1) = x := ⟨_, rfl⟩
            rw [hsa] at p1 hl
            rw [hsb] at p0 hl HI
            clear hsa hsb
            have hge := str_geq hl (r' := true) rfl
            replace p0 := cell_kept hb1 p0
            replace p1 := cell_kept hb1 p1
            go_wp2
            refine wp_region_quiet_kept (by assumption) (by kernel_rfl) ?_
            repeat (first | go_big_quiet_step ((go_at_call 102; exact Calls.kept_of (HI.out _))) | quiet_step ((go_at_call 102; exact Calls.kept_of (HI.out _))))
            refine wpQuiet_nil ?_
            intro w2 hw'
            have hB : Below wr.heap.size wr w2 := by obtain ⟨⟨wk, hb0⟩, hw''⟩ := hw'; rw [hw'']; exact hb0
            have HB2 := Lib.hid (HB.out.trans (hB.mono HB.out.size))
            clear hw' hB
            go_wp2
            go_ret
            exact ⟨by rw [HF.out]; rfl, HB2.out⟩
    · obtain rfl : k = n := by omega
      by_cases hd : 1 ≤ k ∧ k ≤ 12
      · have HI := Lib.hid (fun W => in_t (k : Int) 1 12 (by omega) W)
        have HF := Lib.hid (labs_iff.2 (show LabsOk k s from ⟨hd, HE.out⟩))
        clear hd
        go_wp2_with fail
        with_reducible refine (HI.out _).mono ?_
        rintro e _ ⟨rfl, rfl⟩
        go_wp2
        go_ret
        exact ⟨by rw [HF.out]; rfl, HB.out⟩
      · have HI := Lib.hid (fun W => in_f (k : Int) 1 12 (by omega) W)
        have HF := Lib.hid (labs_no (fun h : LabsOk k s => hd h.1))
        clear hd
        go_wp2_with fail
        with_reducible refine (HI.out _).mono ?_
        rintro e _ ⟨rfl, rfl⟩
        go_wp2
        go_ret
        exact ⟨by rw [HF.out]; rfl, HB.out⟩
set_option maxRecDepth 100000 in
set_option maxHeartbeats 4000000 in
theorem labelsI {c : Nat} (A : Option Addr) (n : Nat) (s : Nat → ByteArray) (w : World) (hn : n ≤ 1048576) (hs : ∀ i, i < n → (s i).size ≤ maxLen) (hp : SsAt w A n s) :
    Calls Try.prog 64 #[.slice A n c] w fun e w' => e = .returned (.bool (labsB n s)) ∧ Below w.heap.size w w' := by
  have HP := Lib.hid hp
  have HS := Lib.hid hs
  clear hp hs
  by_cases hd : 1 ≤ n ∧ n ≤ 12
  rotate_left
  · have HF := Lib.hid (labs_no (fun h : LabsOk n s => hd h.1))
    rcases (show n = 0 ∨ 12 < n by omega) with rfl | h12
    · go_enter Try.func64, Try.ntmps64
      go_wp2
      go_ret
      exact ⟨by rw [HF.out]; rfl, Below.refl _ _⟩
    · have h1 : ¬ (n : Int) < 1 := by omega
      have h2 : (12 : Int) < (n : Int) := by omega
      clear hd
      go_enter Try.func64, Try.ntmps64
      go_wp2
      go_ret
      exact ⟨by rw [HF.out]; rfl, Below.refl _ _⟩
  have HD := Lib.hid hd
  have h1 : ¬ (n : Int) < 1 := by omega
  have h2 : ¬ (12 : Int) < (n : Int) := by omega
  clear hd
  go_enter Try.func64, Try.ntmps64
  go_wp2
  clear h1 h2
  go_loopw [15] (fun i w' => ∃ k : Nat, k ≤ n ∧ i = .int .i64 (k : Int) ∧ Hid (∀ j, j < k → LabP s j) ∧ Hid (Below w.heap.size w w')) (fun i _ => n - (intOf i).toNat)
  case atStart => exact ⟨0, Nat.zero_le _, rfl, Lib.hid (fun j hj => absurd hj (by omega)), Lib.hid (Below.refl _ _)⟩
  case round =>
    obtain ⟨k, hk, rfl, HE, HB⟩ := hrel
    by_cases hlt : k < n
    · obtain ⟨b1, o1, rfl, hb1, p0⟩ := (HP.out.kept HB.out) k hlt
      have hli : (k : Int) < (n : Int) := by omega
      have HI := Lib.hid (fun W => isLabI (s k) W (HS.out k hlt))
      cases hi : labB (s k) with
      | false =>
        have HF := Lib.hid (labs_no (fun h : LabsOk n s => by have := (h.2 k hlt).1; rw [hi] at this; cases this))
        rw [hi] at HI
        clear hi HE
        go_wp2_with fail
        with_reducible refine (HI.out _).mono ?_
        rintro e _ ⟨rfl, rfl⟩
        go_wp2
        go_ret
        exact ⟨by rw [HF.out]; rfl, HB.out⟩
      | true =>
        rw [hi] at HI
        rcases Nat.eq_zero_or_pos k with hk0 | hk0
        · have HE2 := Lib.hid (show ∀ j, j < k + 1 → LabP s j from all_next HE.out ⟨hi, fun h => absurd h (by omega)⟩)
          have e0 : decide (0 < k) = false := decide_eq_false (by omega)
          clear hk0
          clear hi HE
          go_wp2_with fail
          with_reducible refine (HI.out _).mono ?_
          rintro e _ ⟨rfl, rfl⟩
          go_wp2
          go_roundw
          case rel => exact ⟨k + 1, by omega, by go_num, HE2, HB⟩
          case measure => simp [intOf]; omega
        · obtain ⟨k1, rfl⟩ : ∃ k1, k = k1 + 1 := ⟨k - 1, by omega⟩
          have e0 : (0 : Int) < ((k1 + 1 : Nat) : Int) := by omega
          obtain ⟨b2, o2, e2, hb2, p1⟩ := (HP.out.kept HB.out) k1 (by omega)
          obtain ⟨rfl, rfl⟩ : b2 = b1 ∧ o2 = o1 := by
            injection e2 with e2
            injection e2 with e3 e4
            exact ⟨e3.symm, e4.symm⟩
          have ht := lt_tot (s (k1 + 1)) (s k1)
          cases hl : ltB (s k1) (s (k1 + 1)) with
          | true =>
            have HE2 := Lib.hid (show ∀ j, j < k1 + 1 + 1 → LabP s j from all_next HE.out ⟨hi, fun _ => hl⟩)
            rw [hl] at ht
            replace ht : _ = false := ht
            unfold ltB at ht
            clear hi HE hl
            obtain ⟨sa, hsa⟩ : ∃ x, s k1 = x := ⟨_, rfl⟩
            obtain ⟨sb, hsb⟩ : ∃ x, s (k1 + 1) = x := ⟨_, rfl⟩
            rw [hsa] at p1 ht
            rw [hsb] at p0 ht HI
            clear hsa hsb
            have hle := str_leq ht
            clear ht
            go_wp2_with fail
            with_reducible refine (HI.out _).mono ?_
            rintro e _ ⟨rfl, rfl⟩
            go_wp2
            go_roundw
            case rel => exact ⟨k1 + 1 + 1, by omega, by go_num, HE2, HB⟩
            case measure => simp [intOf]; omega
          | false =>
            have HF := Lib.hid (labs_no (fun h : LabsOk n s => by have := (h.2 (k1 + 1) hlt).2 (by omega); rw [Nat.add_sub_cancel, hl] at this; cases this))
            rw [hl] at ht
            replace ht : _ = true := ht
            unfold ltB at ht
            clear hi HE hl
            obtain ⟨sa, hsa⟩ : ∃ x, s k1 = x := ⟨_, rfl⟩
            obtain ⟨sb, hsb⟩ : ∃ x, s (k1 + 1) = x := ⟨_, rfl⟩
            rw [hsa] at p1 ht
            rw [hsb] at p0 ht HI
            clear hsa hsb
            have hle := str_leq ht
            clear ht
            go_wp2_with fail
            with_reducible refine (HI.out _).mono ?_
            rintro e _ ⟨rfl, rfl⟩
            go_wp2
            go_ret
            exact ⟨by rw [HF.out]; rfl, HB.out⟩
    · obtain rfl : k = n := by omega
      have HF := Lib.hid (labs_iff.2 (show LabsOk k s from ⟨HD.out, HE.out⟩))
      go_wp2
      go_ret
      exact ⟨by rw [HF.out]; rfl, HB.out⟩
end Go.Proofs.Ytimkochgnjggdaa.per
