/-
  Proved: both functions that tell the cost of a label return the same.
  Conditions: none.
-/
import Derived.Test.YtofgdgdmmlgmnaaHyK
namespace Go.Proofs.Ytofgdgdmmlgmnaa.wCostOf
open Go.ChangeShapes Go.WideShapes Go.ChangeAt Go.RowKit Go.Joins
open Go.Proofs.Ytofgdgdmmlgmnaa.core Go.Proofs.Ytofgdgdmmlgmnaa.rown Go.Proofs.Ytofgdgdmmlgmnaa.stk Go.Proofs.Ytofgdgdmmlgmnaa.boxed Go.Proofs.Ytofgdgdmmlgmnaa.ft Go.Proofs.Ytofgdgdmmlgmnaa.lab Go.Proofs.Ytofgdgdmmlgmnaa.hyp
set_option linter.unusedVariables false
set_option linter.unusedSimpArgs false
/-- The first place of the label among the first n ones; n if there is none. -/
def fs (f : Nat → Hy) (s : ByteArray) : Nat → Nat
  | 0 => 0
  | n + 1 => if fs f s n < n then fs f s n else if (f n).1 = s then n else n + 1
theorem fs_le (f : Nat → Hy) (s : ByteArray) : ∀ n, fs f s n ≤ n
  | 0 => Nat.le_refl _
  | n + 1 => by
    have := fs_le f s n
    unfold fs
    split
    · omega
    · split <;> omega
theorem fs_none {f : Nat → Hy} {s : ByteArray} : ∀ n, (∀ i, i < n → (f i).1 ≠ s) → fs f s n = n
  | 0, _ => rfl
  | n + 1, h => by
    unfold fs
    rw [fs_none n fun i hi => h i (by omega), if_neg (by omega), if_neg (h n (by omega))]
theorem fs_keep {f : Nat → Hy} {s : ByteArray} {k : Nat} (h : fs f s (k + 1) = k) : ∀ n, k < n → fs f s n = k
  | 0, hn => absurd hn (by omega)
  | n + 1, hn => by
    rcases Nat.lt_or_ge k n with h' | h'
    · have := fs_keep h n h'
      rw [fs, this, if_pos h']
    · obtain rfl : n = k := by omega
      exact h
theorem fs_at {f : Nat → Hy} {s : ByteArray} {k n : Nat} (hk : k < n) (he : (f k).1 = s) (h : ∀ i, i < k → (f i).1 ≠ s) : fs f s n = k :=
  fs_keep (by rw [fs, fs_none k h, if_neg (by omega), if_pos he]) n hk
noncomputable def coC (n : Nat) (f : Nat → Hy) (s : ByteArray) : Int := if hyB n f = true then (if fs f s n < n then 0 else 3) else 1
noncomputable def coR (n : Nat) (f : Nat → Hy) (s : ByteArray) : Int := if coC n f s = 0 then (f (fs f s n)).2 else 0
theorem co_no {n : Nat} {f : Nat → Hy} {s : ByteArray} (h : hyB n f = false) : coC n f s = 1 ∧ coR n f s = 0 := by
  have h1 : coC n f s = 1 := by unfold coC; rw [h]; rfl
  exact ⟨h1, by unfold coR; rw [h1]; rfl⟩
theorem co_miss {n : Nat} {f : Nat → Hy} {s : ByteArray} (h : hyB n f = true) (hm : ∀ i, i < n → (f i).1 ≠ s) : coC n f s = 3 ∧ coR n f s = 0 := by
  have h1 : coC n f s = 3 := by unfold coC; rw [h, if_pos rfl, fs_none n hm, if_neg (by omega)]
  exact ⟨h1, by unfold coR; rw [h1]; rfl⟩
theorem co_hit {n k : Nat} {f : Nat → Hy} {s : ByteArray} (h : hyB n f = true) (hk : k < n) (he : (f k).1 = s) (hm : ∀ i, i < k → (f i).1 ≠ s) : coC n f s = 0 ∧ coR n f s = (f k).2 := by
  have h1 : coC n f s = 0 := by unfold coC; rw [h, if_pos rfl, fs_at hk he hm, if_pos hk]
  exact ⟨h1, by unfold coR; rw [if_pos h1, fs_at hk he hm]⟩
set_option maxRecDepth 100000 in
set_option maxHeartbeats 4000000 in
theorem spec_calls {c : Nat} (A : Option Addr) (n : Nat) (f : Nat → Hy) (s : ByteArray) (w : World) (hl : HyL n f) (hp : HyAt w A n f) :
    Calls Try.prog 27 #[.slice A n c, .string s] w fun e w' => e = .returned (.tuple #[.int .i64 (coR n f s), .int .i64 (coC n f s)]) ∧ Below w.heap.size w w' := by
  have HV := Lib.hid (hyOkS (c := c) A n f w hl hp)
  have hn := hl.hn
  cases hv : hyB n f with
  | false =>
    have hund : undef = Value.tuple #[] := rfl
    have HC := Lib.hid (co_no (s := s) hv)
    rw [hv] at HV
    clear hv hp hl
    go_enter Try.func27, Try.ntmps27
    go_wp2_with fail
    refine HV.out.mono ?_
    rintro e w1 ⟨rfl, hb⟩
    have HB := Lib.hid hb
    clear hb HV
    go_wp2
    go_ret2
    exact ⟨by rw [HC.out.1, HC.out.2]; rfl, HB.out⟩
  | true =>
    have HP := Lib.hid hp
    have HM := Lib.hid (co_miss (s := s) hv)
    have HH := Lib.hid (fun k (hk : k < n) (he : (f k).1 = s) (hm : ∀ i, i < k → (f i).1 ≠ s) => co_hit hv hk he hm)
    rw [hv] at HV
    clear hv hp hl
    go_enter Try.func27, Try.ntmps27
    go_wp2_with fail
    refine HV.out.mono ?_
    rintro e w1 ⟨rfl, hb⟩
    have HB1 := Lib.hid hb
    clear hb HV
    go_wp2
    go_loopw [6] (fun i w' => ∃ k : Nat, k ≤ n ∧ i = .int .i64 (k : Int) ∧ Hid (∀ j, j < k → (f j).1 ≠ s) ∧ Hid (Below w.heap.size w w')) (fun i _ => n - (intOf i).toNat)
    case atStart => exact ⟨0, Nat.zero_le _, rfl, Lib.hid (fun j hj => absurd hj (by omega)), HB1⟩
    case round =>
      obtain ⟨k, hk, rfl, HE, HB⟩ := hrel
      by_cases hlt : k < n
      · obtain ⟨b1, o1, rfl, hb1, c0, c1⟩ := (HP.out.kept HB.out) k hlt
        have hli : (k : Int) < (n : Int) := by omega
        have HN := Lib.hid (fun (h : ¬ (f k).1 = s) => hy_next (P := fun j => (f j).1 ≠ s) HE.out h)
        have HF := Lib.hid (fun (h : (f k).1 = s) => HH.out k hlt h HE.out)
        obtain ⟨x, hx⟩ : ∃ x, f k = x := ⟨_, rfl⟩
        obtain ⟨xs, xc⟩ := x
        rw [hx] at c0 c1 HN HF
        dsimp only at c0 c1 HN HF
        clear hx HE
        by_cases e : xs = s
        · subst e
          have e2 : (xs.toList == xs.toList) = true := by simp
          have HF2 := Lib.hid (HF.out rfl)
          clear HN HF
          go_wp2
          go_ret2
          exact ⟨by rw [HF2.out.1, HF2.out.2]; rfl, HB.out⟩
        · have e2 : (xs.toList == s.toList) = false := by
            rw [beq_eq_false_iff_ne]
            exact fun h => e (toList_inj h)
          have HE2 := Lib.hid (HN.out e)
          clear HN HF
          go_wp2
          go_roundw
          case rel => exact ⟨k + 1, by omega, by go_num, HE2, HB⟩
          case measure => simp [intOf]; omega
      · obtain rfl : k = n := by omega
        have HC := Lib.hid (HM.out HE.out)
        go_wp2
        go_ret2
        exact ⟨by rw [HC.out.1, HC.out.2]; rfl, HB.out⟩
set_option maxRecDepth 100000 in
set_option maxHeartbeats 4000000 in
theorem impl_calls {c : Nat} (A : Option Addr) (n : Nat) (f : Nat → Hy) (s : ByteArray) (w : World) (hl : HyL n f) (hp : HyAt w A n f) :
    Calls Try.prog 28 #[.slice A n c, .string s] w fun e w' => e = .returned (.tuple #[.int .i64 (coR n f s), .int .i64 (coC n f s)]) ∧ Below w.heap.size w w' := by
  have HV := Lib.hid (validHI (c := c) A n f w hl hp)
  have hn := hl.hn
  cases hv : hyB n f with
  | false =>
    have hund : undef = Value.tuple #[] := rfl
    have HC := Lib.hid (co_no (s := s) hv)
    rw [hv] at HV
    clear hv hp hl
    go_enter Try.func28, Try.ntmps28
    go_wp2_with fail
    refine HV.out.mono ?_
    rintro e w1 ⟨rfl, hb⟩
    have HB := Lib.hid hb
    clear hb HV
    go_wp2
    go_ret2
    exact ⟨by rw [HC.out.1, HC.out.2]; rfl, HB.out⟩
  | true =>
    have HP := Lib.hid hp
    have HM := Lib.hid (co_miss (s := s) hv)
    have HH := Lib.hid (fun k (hk : k < n) (he : (f k).1 = s) (hm : ∀ i, i < k → (f i).1 ≠ s) => co_hit hv hk he hm)
    rw [hv] at HV
    clear hv hp hl
    go_enter Try.func28, Try.ntmps28
    go_wp2_with fail
    refine HV.out.mono ?_
    rintro e w1 ⟨rfl, hb⟩
    have HB1 := Lib.hid hb
    clear hb HV
    go_wp2
    go_loopw [13] (fun i w' => ∃ k : Nat, k ≤ n ∧ i = .int .i64 (k : Int) ∧ Hid (∀ j, j < k → (f j).1 ≠ s) ∧ Hid (Below w.heap.size w w')) (fun i _ => n - (intOf i).toNat)
    case atStart => exact ⟨0, Nat.zero_le _, rfl, Lib.hid (fun j hj => absurd hj (by omega)), HB1⟩
    case round =>
      obtain ⟨k, hk, rfl, HE, HB⟩ := hrel
      by_cases hlt : k < n
      · obtain ⟨b1, o1, rfl, hb1, c0, c1⟩ := (HP.out.kept HB.out) k hlt
        have hli : (k : Int) < (n : Int) := by omega
        have HN := Lib.hid (fun (h : ¬ (f k).1 = s) => hy_next (P := fun j => (f j).1 ≠ s) HE.out h)
        have HF := Lib.hid (fun (h : (f k).1 = s) => HH.out k hlt h HE.out)
        have HB2 := Lib.hid (fun o => HB.out.alloc HB.out.size o)
        obtain ⟨x, hx⟩ : ∃ x, f k = x := ⟨_, rfl⟩
        obtain ⟨xs, xc⟩ := x
        rw [hx] at c0 c1 HN HF
        dsimp only at c0 c1 HN HF
        clear hx HE
        by_cases e : xs = s
        · subst e
          have e2 : (xs.toList == xs.toList) = true := by simp
          have HF2 := Lib.hid (HF.out rfl)
          clear HN HF
          go_wp2
          go_ret2
          exact ⟨by rw [HF2.out.1, HF2.out.2]; rfl, HB2.out _⟩
        · have e2 : (xs.toList == s.toList) = false := by
            rw [beq_eq_false_iff_ne]
            exact fun h => e (toList_inj h)
          have HE2 := Lib.hid (HN.out e)
          clear HN HF
          go_wp2
          go_roundw
          case rel => exact ⟨k + 1, by omega, by go_num, HE2, Lib.hid (HB2.out _)⟩
          case measure => simp [intOf]; omega
      · obtain rfl : k = n := by omega
        have HC := Lib.hid (HM.out HE.out)
        go_wp2
        go_ret2
        exact ⟨by rw [HC.out.1, HC.out.2]; rfl, HB.out⟩
theorem meat (vs0 : Nat → Value) (g0 : Nat → Dat) (a1 : ByteArray) (ht0 : tyrHypS g0) :
    a1.size ≤ 1048576 → costRec 1 g0 ≤ 1048576 → ∃ (r0 : Int) (r1 : Int), (∀ (W : World) (us0 : Nat → Value), ReadsRec W 1 us0 g0 → (∃ (A : Option Addr) (n c : Nat), us0 0 = .slice A n c ∧ n ≤ c) → Calls Try.prog 27 #[us0 0, .string a1] W fun e W' => e = .returned (.tuple #[.int .i64 r0, .int .i64 r1]) ∧ Below W.heap.size W W') ∧ (∀ (W : World) (us0 : Nat → Value), ReadsRec W 1 us0 g0 → (∃ (A : Option Addr) (n c : Nat), us0 0 = .slice A n c ∧ n ≤ c) → Calls Try.prog 28 #[us0 0, .string a1] W fun e W' => e = .returned (.tuple #[.int .i64 r0, .int .i64 r1]) ∧ Below W.heap.size W W') := by
  intro _ hq
  refine ⟨coR (hyN g0) (hyF g0) a1, coC (hyN g0) (hyF g0) a1, fun W us h _ => ?_, fun W us h _ => ?_⟩
  · obtain ⟨A, c, e, -, hl, hp⟩ := reads_hy h ht0 hq
    rw [e]
    exact spec_calls A _ _ _ W hl hp
  · obtain ⟨A, c, e, -, hl, hp⟩ := reads_hy h ht0 hq
    rw [e]
    exact impl_calls A _ _ _ W hl hp
end Go.Proofs.Ytofgdgdmmlgmnaa.wCostOf
