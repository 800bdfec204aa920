/-
  Proved: both functions that compare two lists of features return the same answer.
  Conditions: none.
-/
import Derived.Test.YtedboaeadkdhfaaFt
namespace Go.Proofs.Ytedboaeadkdhfaa.wSameFeats
open Go.ChangeShapes Go.WideShapes Go.ChangeAt Go.RowKit Go.Joins
open Go.Proofs.Ytedboaeadkdhfaa.core Go.Proofs.Ytedboaeadkdhfaa.rown Go.Proofs.Ytedboaeadkdhfaa.stk Go.Proofs.Ytedboaeadkdhfaa.boxed Go.Proofs.Ytedboaeadkdhfaa.ft
set_option linter.unusedVariables false
set_option linter.unusedSimpArgs false
/-- Whether two lists of features are equal. -/
def Eq2 (n m : Nat) (f h : Nat → P3) : Prop := n = m ∧ ∀ i, i < n → f i = h i
set_option maxRecDepth 100000 in
set_option maxHeartbeats 2000000 in
theorem l08_calls {c d : Nat} (A B : Option Addr) (n m : Nat) (f h : Nat → P3) (r : Bool) (w : World) (hn : n ≤ 1048576) (hm : m ≤ 1048576) (hr : r = true ↔ Eq2 n m f h) (hp : PtsAt w A n f) (hq : PtsAt w B m h) :
    Calls Try.prog 49 #[.slice A n c, .slice B m d] w fun e w' => e = .returned (.bool r) ∧ Below w.heap.size w w' := by
  go_enter Try.func49, Try.ntmps49
  by_cases hnm : n = m
  · subst hnm
    have HP := Lib.hid hp
    have HQ := Lib.hid hq
    have HR := Lib.hid hr
    clear hp hq hr
    go_wp2
    go_loopw [5] (fun i w' => ∃ k : Nat, k ≤ n ∧ i = .int .i64 (k : Int) ∧ Hid (∀ j, j < k → f j = h j) ∧ Hid (Below w.heap.size w w')) (fun i _ => n - (intOf i).toNat)
    case atStart => exact ⟨0, Nat.zero_le _, rfl, Lib.hid (fun j hj => absurd hj (by omega)), Lib.hid (Below.refl _ _)⟩
    case round =>
      obtain ⟨k, hk, rfl, HE, HB⟩ := hrel
      by_cases hlt : k < n
      · obtain ⟨b, o, rfl, hb, p0, p1, p2⟩ := (HP.out.kept HB.out) k hlt
        obtain ⟨b2, o2, rfl, hb2, q0, q1, q2⟩ := (HQ.out.kept HB.out) k hlt
        have hli : (k : Int) < (n : Int) := by omega
        have HN := Lib.hid (show f k = h k → ∀ j, j < k + 1 → f j = h j from fun e j hj => by
          rcases Nat.lt_or_ge j k with h' | h'
          · exact HE.out j h'
          · obtain rfl : j = k := by omega
            exact e)
        have HF := Lib.hid (show f k ≠ h k → r = false from fun e => by
          cases r
          · rfl
          · exact absurd ((HR.out.1 rfl).2 k hlt) e)
        obtain ⟨⟨px, py, pz⟩, hpk⟩ : ∃ p, f k = p := ⟨_, rfl⟩
        obtain ⟨⟨qx, qy, qz⟩, hqk⟩ : ∃ p, h k = p := ⟨_, rfl⟩
        rw [hpk] at p0 p1 p2 HN HF
        rw [hqk] at q0 q1 q2 HN HF
        clear hpk hqk
        dsimp only at p0 p1 p2 q0 q1 q2
        have HBD := Lib.hid HB.out.drew
        clear HP HQ HR hb hb2
        by_cases hx : px = qx
        · subst hx
          by_cases hy : py = qy
          · subst hy
            by_cases hz : pz = qz
            · subst hz
              have HM := Lib.hid (HN.out rfl)
              clear HN HF HE HB
              go_wp2
              go_region
              go_wp2
              go_roundw
              case rel => exact ⟨k + 1, by omega, by go_num, HM, HBD⟩
              case measure => simp [intOf]; omega
            · have hrf := HF.out (fun e => hz (congrArg (fun p : P3 => p.2.2) e))
              subst hrf
              clear HN HF HE HB
              go_wp2
              go_region
              go_wp2
              go_ret
              exact ⟨rfl, HBD.out⟩
          · have hrf := HF.out (fun e => hy (congrArg (fun p : P3 => p.2.1) e))
            subst hrf
            clear HN HF HE HB
            go_wp2
            go_region
            go_wp2
            go_ret
            exact ⟨rfl, HBD.out⟩
        · have hrf := HF.out (fun e => hx (congrArg (fun p : P3 => p.1) e))
          subst hrf
          clear HN HF HE HB
          go_wp2
          go_region
          go_wp2
          go_ret
          exact ⟨rfl, HBD.out⟩
      · obtain rfl : k = n := by omega
        have hrt := HR.out.2 ⟨rfl, HE.out⟩
        subst hrt
        go_wp2
        go_ret
        exact ⟨rfl, HB.out⟩
  · obtain rfl : r = false := by
      cases r
      · rfl
      · exact absurd (hr.1 rfl).1 hnm
    have hne : ¬ (n : Int) = (m : Int) := by omega
    clear hp hq hr
    go_wp2
    go_ret
    exact ⟨rfl, Below.refl _ _⟩
set_option maxRecDepth 100000 in
set_option maxHeartbeats 2000000 in
theorem lib_calls {c d : Nat} (A B : Option Addr) (n m : Nat) (f h : Nat → P3) (r : Bool) (w : World) (hn : n ≤ 1048576) (hm : m ≤ 1048576) (hr : r = true ↔ Eq2 n m f h) (hp : PtsAt w A n f) (hq : PtsAt w B m h) :
    Calls Try.prog 50 #[.slice A n c, .slice B m d] w fun e w' => e = .returned (.bool r) ∧ Below w.heap.size w w' := by
  go_enter Try.func50, Try.ntmps50
  by_cases hnm : n = m
  · subst hnm
    have HP := Lib.hid hp
    have HQ := Lib.hid hq
    have HR := Lib.hid hr
    clear hp hq hr
    go_wp2
    go_loopw [13] (fun i w' => ∃ k : Nat, k ≤ n ∧ i = .int .i64 (k : Int) ∧ Hid (∀ j, j < k → f j = h j) ∧ Hid (Below w.heap.size w w')) (fun i _ => n - (intOf i).toNat)
    case atStart => exact ⟨0, Nat.zero_le _, rfl, Lib.hid (fun j hj => absurd hj (by omega)), Lib.hid (Below.refl _ _)⟩
    case round =>
      obtain ⟨k, hk, rfl, HE, HB⟩ := hrel
      by_cases hlt : k < n
      · obtain ⟨b, o, rfl, hb, p0, p1, p2⟩ := (HP.out.kept HB.out) k hlt
        obtain ⟨b2, o2, rfl, hb2, q0, q1, q2⟩ := (HQ.out.kept HB.out) k hlt
        have hli : (k : Int) < (n : Int) := by omega
        have HN := Lib.hid (show f k = h k → ∀ j, j < k + 1 → f j = h j from fun e j hj => by
          rcases Nat.lt_or_ge j k with h' | h'
          · exact HE.out j h'
          · obtain rfl : j = k := by omega
            exact e)
        have HF := Lib.hid (show f k ≠ h k → r = false from fun e => by
          cases r
          · rfl
          · exact absurd ((HR.out.1 rfl).2 k hlt) e)
        obtain ⟨⟨px, py, pz⟩, hpk⟩ : ∃ p, f k = p := ⟨_, rfl⟩
        obtain ⟨⟨qx, qy, qz⟩, hqk⟩ : ∃ p, h k = p := ⟨_, rfl⟩
        rw [hpk] at p0 p1 p2 HN HF
        rw [hqk] at q0 q1 q2 HN HF
        clear hpk hqk
        dsimp only at p0 p1 p2 q0 q1 q2
        have HBD := Lib.hid HB.out.drew
        clear HP HQ HR hb hb2
        by_cases hx : px = qx
        · subst hx
          by_cases hy : py = qy
          · subst hy
            by_cases hz : pz = qz
            · subst hz
              have HM := Lib.hid (HN.out rfl)
              clear HN HF HE HB
              go_wp2
              go_region
              go_wp2
              go_roundw
              case rel => exact ⟨k + 1, by omega, by go_num, HM, HBD⟩
              case measure => simp [intOf]; omega
            · have hrf := HF.out (fun e => hz (congrArg (fun p : P3 => p.2.2) e))
              subst hrf
              clear HN HF HE HB
              go_wp2
              go_region
              go_wp2
              go_ret
              exact ⟨rfl, HBD.out⟩
          · have hrf := HF.out (fun e => hy (congrArg (fun p : P3 => p.2.1) e))
            subst hrf
            clear HN HF HE HB
            go_wp2
            go_region
            go_wp2
            go_ret
            exact ⟨rfl, HBD.out⟩
        · have hrf := HF.out (fun e => hx (congrArg (fun p : P3 => p.1) e))
          subst hrf
          clear HN HF HE HB
          go_wp2
          go_region
          go_wp2
          go_ret
          exact ⟨rfl, HBD.out⟩
      · obtain rfl : k = n := by omega
        have hrt := HR.out.2 ⟨rfl, HE.out⟩
        subst hrt
        go_wp2
        go_ret
        exact ⟨rfl, HB.out⟩
  · obtain rfl : r = false := by
      cases r
      · rfl
      · exact absurd (hr.1 rfl).1 hnm
    have hne : ¬ (n : Int) = (m : Int) := by omega
    clear hp hq hr
    go_wp2
    go_ret
    exact ⟨rfl, Below.refl _ _⟩
theorem spec_calls {c d : Nat} (A B : Option Addr) (n m : Nat) (f h : Nat → P3) (r : Bool) (w : World) (hn : n ≤ 1048576) (hm : m ≤ 1048576) (hr : r = true ↔ Eq2 n m f h) (hp : PtsAt w A n f) (hq : PtsAt w B m h) :
    Calls Try.prog 21 #[.slice A n c, .slice B m d] w fun e w' => e = .returned (.bool r) ∧ Below w.heap.size w w' := by
  have HC := Lib.hid (l08_calls (c := c) (d := d) A B n m f h r w hn hm hr hp hq)
  clear hr hp hq
  go_enter Try.func21, Try.ntmps21
  go_wp2_with fail
  refine HC.out.mono ?_
  rintro e w1 ⟨rfl, hb⟩
  go_wp2
  go_ret
  exact ⟨rfl, hb⟩
theorem impl_calls {c d : Nat} (A B : Option Addr) (n m : Nat) (f h : Nat → P3) (r : Bool) (w : World) (hn : n ≤ 1048576) (hm : m ≤ 1048576) (hr : r = true ↔ Eq2 n m f h) (hp : PtsAt w A n f) (hq : PtsAt w B m h) :
    Calls Try.prog 22 #[.slice A n c, .slice B m d] w fun e w' => e = .returned (.bool r) ∧ Below w.heap.size w w' := by
  have HC := Lib.hid (lib_calls (c := c) (d := d) A B n m f h r w hn hm hr hp hq)
  clear hr hp hq
  go_enter Try.func22, Try.ntmps22
  go_wp2_with fail
  refine HC.out.mono ?_
  rintro e w1 ⟨rfl, hb⟩
  go_wp2
  go_ret
  exact ⟨rfl, hb⟩
theorem meat (vs0 : Nat → Value) (g0 : Nat → Dat) (vs1 : Nat → Value) (g1 : Nat → Dat) (ht0 : tyrFeatS g0) (ht1 : tyrFeatS g1) :
    costRec 1 g0 ≤ 1048576 → costRec 1 g1 ≤ 1048576 → ∃ (r0 : Bool), (∀ (W : World) (us0 : Nat → Value) (us1 : Nat → Value), ReadsRec W 1 us0 g0 → (∃ (A : Option Addr) (n c : Nat), us0 0 = .slice A n c ∧ n ≤ c) → ReadsRec W 1 us1 g1 → (∃ (A : Option Addr) (n c : Nat), us1 0 = .slice A n c ∧ n ≤ c) → Calls Try.prog 21 #[us0 0, us1 0] W fun e W' => e = .returned (.bool r0) ∧ Below W.heap.size W W') ∧ (∀ (W : World) (us0 : Nat → Value) (us1 : Nat → Value), ReadsRec W 1 us0 g0 → (∃ (A : Option Addr) (n c : Nat), us0 0 = .slice A n c ∧ n ≤ c) → ReadsRec W 1 us1 g1 → (∃ (A : Option Addr) (n c : Nat), us1 0 = .slice A n c ∧ n ≤ c) → Calls Try.prog 22 #[us0 0, us1 0] W fun e W' => e = .returned (.bool r0) ∧ Below W.heap.size W W') := by
  intro hq0 hq1
  obtain ⟨r, hr⟩ : ∃ r : Bool, r = true ↔ Eq2 (ftN g0) (ftN g1) (ftF g0) (ftF g1) := by
    by_cases h : Eq2 (ftN g0) (ftN g1) (ftF g0) (ftF g1)
    · exact ⟨true, by simpa using h⟩
    · exact ⟨false, by simpa using h⟩
  exact ⟨r, fun W us0 us1 h0 _ h1 _ => by
      obtain ⟨A, c, e, hn, hp⟩ := reads_fts h0 ht0 hq0
      obtain ⟨B, d, e1, hm, hp1⟩ := reads_fts h1 ht1 hq1
      rw [e, e1]
      exact spec_calls A B _ _ _ _ r W hn hm hr hp hp1, fun W us0 us1 h0 _ h1 _ => by
      obtain ⟨A, c, e, hn, hp⟩ := reads_fts h0 ht0 hq0
      obtain ⟨B, d, e1, hm, hp1⟩ := reads_fts h1 ht1 hq1
      rw [e, e1]
      exact impl_calls A B _ _ _ _ r W hn hm hr hp hp1⟩
end Go.Proofs.Ytedboaeadkdhfaa.wSameFeats
