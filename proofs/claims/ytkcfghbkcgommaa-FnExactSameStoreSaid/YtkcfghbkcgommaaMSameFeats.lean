/-
  Proved: both functions that compare two lists of features return the same answer.
  Conditions: none.
-/
import Derived.Test.YtkcfghbkcgommaaFt
namespace Go.Proofs.Ytkcfghbkcgommaa.wSameFeats
open Go.ChangeShapes Go.WideShapes Go.ChangeAt Go.RowKit Go.Joins
open Go.Proofs.Ytkcfghbkcgommaa.core Go.Proofs.Ytkcfghbkcgommaa.rown Go.Proofs.Ytkcfghbkcgommaa.stk Go.Proofs.Ytkcfghbkcgommaa.boxed Go.Proofs.Ytkcfghbkcgommaa.ft
set_option linter.unusedVariables false
set_option linter.unusedSimpArgs false
/-- Whether two lists of features are equal. -/
def Eq2 (n m : Nat) (f h : Nat → P3) : Prop := n = m ∧ ∀ i, i < n → f i = h i
set_option maxRecDepth 100000 in
set_option maxHeartbeats 2000000 in
theorem lib_calls {c d : Nat} (A B : Option Addr) (n m : Nat) (f h : Nat → P3) (r : Bool) (w : World) (hn : n ≤ 1048576) (hm : m ≤ 1048576) (hr : r = true ↔ Eq2 n m f h) (hp : PtsAt w A n f) (hq : PtsAt w B m h) :
    Calls Try.prog 103 #[.slice A n c, .slice B m d] w fun e w' => e = .returned (.bool r) ∧ Below w.heap.size w w' := by
  go_enter Try.func103, Try.ntmps103
  by_cases hnm : n = m
  · subst hnm
    have HP := Lib.hid hp
    have HQ := Lib.hid hq
    have HR := Lib.hid hr
    clear hp hq hr
    go_wp2
    go_loopw [13] (fun i w' => ∃ k : Nat, k ≤ n ∧ i = .int .i64 (k : Int) ∧ Hid (∀ j, j < k → f j = h j) ∧ Hid (Below w.heap.size w w')) (fun i _ => n - (intOf i).toNat)
    case atStart => exact ⟨0, Nat.zero_le _, rfl, Lib.hid (fun j hj => absurd hj (by omega)), Lib.hid (Below.refl _ _)⟩
    case round =>
      obtain ⟨k, hk, rfl, HE, HB⟩ := hrel
      by_cases hlt : k < n
      · obtain ⟨b, o, rfl, hb, p0, p1, p2⟩ := (HP.out.kept HB.out) k hlt
        obtain ⟨b2, o2, rfl, hb2, q0, q1, q2⟩ := (HQ.out.kept HB.out) k hlt
        have hli : (k : Int) < (n : Int) := by omega
        have HN := Lib.hid (show f k = h k → ∀ j, j < k + 1 → f j = h j from fun e j hj => by
          rcases Nat.lt_or_ge j k with h' | h'
          · exact HE.out j h'
          · obtain rfl : j = k := by omega
            exact e)
        have HF := Lib.hid (show f k ≠ h k → r = false from fun e => by
          cases r
          · rfl
          · exact absurd ((HR.out.1 rfl).2 k hlt) e)
        obtain ⟨⟨px, py, pz⟩, hpk⟩ : ∃ p, f k = p := ⟨_, rfl⟩
        obtain ⟨⟨qx, qy, qz⟩, hqk⟩ : ∃ p, h k = p := ⟨_, rfl⟩
        rw [hpk] at p0 p1 p2 HN HF
        rw [hqk] at q0 q1 q2 HN HF
        clear hpk hqk
        dsimp only at p0 p1 p2 q0 q1 q2
        have HBD := Lib.hid HB.out.drew
        clear HP HQ HR hb hb2
        by_cases hx : px = qx
        · subst hx
          by_cases hy : py = qy
          · subst hy
            by_cases hz : pz = qz
            · subst hz
              have HM := Lib.hid (HN.out rfl)
              clear HN HF HE HB
              go_wp2
              go_region
              go_wp2
              go_roundw
              case rel => exact ⟨k + 1, by omega, by go_num, HM, HBD⟩
              case measure => simp [intOf]; omega
            · have hrf := HF.out (fun e => hz (congrArg (fun p : P3 => p.2.2) e))
              subst hrf
              clear HN HF HE HB
              go_wp2
              go_region
              go_wp2
              go_ret
              exact ⟨rfl, HBD.out⟩
          · have hrf := HF.out (fun e => hy (congrArg (fun p : P3 => p.2.1) e))
            subst hrf
            clear HN HF HE HB
            go_wp2
            go_region
            go_wp2
            go_ret
            exact ⟨rfl, HBD.out⟩
        · have hrf := HF.out (fun e => hx (congrArg (fun p : P3 => p.1) e))
          subst hrf
          clear HN HF HE HB
          go_wp2
          go_region
          go_wp2
          go_ret
          exact ⟨rfl, HBD.out⟩
      · obtain rfl : k = n := by omega
        have hrt := HR.out.2 ⟨rfl, HE.out⟩
        subst hrt
        go_wp2
        go_ret
        exact ⟨rfl, HB.out⟩
  · obtain rfl : r = false := by
      cases r
      · rfl
      · exact absurd (hr.1 rfl).1 hnm
    have hne : ¬ (n : Int) = (m : Int) := by omega
    clear hp hq hr
    go_wp2
    go_ret
    exact ⟨rfl, Below.refl _ _⟩
theorem impl_calls {c d : Nat} (A B : Option Addr) (n m : Nat) (f h : Nat → P3) (r : Bool) (w : World) (hn : n ≤ 1048576) (hm : m ≤ 1048576) (hr : r = true ↔ Eq2 n m f h) (hp : PtsAt w A n f) (hq : PtsAt w B m h) :
    Calls Try.prog 86 #[.slice A n c, .slice B m d] w fun e w' => e = .returned (.bool r) ∧ Below w.heap.size w w' := by
  have HC := Lib.hid (lib_calls (c := c) (d := d) A B n m f h r w hn hm hr hp hq)
  clear hr hp hq
  go_enter Try.func86, Try.ntmps86
  go_wp2_with fail
  refine HC.out.mono ?_
  rintro e w1 ⟨rfl, hb⟩
  go_wp2
  go_ret
  exact ⟨rfl, hb⟩
end Go.Proofs.Ytkcfghbkcgommaa.wSameFeats
