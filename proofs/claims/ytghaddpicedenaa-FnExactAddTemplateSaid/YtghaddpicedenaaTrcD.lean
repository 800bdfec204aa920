/-
  Proved: within the band the table has costs of paths, and each of them comes from one of the three places ahead of it (plain lemmas for the path that is traced back).
  Conditions: both lists are sequences.
-/
import Derived.Test.YtghaddpicedenaaTabD
namespace Go.Proofs.Ytghaddpicedenaa.tab
open Go.ChangeShapes Go.WideShapes Go.ChangeAt Go.RowKit Go.Joins
open Go.Proofs.Ytghaddpicedenaa.core Go.Proofs.Ytghaddpicedenaa.rown Go.Proofs.Ytghaddpicedenaa.stk Go.Proofs.Ytghaddpicedenaa.boxed Go.Proofs.Ytghaddpicedenaa.ft Go.Proofs.Ytghaddpicedenaa.seq
set_option linter.unusedVariables false
set_option linter.unusedSimpArgs false
theorem cellT_near {fa fb : Nat → P3} {band : Int} {i j : Nat} {b B : Int} (hi : inF (fa i) = true) (hj : inF (fb j) = true) (hb : b ≤ B) (hB : B < far) (hd : absv ((i : Int) - (j : Int)) ≤ band) : cellT fa fb band i j b ≤ B + 574 := by
  have h := cst_in hi hj
  rw [cellT_sum (by omega) (by omega)]
  omega
theorem absv_of {n : Int} (h : 0 ≤ n) : absv n = n := by unfold absv; rw [if_neg (by omega)]
theorem absv_neg {n : Int} (h : n ≤ 0) : absv n = -n := by unfold absv; split <;> omega
/-- Within the band each place is reached. -/
theorem tab_near {fa fb : Nat → P3} {band : Int} {n m : Nat} (hn : n ≤ 72) (hm : m ≤ 72) (ha : ∀ i, i < n → inF (fa i) = true) (hb : ∀ j, j < m → inF (fb j) = true) : ∀ i j, i < n → j < m → absv ((i : Int) - (j : Int)) ≤ band → tab fa fb band i j ≤ 574 * ((i : Int) + (j : Int) + 1) := by
  have hf : far = 1000000000 := rfl
  intro i
  induction i with
  | zero =>
    intro j
    induction j with
    | zero => intro h1 h2 hd; have := cellT_near (b := 0) (B := 0) (ha 0 h1) (hb 0 h2) (by omega) (by omega) hd; rw [tab_nn]; omega
    | succ j ih =>
      intro h1 h2 hd
      have hd' : absv (((0 : Nat) : Int) - (j : Int)) ≤ band := by
        rw [absv_neg (by omega)] at hd ⊢; omega
      have h := ih h1 (by omega) hd'
      rw [tab_ny (by omega), Nat.add_sub_cancel]
      have := cellT_near (b := min far (tab fa fb band 0 j)) (B := 574 * (((0 : Nat) : Int) + (j : Int) + 1)) (ha 0 h1) (hb _ h2) (by omega) (by omega) hd
      push_cast at this ⊢
      omega
  | succ i ihi =>
    intro j
    cases j with
    | zero =>
      intro h1 h2 hd
      have hd' : absv ((i : Int) - ((0 : Nat) : Int)) ≤ band := by
        rw [absv_of (by omega)] at hd ⊢; omega
      have h := ihi 0 (by omega) h2 hd'
      rw [tab_yn (by omega), Nat.add_sub_cancel]
      have := cellT_near (b := min far (tab fa fb band i 0)) (B := 574 * ((i : Int) + ((0 : Nat) : Int) + 1)) (ha _ h1) (hb _ h2) (by omega) (by omega) hd
      push_cast at this ⊢
      omega
    | succ j =>
      intro h1 h2 hd
      have hd' : absv ((i : Int) - (j : Int)) ≤ band := by
        rw [show ((i + 1 : Nat) : Int) - ((j + 1 : Nat) : Int) = (i : Int) - (j : Int) by push_cast; omega] at hd; exact hd
      have h := ihi j (by omega) (by omega) hd'
      rw [tab_yy (by omega) (by omega), Nat.add_sub_cancel, Nat.add_sub_cancel]
      have := cellT_near (b := min (min (min far (tab fa fb band i j)) (tab fa fb band i (j + 1))) (tab fa fb band (i + 1) j)) (B := 574 * ((i : Int) + (j : Int) + 1)) (ha _ h1) (hb _ h2) (by omega) (by omega) hd
      push_cast at this ⊢
      omega
theorem cellT_inv {fa fb : Nat → P3} {band : Int} {i j : Nat} {b : Int} (h : cellT fa fb band i j b ≠ far) : b ≠ far ∧ cellT fa fb band i j b - cst (fa i) (fb j) = b := by
  by_cases h1 : b = far ∨ band < absv ((i : Int) - (j : Int))
  · exact absurd (cellT_far h1) h
  · have h2 : b ≠ far := fun e => h1 (.inl e)
    have h3 : ¬ band < absv ((i : Int) - (j : Int)) := fun e => h1 (.inr e)
    rw [cellT_sum h2 h3]
    exact ⟨h2, by omega⟩
/-- The cost ahead of a place on its path. -/
def bef (fa fb : Nat → P3) (band : Int) (i j : Nat) : Int := tab fa fb band i j - cst (fa i) (fb j)
/-- A cost comes from one of the three places ahead of it. -/
theorem bef_of {fa fb : Nat → P3} {band : Int} {i j : Nat} (hij : i ≠ 0 ∨ j ≠ 0) (hf : tab fa fb band i j ≠ far) :
    bef fa fb band i j ≠ far ∧ ((i ≠ 0 ∧ j ≠ 0 ∧ tab fa fb band (i - 1) (j - 1) = bef fa fb band i j) ∨ (i ≠ 0 ∧ tab fa fb band (i - 1) j = bef fa fb band i j) ∨ (j ≠ 0 ∧ tab fa fb band i (j - 1) = bef fa fb band i j)) := by
  unfold bef
  by_cases hi : i = 0
  · by_cases hj : j = 0
    · exact absurd hij (by omega)
    · subst hi
      rw [tab_ny hj] at hf ⊢
      obtain ⟨h1, h2⟩ := cellT_inv hf
      rw [h2]
      exact ⟨h1, .inr (.inr ⟨hj, by omega⟩)⟩
  · by_cases hj : j = 0
    · subst hj
      rw [tab_yn hi] at hf ⊢
      obtain ⟨h1, h2⟩ := cellT_inv hf
      rw [h2]
      exact ⟨h1, .inr (.inl ⟨hi, by omega⟩)⟩
    · rw [tab_yy hi hj] at hf ⊢
      obtain ⟨h1, h2⟩ := cellT_inv hf
      rw [h2]
      refine ⟨h1, ?_⟩
      by_cases e1 : tab fa fb band (i - 1) (j - 1) = min (min (min far (tab fa fb band (i - 1) (j - 1))) (tab fa fb band (i - 1) j)) (tab fa fb band i (j - 1))
      · exact .inl ⟨hi, hj, e1⟩
      · by_cases e2 : tab fa fb band (i - 1) j = min (min (min far (tab fa fb band (i - 1) (j - 1))) (tab fa fb band (i - 1) j)) (tab fa fb band i (j - 1))
        · exact .inr (.inl ⟨hi, e2⟩)
        · exact .inr (.inr ⟨hj, by omega⟩)
/-- The place ahead of i and j on the path. -/
def prv (fa fb : Nat → P3) (band : Int) (p : Nat × Nat) : Nat × Nat :=
  if p.1 ≠ 0 ∧ p.2 ≠ 0 ∧ tab fa fb band (p.1 - 1) (p.2 - 1) = bef fa fb band p.1 p.2 then (p.1 - 1, p.2 - 1)
  else if p.1 ≠ 0 ∧ tab fa fb band (p.1 - 1) p.2 = bef fa fb band p.1 p.2 then (p.1 - 1, p.2) else (p.1, p.2 - 1)
theorem prv_ok {fa fb : Nat → P3} {band : Int} {p : Nat × Nat} (hp : p.1 ≠ 0 ∨ p.2 ≠ 0) (hf : tab fa fb band p.1 p.2 ≠ far) :
    tab fa fb band (prv fa fb band p).1 (prv fa fb band p).2 ≠ far ∧ (prv fa fb band p).1 ≤ p.1 ∧ (prv fa fb band p).2 ≤ p.2 ∧ (prv fa fb band p).1 + (prv fa fb band p).2 < p.1 + p.2 := by
  obtain ⟨h1, h2⟩ := bef_of hp hf
  unfold prv
  split
  · rename_i h; obtain ⟨a, b, c⟩ := h
    simp only
    exact ⟨by rw [c]; exact h1, by omega, by omega, by omega⟩
  · rename_i hn
    split
    · rename_i h; obtain ⟨a, c⟩ := h
      simp only
      exact ⟨by rw [c]; exact h1, by omega, by omega, by omega⟩
    · rename_i hn2
      rcases h2 with h | h | ⟨a, c⟩
      · exact absurd h hn
      · exact absurd h hn2
      · simp only
        exact ⟨by rw [c]; exact h1, by omega, by omega, by omega⟩
/-- The places of the path, from its end backwards. -/
def pos (fa fb : Nat → P3) (band : Int) (p : Nat × Nat) : Nat → Nat × Nat
  | 0 => p
  | s + 1 => prv fa fb band (pos fa fb band p s)
end Go.Proofs.Ytghaddpicedenaa.tab
