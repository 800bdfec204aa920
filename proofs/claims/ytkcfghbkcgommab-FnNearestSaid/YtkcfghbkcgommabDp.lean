/-
  Proved: within the band the table has costs of paths, and each of them comes from one of the three places ahead of it (plain lemmas for the path that is traced back); the program's rows of least costs, and that within the band they are the document's table (plain lemmas).
  Conditions: those of each theorem.
-/
import Derived.Test.YtkcfghbkcgommabTabD
namespace Go.Proofs.Ytkcfghbkcgommab.tab
open Go.ChangeShapes Go.WideShapes Go.ChangeAt Go.RowKit Go.Joins
open Go.Proofs.Ytkcfghbkcgommab.core Go.Proofs.Ytkcfghbkcgommab.rown Go.Proofs.Ytkcfghbkcgommab.stk Go.Proofs.Ytkcfghbkcgommab.boxed Go.Proofs.Ytkcfghbkcgommab.ft Go.Proofs.Ytkcfghbkcgommab.seq
set_option linter.unusedVariables false
set_option linter.unusedSimpArgs false
theorem cellT_near {fa fb : Nat → P3} {band : Int} {i j : Nat} {b B : Int} (hi : inF (fa i) = true) (hj : inF (fb j) = true) (hb : b ≤ B) (hB : B < far) (hd : absv ((i : Int) - (j : Int)) ≤ band) : cellT fa fb band i j b ≤ B + 574 := by
  have h := cst_in hi hj
  rw [cellT_sum (by omega) (by omega)]
  omega
theorem absv_of {n : Int} (h : 0 ≤ n) : absv n = n := by unfold absv; rw [if_neg (by omega)]
theorem absv_neg {n : Int} (h : n ≤ 0) : absv n = -n := by unfold absv; split <;> omega
/-- Within the band each place is reached. -/
theorem tab_near {fa fb : Nat → P3} {band : Int} {n m : Nat} (hn : n ≤ 72) (hm : m ≤ 72) (ha : ∀ i, i < n → inF (fa i) = true) (hb : ∀ j, j < m → inF (fb j) = true) : ∀ i j, i < n → j < m → absv ((i : Int) - (j : Int)) ≤ band → tab fa fb band i j ≤ 574 * ((i : Int) + (j : Int) + 1) := by
  have hf : far = 1000000000 := rfl
  intro i
  induction i with
  | zero =>
    intro j
    induction j with
    | zero => intro h1 h2 hd; have := cellT_near (b := 0) (B := 0) (ha 0 h1) (hb 0 h2) (by omega) (by omega) hd; rw [tab_nn]; omega
    | succ j ih =>
      intro h1 h2 hd
      have hd' : absv (((0 : Nat) : Int) - (j : Int)) ≤ band := by
        rw [absv_neg (by omega)] at hd ⊢; omega
      have h := ih h1 (by omega) hd'
      rw [tab_ny (by omega), Nat.add_sub_cancel]
      have := cellT_near (b := min far (tab fa fb band 0 j)) (B := 574 * (((0 : Nat) : Int) + (j : Int) + 1)) (ha 0 h1) (hb _ h2) (by omega) (by omega) hd
      push_cast at this ⊢
      omega
  | succ i ihi =>
    intro j
    cases j with
    | zero =>
      intro h1 h2 hd
      have hd' : absv ((i : Int) - ((0 : Nat) : Int)) ≤ band := by
        rw [absv_of (by omega)] at hd ⊢; omega
      have h := ihi 0 (by omega) h2 hd'
      rw [tab_yn (by omega), Nat.add_sub_cancel]
      have := cellT_near (b := min far (tab fa fb band i 0)) (B := 574 * ((i : Int) + ((0 : Nat) : Int) + 1)) (ha _ h1) (hb _ h2) (by omega) (by omega) hd
      push_cast at this ⊢
      omega
    | succ j =>
      intro h1 h2 hd
      have hd' : absv ((i : Int) - (j : Int)) ≤ band := by
        rw [show ((i + 1 : Nat) : Int) - ((j + 1 : Nat) : Int) = (i : Int) - (j : Int) by push_cast; omega] at hd; exact hd
      have h := ihi j (by omega) (by omega) hd'
      rw [tab_yy (by omega) (by omega), Nat.add_sub_cancel, Nat.add_sub_cancel]
      have := cellT_near (b := min (min (min far (tab fa fb band i j)) (tab fa fb band i (j + 1))) (tab fa fb band (i + 1) j)) (B := 574 * ((i : Int) + (j : Int) + 1)) (ha _ h1) (hb _ h2) (by omega) (by omega) hd
      push_cast at this ⊢
      omega
theorem cellT_inv {fa fb : Nat → P3} {band : Int} {i j : Nat} {b : Int} (h : cellT fa fb band i j b ≠ far) : b ≠ far ∧ cellT fa fb band i j b - cst (fa i) (fb j) = b := by
  by_cases h1 : b = far ∨ band < absv ((i : Int) - (j : Int))
  · exact absurd (cellT_far h1) h
  · have h2 : b ≠ far := fun e => h1 (.inl e)
    have h3 : ¬ band < absv ((i : Int) - (j : Int)) := fun e => h1 (.inr e)
    rw [cellT_sum h2 h3]
    exact ⟨h2, by omega⟩
/-- The cost ahead of a place on its path. -/
def bef (fa fb : Nat → P3) (band : Int) (i j : Nat) : Int := tab fa fb band i j - cst (fa i) (fb j)
/-- A cost comes from one of the three places ahead of it. -/
theorem bef_of {fa fb : Nat → P3} {band : Int} {i j : Nat} (hij : i ≠ 0 ∨ j ≠ 0) (hf : tab fa fb band i j ≠ far) :
    bef fa fb band i j ≠ far ∧ ((i ≠ 0 ∧ j ≠ 0 ∧ tab fa fb band (i - 1) (j - 1) = bef fa fb band i j) ∨ (i ≠ 0 ∧ tab fa fb band (i - 1) j = bef fa fb band i j) ∨ (j ≠ 0 ∧ tab fa fb band i (j - 1) = bef fa fb band i j)) := by
  unfold bef
  by_cases hi : i = 0
  · by_cases hj : j = 0
    · exact absurd hij (by omega)
    · subst hi
      rw [tab_ny hj] at hf ⊢
      obtain ⟨h1, h2⟩ := cellT_inv hf
      rw [h2]
      exact ⟨h1, .inr (.inr ⟨hj, by omega⟩)⟩
  · by_cases hj : j = 0
    · subst hj
      rw [tab_yn hi] at hf ⊢
      obtain ⟨h1, h2⟩ := cellT_inv hf
      rw [h2]
      exact ⟨h1, .inr (.inl ⟨hi, by omega⟩)⟩
    · rw [tab_yy hi hj] at hf ⊢
      obtain ⟨h1, h2⟩ := cellT_inv hf
      rw [h2]
      refine ⟨h1, ?_⟩
      by_cases e1 : tab fa fb band (i - 1) (j - 1) = min (min (min far (tab fa fb band (i - 1) (j - 1))) (tab fa fb band (i - 1) j)) (tab fa fb band i (j - 1))
      · exact .inl ⟨hi, hj, e1⟩
      · by_cases e2 : tab fa fb band (i - 1) j = min (min (min far (tab fa fb band (i - 1) (j - 1))) (tab fa fb band (i - 1) j)) (tab fa fb band i (j - 1))
        · exact .inr (.inl ⟨hi, e2⟩)
        · exact .inr (.inr ⟨hj, by omega⟩)
/-- The place ahead of i and j on the path. -/
def prv (fa fb : Nat → P3) (band : Int) (p : Nat × Nat) : Nat × Nat :=
  if p.1 ≠ 0 ∧ p.2 ≠ 0 ∧ tab fa fb band (p.1 - 1) (p.2 - 1) = bef fa fb band p.1 p.2 then (p.1 - 1, p.2 - 1)
  else if p.1 ≠ 0 ∧ tab fa fb band (p.1 - 1) p.2 = bef fa fb band p.1 p.2 then (p.1 - 1, p.2) else (p.1, p.2 - 1)
theorem prv_ok {fa fb : Nat → P3} {band : Int} {p : Nat × Nat} (hp : p.1 ≠ 0 ∨ p.2 ≠ 0) (hf : tab fa fb band p.1 p.2 ≠ far) :
    tab fa fb band (prv fa fb band p).1 (prv fa fb band p).2 ≠ far ∧ (prv fa fb band p).1 ≤ p.1 ∧ (prv fa fb band p).2 ≤ p.2 ∧ (prv fa fb band p).1 + (prv fa fb band p).2 < p.1 + p.2 := by
  obtain ⟨h1, h2⟩ := bef_of hp hf
  unfold prv
  split
  · rename_i h; obtain ⟨a, b, c⟩ := h
    simp only
    exact ⟨by rw [c]; exact h1, by omega, by omega, by omega⟩
  · rename_i hn
    split
    · rename_i h; obtain ⟨a, c⟩ := h
      simp only
      exact ⟨by rw [c]; exact h1, by omega, by omega, by omega⟩
    · rename_i hn2
      rcases h2 with h | h | ⟨a, c⟩
      · exact absurd h hn
      · exact absurd h hn2
      · simp only
        exact ⟨by rw [c]; exact h1, by omega, by omega, by omega⟩
/-- The places of the path, from its end backwards. -/
def pos (fa fb : Nat → P3) (band : Int) (p : Nat × Nat) : Nat → Nat × Nat
  | 0 => p
  | s + 1 => prv fa fb band (pos fa fb band p s)
end Go.Proofs.Ytkcfghbkcgommab.tab

namespace Go.Proofs.Ytkcfghbkcgommab.dp

open Go.ChangeShapes Go.WideShapes Go.ChangeAt Go.RowKit Go.Joins

open Go.Proofs.Ytkcfghbkcgommab.core Go.Proofs.Ytkcfghbkcgommab.rown Go.Proofs.Ytkcfghbkcgommab.stk Go.Proofs.Ytkcfghbkcgommab.boxed Go.Proofs.Ytkcfghbkcgommab.ft Go.Proofs.Ytkcfghbkcgommab.seq Go.Proofs.Ytkcfghbkcgommab.tab
set_option linter.unusedVariables false
set_option linter.unusedSimpArgs false
/-- A cost where no path leads. -/
def bar : Int := 1099511627776
/-- The row behind the row r. -/
def nxt (fa fb : Nat → P3) (band : Int) (i : Nat) (r : Nat → Int) : Nat → Int
  | 0 => bar
  | j + 1 => if absv ((i : Int) - (j : Int)) ≤ band then cst (fa i) (fb j) + min (min (r j) (r (j + 1))) (nxt fa fb band i r j) else bar
def st0 (q : Nat) : Int := if q = 0 then 0 else bar
def lrow (fa fb : Nat → P3) (band : Int) (r0 : Nat → Int) : Nat → Nat → Int
  | 0 => r0
  | i + 1 => nxt fa fb band i (lrow fa fb band r0 i)
theorem nxt_in {fa fb : Nat → P3} {band : Int} {i m : Nat} {r : Nat → Int} {B : Int} (hB : bar ≤ B) (ha : inF (fa i) = true) (hb : ∀ j, j < m → inF (fb j) = true) (hr : ∀ q, q ≤ m → 0 ≤ r q ∧ r q ≤ B) :
    ∀ q, q ≤ m → 0 ≤ nxt fa fb band i r q ∧ nxt fa fb band i r q ≤ B + 574 := by
  have hbar : bar = 1099511627776 := rfl
  intro q
  induction q with
  | zero => intro _; unfold nxt; omega
  | succ j ih =>
    intro hq
    have h1 := ih (by omega)
    have h2 := hr j (by omega)
    have h3 := hr (j + 1) hq
    have h4 := cst_in ha (hb j (by omega))
    unfold nxt
    split <;> omega
theorem lrow_in {fa fb : Nat → P3} {band : Int} {n m : Nat} {r0 : Nat → Int} (ha : ∀ i, i < n → inF (fa i) = true) (hb : ∀ j, j < m → inF (fb j) = true) (hr : ∀ q, q ≤ m → 0 ≤ r0 q ∧ r0 q ≤ bar) :
    ∀ i, i ≤ n → ∀ q, q ≤ m → 0 ≤ lrow fa fb band r0 i q ∧ lrow fa fb band r0 i q ≤ bar + 574 * (i : Int) := by
  intro i
  induction i with
  | zero => intro _ q hq; have := hr q hq; unfold lrow; omega
  | succ i ih =>
    intro hi q hq
    have := nxt_in (band := band) (i := i) (m := m) (r := lrow fa fb band r0 i) (B := bar + 574 * (i : Int)) (by omega) (ha i (by omega)) hb (ih (by omega)) q hq
    unfold lrow
    push_cast
    omega
theorem st0_in (q : Nat) : 0 ≤ st0 q ∧ st0 q ≤ bar := by
  have hbar : bar = 1099511627776 := rfl
  unfold st0; split <;> omega
/-- Within the band the program's rows are the document's table. -/
theorem lrow_tab {fa fb : Nat → P3} {band : Int} {n m : Nat} (h0 : 0 ≤ band) (hn : n ≤ 72) (hm : m ≤ 72) (ha : ∀ i, i < n → inF (fa i) = true) (hb : ∀ j, j < m → inF (fb j) = true) : ∀ i j, i < n → j < m →
    (absv ((i : Int) - (j : Int)) ≤ band ∧ lrow fa fb band st0 (i + 1) (j + 1) = tab fa fb band i j) ∨ (¬ absv ((i : Int) - (j : Int)) ≤ band ∧ lrow fa fb band st0 (i + 1) (j + 1) = bar ∧ tab fa fb band i j = far) := by
  have hbar : bar = 1099511627776 := rfl
  have hf : far = 1000000000 := rfl
  have near := tab_near (band := band) hn hm ha hb
  have s0 : st0 0 = 0 := rfl
  have s1 : ∀ q, st0 (q + 1) = bar := fun q => by unfold st0; rw [if_neg (by omega)]
  intro i
  induction i with
  | zero =>
    intro j
    induction j with
    | zero =>
      intro h1 h2
      have hd : absv (((0 : Nat) : Int) - ((0 : Nat) : Int)) ≤ band := by rw [absv_of (by omega)]; omega
      refine .inl ⟨hd, ?_⟩
      show nxt fa fb band 0 st0 1 = _
      rw [tab_nn, cellT_sum (by omega) (by omega)]
      unfold nxt
      rw [if_pos hd, s0, s1]
      show cst (fa 0) (fb 0) + min (min 0 bar) bar = 0 + cst (fa 0) (fb 0)
      omega
    | succ j ih =>
      intro h1 h2
      rw [tab_ny (by omega), Nat.add_sub_cancel]
      show _ ∧ nxt fa fb band 0 st0 (j + 1 + 1) = _ ∨ _ ∧ nxt fa fb band 0 st0 (j + 1 + 1) = _ ∧ _
      by_cases hd : absv (((0 : Nat) : Int) - ((j + 1 : Nat) : Int)) ≤ band
      · have hd' : absv (((0 : Nat) : Int) - (j : Int)) ≤ band := by
          rw [absv_neg (by omega)] at hd ⊢; omega
        have hn1 := near 0 j h1 (by omega) hd'
        rcases ih h1 (by omega) with ⟨-, e⟩ | ⟨hx, -, -⟩
        · refine .inl ⟨hd, ?_⟩
          have e' : nxt fa fb band 0 st0 (j + 1) = tab fa fb band 0 j := e
          rw [cellT_sum (by omega) (by omega), nxt, if_pos hd, s1, s1, e']
          omega
        · exact absurd hd' hx
      · exact .inr ⟨hd, by rw [nxt, if_neg hd], cellT_far (.inr (by omega))⟩
  | succ i ihi =>
    intro j
    induction j with
    | zero =>
      intro h1 h2
      rw [tab_yn (by omega), Nat.add_sub_cancel]
      show _ ∧ nxt fa fb band (i + 1) (lrow fa fb band st0 (i + 1)) (0 + 1) = _ ∨ _ ∧ nxt fa fb band (i + 1) (lrow fa fb band st0 (i + 1)) (0 + 1) = _ ∧ _
      by_cases hd : absv (((i + 1 : Nat) : Int) - ((0 : Nat) : Int)) ≤ band
      · have hd' : absv ((i : Int) - ((0 : Nat) : Int)) ≤ band := by
          rw [absv_of (by omega)] at hd ⊢; omega
        have hn1 := near i 0 (by omega) h2 hd'
        rcases ihi 0 (by omega) h2 with ⟨-, e⟩ | ⟨hx, -, -⟩
        · refine .inl ⟨hd, ?_⟩
          have e0 : lrow fa fb band st0 (i + 1) 0 = bar := rfl
          have e1 : nxt fa fb band (i + 1) (lrow fa fb band st0 (i + 1)) 0 = bar := rfl
          rw [cellT_sum (by omega) (by omega), nxt, if_pos hd, e0, e1, e]
          omega
        · exact absurd hd' hx
      · exact .inr ⟨hd, by rw [nxt, if_neg hd], cellT_far (.inr (by omega))⟩
    | succ j ih =>
      intro h1 h2
      rw [tab_yy (by omega) (by omega), Nat.add_sub_cancel, Nat.add_sub_cancel]
      show _ ∧ nxt fa fb band (i + 1) (lrow fa fb band st0 (i + 1)) (j + 1 + 1) = _ ∨ _ ∧ nxt fa fb band (i + 1) (lrow fa fb band st0 (i + 1)) (j + 1 + 1) = _ ∧ _
      by_cases hd : absv (((i + 1 : Nat) : Int) - ((j + 1 : Nat) : Int)) ≤ band
      · have hd' : absv ((i : Int) - (j : Int)) ≤ band := by
          rw [show ((i + 1 : Nat) : Int) - ((j + 1 : Nat) : Int) = (i : Int) - (j : Int) by push_cast; omega] at hd; exact hd
        have hn1 := near i j (by omega) (by omega) hd'
        rcases ihi j (by omega) (by omega) with ⟨-, e⟩ | ⟨hx, -, -⟩
        · refine .inl ⟨hd, ?_⟩
          have hu := ihi (j + 1) (by omega) h2
          have hl := ih h1 (by omega)
          have hl' : (absv (((i + 1 : Nat) : Int) - (j : Int)) ≤ band ∧ nxt fa fb band (i + 1) (lrow fa fb band st0 (i + 1)) (j + 1) = tab fa fb band (i + 1) j) ∨ (¬ absv (((i + 1 : Nat) : Int) - (j : Int)) ≤ band ∧ nxt fa fb band (i + 1) (lrow fa fb band st0 (i + 1)) (j + 1) = bar ∧ tab fa fb band (i + 1) j = far) := hl
          have hnu := near i (j + 1) (by omega) h2
          have hnl := near (i + 1) j h1 (by omega)
          rw [cellT_sum (by omega) (by omega), nxt, if_pos hd, e]
          push_cast at hnl hnu
          rcases hu with ⟨u1, u2⟩ | ⟨-, u2, u3⟩ <;> rcases hl' with ⟨l1, l2⟩ | ⟨-, l2, l3⟩ <;> omega
        · exact absurd hd' hx
      · exact .inr ⟨hd, by rw [nxt, if_neg hd], cellT_far (.inr (by omega))⟩
/-- The last one of the program's last row is the least cost. -/
theorem lrow_least {fa fb : Nat → P3} {band : Int} {n m : Nat} (h0 : 0 ≤ band) (hq : okQ n fa = true) (hp : okQ m fb = true) (hd : absv ((n : Int) - (m : Int)) ≤ band) : lrow fa fb band st0 n m = tab fa fb band (n - 1) (m - 1) := by
  obtain ⟨a1, a2, a3⟩ := okQ_of hq
  obtain ⟨b1, b2, b3⟩ := okQ_of hp
  have hd' : absv (((n - 1 : Nat) : Int) - ((m - 1 : Nat) : Int)) ≤ band := by
    rw [show ((n - 1 : Nat) : Int) - ((m - 1 : Nat) : Int) = (n : Int) - (m : Int) by omega]; exact hd
  rcases lrow_tab h0 a2 b2 a3 b3 (n - 1) (m - 1) (by omega) (by omega) with ⟨-, e⟩ | ⟨hx, -, -⟩
  · rw [show n - 1 + 1 = n by omega, show m - 1 + 1 = m by omega] at e
    exact e
  · exact absurd hd' hx
end Go.Proofs.Ytkcfghbkcgommab.dp
