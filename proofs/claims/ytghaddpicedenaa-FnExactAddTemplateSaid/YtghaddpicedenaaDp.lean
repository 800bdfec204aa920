/-
  Proved: the program's rows of least costs, and that within the band they are the document's table (plain lemmas).
  Conditions: both lists are sequences.
-/
import Derived.Test.YtghaddpicedenaaTrcD
namespace Go.Proofs.Ytghaddpicedenaa.dp
open Go.ChangeShapes Go.WideShapes Go.ChangeAt Go.RowKit Go.Joins
open Go.Proofs.Ytghaddpicedenaa.core Go.Proofs.Ytghaddpicedenaa.rown Go.Proofs.Ytghaddpicedenaa.stk Go.Proofs.Ytghaddpicedenaa.boxed Go.Proofs.Ytghaddpicedenaa.ft Go.Proofs.Ytghaddpicedenaa.seq Go.Proofs.Ytghaddpicedenaa.tab
set_option linter.unusedVariables false
set_option linter.unusedSimpArgs false
/-- A cost where no path leads. -/
def bar : Int := 1099511627776
/-- The row behind the row r. -/
def nxt (fa fb : Nat → P3) (band : Int) (i : Nat) (r : Nat → Int) : Nat → Int
  | 0 => bar
  | j + 1 => if absv ((i : Int) - (j : Int)) ≤ band then cst (fa i) (fb j) + min (min (r j) (r (j + 1))) (nxt fa fb band i r j) else bar
def st0 (q : Nat) : Int := if q = 0 then 0 else bar
def lrow (fa fb : Nat → P3) (band : Int) (r0 : Nat → Int) : Nat → Nat → Int
  | 0 => r0
  | i + 1 => nxt fa fb band i (lrow fa fb band r0 i)
theorem nxt_in {fa fb : Nat → P3} {band : Int} {i m : Nat} {r : Nat → Int} {B : Int} (hB : bar ≤ B) (ha : inF (fa i) = true) (hb : ∀ j, j < m → inF (fb j) = true) (hr : ∀ q, q ≤ m → 0 ≤ r q ∧ r q ≤ B) :
    ∀ q, q ≤ m → 0 ≤ nxt fa fb band i r q ∧ nxt fa fb band i r q ≤ B + 574 := by
  have hbar : bar = 1099511627776 := rfl
  intro q
  induction q with
  | zero => intro _; unfold nxt; omega
  | succ j ih =>
    intro hq
    have h1 := ih (by omega)
    have h2 := hr j (by omega)
    have h3 := hr (j + 1) hq
    have h4 := cst_in ha (hb j (by omega))
    unfold nxt
    split <;> omega
theorem lrow_in {fa fb : Nat → P3} {band : Int} {n m : Nat} {r0 : Nat → Int} (ha : ∀ i, i < n → inF (fa i) = true) (hb : ∀ j, j < m → inF (fb j) = true) (hr : ∀ q, q ≤ m → 0 ≤ r0 q ∧ r0 q ≤ bar) :
    ∀ i, i ≤ n → ∀ q, q ≤ m → 0 ≤ lrow fa fb band r0 i q ∧ lrow fa fb band r0 i q ≤ bar + 574 * (i : Int) := by
  intro i
  induction i with
  | zero => intro _ q hq; have := hr q hq; unfold lrow; omega
  | succ i ih =>
    intro hi q hq
    have := nxt_in (band := band) (i := i) (m := m) (r := lrow fa fb band r0 i) (B := bar + 574 * (i : Int)) (by omega) (ha i (by omega)) hb (ih (by omega)) q hq
    unfold lrow
    push_cast
    omega
theorem st0_in (q : Nat) : 0 ≤ st0 q ∧ st0 q ≤ bar := by
  have hbar : bar = 1099511627776 := rfl
  unfold st0; split <;> omega
/-- Within the band the program's rows are the document's table. -/
theorem lrow_tab {fa fb : Nat → P3} {band : Int} {n m : Nat} (h0 : 0 ≤ band) (hn : n ≤ 72) (hm : m ≤ 72) (ha : ∀ i, i < n → inF (fa i) = true) (hb : ∀ j, j < m → inF (fb j) = true) : ∀ i j, i < n → j < m →
    (absv ((i : Int) - (j : Int)) ≤ band ∧ lrow fa fb band st0 (i + 1) (j + 1) = tab fa fb band i j) ∨ (¬ absv ((i : Int) - (j : Int)) ≤ band ∧ lrow fa fb band st0 (i + 1) (j + 1) = bar ∧ tab fa fb band i j = far) := by
  have hbar : bar = 1099511627776 := rfl
  have hf : far = 1000000000 := rfl
  have near := tab_near (band := band) hn hm ha hb
  have s0 : st0 0 = 0 := rfl
  have s1 : ∀ q, st0 (q + 1) = bar := fun q => by unfold st0; rw [if_neg (by omega)]
  intro i
  induction i with
  | zero =>
    intro j
    induction j with
    | zero =>
      intro h1 h2
      have hd : absv (((0 : Nat) : Int) - ((0 : Nat) : Int)) ≤ band := by rw [absv_of (by omega)]; omega
      refine .inl ⟨hd, ?_⟩
      show nxt fa fb band 0 st0 1 = _
      rw [tab_nn, cellT_sum (by omega) (by omega)]
      unfold nxt
      rw [if_pos hd, s0, s1]
      show cst (fa 0) (fb 0) + min (min 0 bar) bar = 0 + cst (fa 0) (fb 0)
      omega
    | succ j ih =>
      intro h1 h2
      rw [tab_ny (by omega), Nat.add_sub_cancel]
      show _ ∧ nxt fa fb band 0 st0 (j + 1 + 1) = _ ∨ _ ∧ nxt fa fb band 0 st0 (j + 1 + 1) = _ ∧ _
      by_cases hd : absv (((0 : Nat) : Int) - ((j + 1 : Nat) : Int)) ≤ band
      · have hd' : absv (((0 : Nat) : Int) - (j : Int)) ≤ band := by
          rw [absv_neg (by omega)] at hd ⊢; omega
        have hn1 := near 0 j h1 (by omega) hd'
        rcases ih h1 (by omega) with ⟨-, e⟩ | ⟨hx, -, -⟩
        · refine .inl ⟨hd, ?_⟩
          have e' : nxt fa fb band 0 st0 (j + 1) = tab fa fb band 0 j := e
          rw [cellT_sum (by omega) (by omega), nxt, if_pos hd, s1, s1, e']
          omega
        · exact absurd hd' hx
      · exact .inr ⟨hd, by rw [nxt, if_neg hd], cellT_far (.inr (by omega))⟩
  | succ i ihi =>
    intro j
    induction j with
    | zero =>
      intro h1 h2
      rw [tab_yn (by omega), Nat.add_sub_cancel]
      show _ ∧ nxt fa fb band (i + 1) (lrow fa fb band st0 (i + 1)) (0 + 1) = _ ∨ _ ∧ nxt fa fb band (i + 1) (lrow fa fb band st0 (i + 1)) (0 + 1) = _ ∧ _
      by_cases hd : absv (((i + 1 : Nat) : Int) - ((0 : Nat) : Int)) ≤ band
      · have hd' : absv ((i : Int) - ((0 : Nat) : Int)) ≤ band := by
          rw [absv_of (by omega)] at hd ⊢; omega
        have hn1 := near i 0 (by omega) h2 hd'
        rcases ihi 0 (by omega) h2 with ⟨-, e⟩ | ⟨hx, -, -⟩
        · refine .inl ⟨hd, ?_⟩
          have e0 : lrow fa fb band st0 (i + 1) 0 = bar := rfl
          have e1 : nxt fa fb band (i + 1) (lrow fa fb band st0 (i + 1)) 0 = bar := rfl
          rw [cellT_sum (by omega) (by omega), nxt, if_pos hd, e0, e1, e]
          omega
        · exact absurd hd' hx
      · exact .inr ⟨hd, by rw [nxt, if_neg hd], cellT_far (.inr (by omega))⟩
    | succ j ih =>
      intro h1 h2
      rw [tab_yy (by omega) (by omega), Nat.add_sub_cancel, Nat.add_sub_cancel]
      show _ ∧ nxt fa fb band (i + 1) (lrow fa fb band st0 (i + 1)) (j + 1 + 1) = _ ∨ _ ∧ nxt fa fb band (i + 1) (lrow fa fb band st0 (i + 1)) (j + 1 + 1) = _ ∧ _
      by_cases hd : absv (((i + 1 : Nat) : Int) - ((j + 1 : Nat) : Int)) ≤ band
      · have hd' : absv ((i : Int) - (j : Int)) ≤ band := by
          rw [show ((i + 1 : Nat) : Int) - ((j + 1 : Nat) : Int) = (i : Int) - (j : Int) by push_cast; omega] at hd; exact hd
        have hn1 := near i j (by omega) (by omega) hd'
        rcases ihi j (by omega) (by omega) with ⟨-, e⟩ | ⟨hx, -, -⟩
        · refine .inl ⟨hd, ?_⟩
          have hu := ihi (j + 1) (by omega) h2
          have hl := ih h1 (by omega)
          have hl' : (absv (((i + 1 : Nat) : Int) - (j : Int)) ≤ band ∧ nxt fa fb band (i + 1) (lrow fa fb band st0 (i + 1)) (j + 1) = tab fa fb band (i + 1) j) ∨ (¬ absv (((i + 1 : Nat) : Int) - (j : Int)) ≤ band ∧ nxt fa fb band (i + 1) (lrow fa fb band st0 (i + 1)) (j + 1) = bar ∧ tab fa fb band (i + 1) j = far) := hl
          have hnu := near i (j + 1) (by omega) h2
          have hnl := near (i + 1) j h1 (by omega)
          rw [cellT_sum (by omega) (by omega), nxt, if_pos hd, e]
          push_cast at hnl hnu
          rcases hu with ⟨u1, u2⟩ | ⟨-, u2, u3⟩ <;> rcases hl' with ⟨l1, l2⟩ | ⟨-, l2, l3⟩ <;> omega
        · exact absurd hd' hx
      · exact .inr ⟨hd, by rw [nxt, if_neg hd], cellT_far (.inr (by omega))⟩
/-- The last one of the program's last row is the least cost. -/
theorem lrow_least {fa fb : Nat → P3} {band : Int} {n m : Nat} (h0 : 0 ≤ band) (hq : okQ n fa = true) (hp : okQ m fb = true) (hd : absv ((n : Int) - (m : Int)) ≤ band) : lrow fa fb band st0 n m = tab fa fb band (n - 1) (m - 1) := by
  obtain ⟨a1, a2, a3⟩ := okQ_of hq
  obtain ⟨b1, b2, b3⟩ := okQ_of hp
  have hd' : absv (((n - 1 : Nat) : Int) - ((m - 1 : Nat) : Int)) ≤ band := by
    rw [show ((n - 1 : Nat) : Int) - ((m - 1 : Nat) : Int) = (n : Int) - (m : Int) by omega]; exact hd
  rcases lrow_tab h0 a2 b2 a3 b3 (n - 1) (m - 1) (by omega) (by omega) with ⟨-, e⟩ | ⟨hx, -, -⟩
  · rw [show n - 1 + 1 = n by omega, show m - 1 + 1 = m by omega] at e
    exact e
  · exact absurd hd' hx
end Go.Proofs.Ytghaddpicedenaa.dp
