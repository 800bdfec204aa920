/-
  Proved: where the program goes back to from a pair of its path (plain lemmas); a scope whose label is reached once more and once more.
  Conditions: both lists are sequences.
-/
import Derived.Test.YthpmckfjlbiiiabRowsI
import Derived.Test.YthpmckfjlbiiiabPth
import Derived.Test.YthpmckfjlbiiiabTrcE
import Derived.ScopeJumps
namespace Go.Proofs.Ythpmckfjlbiiiab.dp
open Go.ChangeShapes Go.WideShapes Go.ChangeAt Go.RowKit Go.Joins
open Go.Proofs.Ythpmckfjlbiiiab.core Go.Proofs.Ythpmckfjlbiiiab.rown Go.Proofs.Ythpmckfjlbiiiab.stk Go.Proofs.Ythpmckfjlbiiiab.boxed Go.Proofs.Ythpmckfjlbiiiab.ft Go.Proofs.Ythpmckfjlbiiiab.seq Go.Proofs.Ythpmckfjlbiiiab.tab Go.Proofs.Ythpmckfjlbiiiab.put3
set_option linter.unusedVariables false
set_option linter.unusedSimpArgs false
theorem wp_scope_once {P : Program} {a : Act} {w : World} {Q : Exit → Act → World → Prop} {c rest : Code} (l : Nat) (J : Act → World → Prop) (μ : Act → World → Nat) (hf : findLabel c l = some (Code.skip.seq rest))
    (pass : ∀ a w, J a w → rest.wp P (Exit.jump l (fun a' w' => J a' w' ∧ μ a' w' < μ a w) Q) a w)
    (first : (∀ a w, J a w → rest.wp P (Exit.jump l J Q) a w) → c.wp P (Exit.jump l J Q) a w) : (Code.scope c).wp P Q a w :=
  wp_scope_jumps l J μ hf (first fun a w h => Code.wp_mono (fun e a' w' he => by
    cases e with
    | goto l' => exact ⟨he.1, he.2.1⟩
    | _ => exact he) (pass a w h)) fun a w h => wp_seq (wp_skip (pass a w h))
theorem mk_us {FR : (Nat → Value) → Array Value} {t : Array Value} (h : t = FR (fun k => t.getD k undef)) : ∃ us, t = FR us := ⟨_, h⟩
/-- Where the program goes back to. -/
theorem step_cases {fa fb : Nat → P3} {band : Int} {n m a b : Nat} (h0 : 0 ≤ band) (hn : n ≤ 72) (hm : m ≤ 72) (ha : ∀ i, i < n → inF (fa i) = true) (hb : ∀ j, j < m → inF (fb j) = true) (hi : a < n) (hj : b < m) (hab : ¬ (a = 0 ∧ b = 0)) (hf : tab fa fb band a b ≠ far)
    {D U L M : Int} (hD : D = lrow fa fb band st0 a b) (hU : U = lrow fa fb band st0 a (b + 1)) (hL : L = lrow fa fb band st0 (a + 1) b) (hM : M = min (min D U) L) :
    (D = M ∧ a ≠ 0 ∧ b ≠ 0 ∧ prv fa fb band (a, b) = (a - 1, b - 1)) ∨ (D ≠ M ∧ U = M ∧ a ≠ 0 ∧ prv fa fb band (a, b) = (a - 1, b)) ∨ (D ≠ M ∧ U ≠ M ∧ b ≠ 0 ∧ prv fa fb band (a, b) = (a, b - 1)) := by
  have hbar : bar = 1099511627776 := rfl
  have hfar : far = 1000000000 := rfl
  have hok := near_of hf
  unfold okB at hok
  have near := tab_near (band := band) hn hm ha hb
  have T := lrow_tab h0 hn hm ha hb
  have hab' : tab fa fb band a b = lrow fa fb band st0 (a + 1) (b + 1) := by
    rcases T a b hi hj with ⟨-, e⟩ | ⟨hx, -, -⟩
    · exact e.symm
    · exact absurd hok hx
  have hs : lrow fa fb band st0 (a + 1) (b + 1) = cst (fa a) (fb b) + min (min D U) L := by
    show nxt fa fb band a (lrow fa fb band st0 a) (b + 1) = _
    rw [nxt, if_pos hok, hD, hU, hL]
    rfl
  have hbef : bef fa fb band a b = M := by unfold bef; rw [hab', hs, hM]; omega
  have hn0 := near a b hi hj hok
  have hc := cst_in (ha a hi) (hb b hj)
  have hMs : M < far := by
    have : bef fa fb band a b = tab fa fb band a b - cst (fa a) (fb b) := rfl
    omega
  have dD : (a ≠ 0 ∧ b ≠ 0 ∧ D = tab fa fb band (a - 1) (b - 1)) ∨ ((a = 0 ∨ b = 0) ∧ D = bar) := by
    by_cases ha0 : a = 0
    · subst ha0
      refine .inr ⟨.inl rfl, ?_⟩
      rw [hD]
      show st0 b = bar
      unfold st0
      rw [if_neg (by omega)]
    · obtain ⟨a', rfl⟩ : ∃ x, a = x + 1 := ⟨a - 1, by omega⟩
      by_cases hb0 : b = 0
      · subst hb0
        refine .inr ⟨.inr rfl, ?_⟩
        rw [hD]; rfl
      · obtain ⟨b', rfl⟩ : ∃ x, b = x + 1 := ⟨b - 1, by omega⟩
        refine .inl ⟨ha0, hb0, ?_⟩
        rw [hD, Nat.add_sub_cancel, Nat.add_sub_cancel]
        rcases T a' b' (by omega) (by omega) with ⟨-, e⟩ | ⟨hx, -, -⟩
        · exact e
        · refine absurd ?_ hx
          rw [show ((a' + 1 : Nat) : Int) - ((b' + 1 : Nat) : Int) = (a' : Int) - (b' : Int) by push_cast; omega] at hok; exact hok
  have dU : (a ≠ 0 ∧ ((U = tab fa fb band (a - 1) b) ∨ (U = bar ∧ tab fa fb band (a - 1) b = far))) ∨ (a = 0 ∧ U = bar) := by
    by_cases ha0 : a = 0
    · subst ha0
      refine .inr ⟨rfl, ?_⟩
      rw [hU]
      show st0 (b + 1) = bar
      unfold st0
      rw [if_neg (by omega)]
    · obtain ⟨a', rfl⟩ : ∃ x, a = x + 1 := ⟨a - 1, by omega⟩
      refine .inl ⟨ha0, ?_⟩
      rw [hU, Nat.add_sub_cancel]
      rcases T a' b (by omega) hj with ⟨-, e⟩ | ⟨-, e1, e2⟩
      · exact .inl e
      · exact .inr ⟨e1, e2⟩
  by_cases h1 : D = M
  · rcases dD with ⟨d1, d2, d3⟩ | ⟨-, d3⟩
    · exact .inl ⟨h1, d1, d2, prv_diag d1 d2 (by rw [hbef]; omega)⟩
    · omega
  · have hnd : b = 0 ∨ a = 0 ∨ tab fa fb band (a - 1) (b - 1) ≠ bef fa fb band a b := by
      rcases dD with ⟨d1, d2, d3⟩ | ⟨d1, -⟩
      · exact .inr (.inr (by rw [hbef, ← d3]; exact h1))
      · omega
    by_cases h2 : U = M
    · rcases dU with ⟨u1, u2⟩ | ⟨-, u2⟩
      · refine .inr (.inl ⟨h1, h2, u1, prv_up u1 ?_ ?_⟩)
        · rcases hnd with h | h | h
          · exact .inl h
          · exact absurd h u1
          · exact .inr h
        · rcases u2 with u2 | ⟨u2, -⟩
          · rw [hbef, ← u2]; exact h2
          · omega
      · omega
    · have hb0 : b ≠ 0 := fun hb0 => by
        subst hb0
        have : L = bar := by rw [hL]; rfl
        omega
      refine .inr (.inr ⟨h1, h2, hb0, prv_left ?_⟩)
      rcases dU with ⟨u1, u2⟩ | ⟨u1, -⟩
      · refine .inr ⟨?_, ?_⟩
        · rcases hnd with h | h | h
          · exact absurd h hb0
          · exact absurd h u1
          · exact h
        · rw [hbef]
          rcases u2 with u2 | ⟨-, u2⟩
          · rw [← u2]; exact h2
          · omega
      · exact .inl u1
end Go.Proofs.Ythpmckfjlbiiiab.dp
