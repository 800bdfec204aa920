/-
  Proved: the shapes of the laws' types, and what is left of a budget (plain lemmas).
  Conditions: none.
-/
import Derived.Test.YtofgdgdmmlgmnaaCore
namespace Go.Proofs.Ytofgdgdmmlgmnaa.core
open Go.ChangeShapes Go.WideShapes Go.ChangeAt Go.RowKit Go.Joins
set_option linter.unusedVariables false
set_option linter.unusedSimpArgs false

theorem ret_int {k : IntKind} {a b : Int} (h : a = b) : Ending.returned (.int k a) = .returned (.int k b) := by rw [h]
/-- What is left of a budget. -/
def left (l : Int) (c : Nat) : Int := if (c : Int) ≤ l then l - (c : Int) else -1
theorem left_yes {l : Int} {c : Nat} (h : (c : Int) ≤ l) : left l c = l - (c : Int) := if_pos h
theorem left_no {l : Int} {c : Nat} (h : ¬ (c : Int) ≤ l) : left l c = -1 := if_neg h
theorem left_yes' {l z : Int} {c : Nat} (h : (c : Int) ≤ l) (hz : z = l - (c : Int)) : z = left l c := by rw [left_yes h, hz]
theorem left_no' {l : Int} {c : Nat} (h : ¬ (c : Int) ≤ l) : -1 = left l c := (left_no h).symm
def tyInt (d : Dat) : Prop := ∃ n, d = .int n
def tyStr (d : Dat) : Prop := ∃ s, d = .str s
theorem cost_flat {n k : Nat} {f : Nat → Nat → Dat} (h : ∀ i j, i < n → j < k → cost (f i j) = 0) : cost (.sl n k f) = n := by
  simp only [cost]
  rw [sumTo_congr (g' := fun _ => 0) fun i hi => by rw [sumTo_congr (g' := fun _ => 0) fun j hj => h i j hi hj, sumTo_const]; simp, sumTo_const]
  omega
/-- Rows of Point. -/
def tyPointS (d : Dat) : Prop := ∃ n f, d = .sl n 3 f ∧ ∀ i, i < n → tyInt (f i 0) ∧ tyInt (f i 1) ∧ tyInt (f i 2)
theorem tyPointS_at {n : Nat} {f : Nat → Nat → Dat} (h : tyPointS (.sl n 3 f)) : ∀ i, i < n → tyInt (f i 0) ∧ tyInt (f i 1) ∧ tyInt (f i 2) := by
  obtain ⟨n', f', e, h⟩ := h
  cases e
  exact h
theorem tyPointS_mk {n : Nat} {f : Nat → Nat → Dat} (h : ∀ i, i < n → tyInt (f i 0) ∧ tyInt (f i 1) ∧ tyInt (f i 2)) : tyPointS (.sl n 3 f) := ⟨_, _, rfl, h⟩
/-- Rows of Stroke. -/
def tyStrokeS (d : Dat) : Prop := ∃ n f, d = .sl n 1 f ∧ ∀ i, i < n → tyPointS (f i 0)
theorem tyStrokeS_at {n : Nat} {f : Nat → Nat → Dat} (h : tyStrokeS (.sl n 1 f)) : ∀ i, i < n → tyPointS (f i 0) := by
  obtain ⟨n', f', e, h⟩ := h
  cases e
  exact h
theorem tyStrokeS_mk {n : Nat} {f : Nat → Nat → Dat} (h : ∀ i, i < n → tyPointS (f i 0)) : tyStrokeS (.sl n 1 f) := ⟨_, _, rfl, h⟩
/-- Rows of Hyp. -/
def tyHypS (d : Dat) : Prop := ∃ n f, d = .sl n 2 f ∧ ∀ i, i < n → tyStr (f i 0) ∧ tyInt (f i 1)
theorem tyHypS_at {n : Nat} {f : Nat → Nat → Dat} (h : tyHypS (.sl n 2 f)) : ∀ i, i < n → tyStr (f i 0) ∧ tyInt (f i 1) := by
  obtain ⟨n', f', e, h⟩ := h
  cases e
  exact h
theorem tyHypS_mk {n : Nat} {f : Nat → Nat → Dat} (h : ∀ i, i < n → tyStr (f i 0) ∧ tyInt (f i 1)) : tyHypS (.sl n 2 f) := ⟨_, _, rfl, h⟩

end Go.Proofs.Ytofgdgdmmlgmnaa.core
