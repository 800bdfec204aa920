/-
  Proved: plain facts on points in memory.
  Conditions: none.
-/
import Derived.Test.YtofgdgdmmlgmnaaCore
namespace Go.Proofs.Ytofgdgdmmlgmnaa.stk
open Go.ChangeShapes Go.WideShapes Go.ChangeAt Go.RowKit Go.Joins
open Go.Proofs.Ytofgdgdmmlgmnaa.core
set_option linter.unusedVariables false
set_option linter.unusedSimpArgs false
theorem ret_bool {a b : Bool} (h : a = b) : Ending.returned (.bool a) = .returned (.bool b) := by rw [h]
theorem ret_int {k : IntKind} {a b : Int} (h : a = b) : Ending.returned (.int k a) = .returned (.int k b) := by rw [h]
abbrev P3 := Int × Int × Int
abbrev pt (x y t : Int) : Value := .agg #[.int .i64 x, .int .i64 y, .int .i64 t]
/-- The list's cells hold the points. -/
def PtsAt (w : World) (A : Option Addr) (n : Nat) (pts : Nat → P3) : Prop :=
  ∀ i, i < n → ∃ b o : Nat, A = some ⟨b, o, none⟩ ∧ b < w.heap.size ∧ w.cell? ⟨b, o + i * 3, none⟩ = some (.int .i64 (pts i).1) ∧ w.cell? ⟨b, o + i * 3 + 1, none⟩ = some (.int .i64 (pts i).2.1) ∧ w.cell? ⟨b, o + i * 3 + 2, none⟩ = some (.int .i64 (pts i).2.2)
theorem PtsAt.kept {w w' : World} {A : Option Addr} {n : Nat} {pts : Nat → P3} (h : PtsAt w A n pts) (hb : Below w.heap.size w w') : PtsAt w' A n pts := fun i hi => by
  obtain ⟨b, o, e, h1, h2, h3, h4⟩ := h i hi
  exact ⟨b, o, e, Nat.lt_of_lt_of_le h1 hb.size, (hb.cell (p := ⟨b, o + i * 3, none⟩) h1).trans h2, (hb.cell (p := ⟨b, o + i * 3 + 1, none⟩) h1).trans h3, (hb.cell (p := ⟨b, o + i * 3 + 2, none⟩) h1).trans h4⟩
def inR (x y t : Int) : Bool := decide (0 ≤ x ∧ x ≤ 4095 ∧ 0 ≤ y ∧ y ≤ 4095 ∧ 0 ≤ t ∧ t ≤ 3600000)
theorem inR_of {x y t : Int} (h : inR x y t = true) : 0 ≤ x ∧ x ≤ 4095 ∧ 0 ≤ y ∧ y ≤ 4095 ∧ 0 ≤ t ∧ t ≤ 3600000 := by
  unfold inR at h; exact of_decide_eq_true h
end Go.Proofs.Ytofgdgdmmlgmnaa.stk
