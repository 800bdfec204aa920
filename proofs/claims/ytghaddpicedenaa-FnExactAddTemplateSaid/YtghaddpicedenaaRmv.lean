/-
  Proved: what both functions that remove a template return.
  Conditions: those of each theorem.
-/
import Derived.Test.YtghaddpicedenaaWou
namespace Go.Proofs.Ytghaddpicedenaa.gro
open Go.ChangeShapes Go.WideShapes Go.ChangeAt Go.RowKit Go.Joins
open Go.Proofs.Ytghaddpicedenaa.core Go.Proofs.Ytghaddpicedenaa.rown Go.Proofs.Ytghaddpicedenaa.stk Go.Proofs.Ytghaddpicedenaa.boxed Go.Proofs.Ytghaddpicedenaa.tmp Go.Proofs.Ytghaddpicedenaa.ft Go.Proofs.Ytghaddpicedenaa.sto Go.Proofs.Ytghaddpicedenaa.seq
set_option linter.unusedVariables false
set_option linter.unusedSimpArgs false
theorem TD_low {W : World} {L L' j C : Nat} {D : Option Addr} {lb : Nat → ByteArray} {gi ln ci : Nat → Nat} {lf : Nat → Nat → P3} (h : TD W L D j C lb gi ln ci lf) (hL : L' ≤ L) : TD W L' D j C lb gi ln ci lf :=
  ⟨row_low h.row hL, fun i hi => row_low (h.el i hi) hL, h.inj⟩
theorem st_len {band : Int} {n : Nat} {lb : Nat → ByteArray} {ln : Nat → Nat} {lf : Nat → Nat → P3} (h : StOk band n lb ln lf) : ∀ i, i < n → 1 ≤ ln i ∧ ln i ≤ 72 := fun i hi => by
  have := h.2.2 i hi
  unfold tmB at this
  rw [Bool.and_eq_true] at this
  have h2 := okQ_of this.2
  exact ⟨h2.1, h2.2.1⟩
/-- What one of the functions returns where nothing is removed. -/
abbrev RmNo (w : World) (code : Int) (e : Ending) (w' : World) : Prop := e = .returned (.tuple #[.agg #[.int .i64 0, .slice none 0 0], .int .i64 code]) ∧ Below w.heap.size w w'
/-- What one of them returns where the template at a is removed. -/
abbrev RmYes (w : World) (band : Int) (N : Nat) (a : Int) (lb : Nat → ByteArray) (ln : Nat → Nat) (lf : Nat → Nat → P3) (e : Ending) (w' : World) : Prop :=
  ∃ (D : Option Addr) (C : Nat) (gi ci : Nat → Nat), e = .returned (.tuple #[.agg #[.int .i64 band, .slice D N C], .int .i64 0]) ∧ TD w' w.heap.size D N C (fun i => lb (kE a i)) gi (fun i => ln (kE a i)) ci (fun i => lf (kE a i)) ∧ Below w.heap.size w w'
end Go.Proofs.Ytghaddpicedenaa.gro
