/-
  Proved: slices.Concat of two lists of templates.
  Conditions: those of the theorem.
-/
import Derived.Test.YtghaddpicedenaaGro
namespace Go.Proofs.Ytghaddpicedenaa.gro
open Go.ChangeShapes Go.WideShapes Go.ChangeAt Go.RowKit Go.Joins
open Go.Proofs.Ytghaddpicedenaa.core Go.Proofs.Ytghaddpicedenaa.rown Go.Proofs.Ytghaddpicedenaa.stk Go.Proofs.Ytghaddpicedenaa.boxed Go.Proofs.Ytghaddpicedenaa.tmp Go.Proofs.Ytghaddpicedenaa.ft
set_option linter.unusedVariables false
set_option linter.unusedSimpArgs false
/-- The cells of a list of n templates. -/
structure Cells (w : World) (T : Option Addr) (n : Nat) (r : List Value) : Prop where
  len : r.length = n * 2
  one : ∀ u ∈ r, u.oneCell' = true
  at_ : 0 < n → ∃ ad, T = some ad ∧ ad.block < w.heap.size ∧ ∀ j u, r[j]? = some u → w.cell? (ad.add j) = some u
theorem add_block (ad : Addr) (j : Nat) : (ad.add j).block = ad.block := by unfold Addr.add; split <;> rfl
theorem Cells.kept {w w' : World} {T : Option Addr} {n : Nat} {r : List Value} (h : Cells w T n r) (hb : Below w.heap.size w w') : Cells w' T n r :=
  ⟨h.len, h.one, fun hn => by
    obtain ⟨ad, e, hlt, hc⟩ := h.at_ hn
    exact ⟨ad, e, Nat.lt_of_lt_of_le hlt hb.size, fun j u hu => (hb.cell (p := ad.add j) (by rw [add_block]; exact hlt)).trans (hc j u hu)⟩⟩
theorem Cells.news {w : World} {T : Option Addr} {n : Nat} {r : List Value} (h : Cells w T n r) : 0 < n → ∃ ad, T = some ad ∧ ∀ j u, r[j]? = some u → w.cell? (ad.add j) = some u := fun hn => by
  obtain ⟨ad, e, -, hc⟩ := h.at_ hn
  exact ⟨ad, e, hc⟩
end Go.Proofs.Ytghaddpicedenaa.gro
