/-
  Proved: a list of features that is read out of memory, and what the functions that tell whether features are valid return.
  Conditions: none.
-/
import Derived.Test.YtofgdgdmmlgmnaaView
import Derived.Test.YtofgdgdmmlgmnaaBoxed
import Derived.Test.YtofgdgdmmlgmnaaWid
import Derived.BigQuiet
import Derived.BigRegion
namespace Go.Proofs.Ytofgdgdmmlgmnaa.ft
open Go.ChangeShapes Go.WideShapes Go.ChangeAt Go.RowKit Go.Joins
open Go.Proofs.Ytofgdgdmmlgmnaa.core Go.Proofs.Ytofgdgdmmlgmnaa.rown Go.Proofs.Ytofgdgdmmlgmnaa.stk Go.Proofs.Ytofgdgdmmlgmnaa.boxed
set_option linter.unusedVariables false
set_option linter.unusedSimpArgs false
abbrev pv (p : P3) : Value := pt p.1 p.2.1 p.2.2
def inF (p : P3) : Bool := decide ((0 ≤ p.1 ∧ p.1 ≤ 255) ∧ (0 ≤ p.2.1 ∧ p.2.1 ≤ 255) ∧ 0 ≤ p.2.2 ∧ p.2.2 ≤ 7)
theorem inF_of {p : P3} (h : inF p = true) : (0 ≤ p.1 ∧ p.1 ≤ 255) ∧ (0 ≤ p.2.1 ∧ p.2.1 ≤ 255) ∧ 0 ≤ p.2.2 ∧ p.2.2 ≤ 7 := of_decide_eq_true h
/-- The list is one of 1 to 384 valid features. -/
noncomputable def okF (n : Nat) (f : Nat → P3) : Bool := @decide (1 ≤ n ∧ n ≤ 384 ∧ ∀ i, i < n → inF (f i) = true) (Classical.propDecidable _)
theorem okF_true {n : Nat} {f : Nat → P3} (h1 : 1 ≤ n) (h2 : n ≤ 384) (h : ∀ i, i < n → inF (f i) = true) : okF n f = true := by
  unfold okF; exact @decide_eq_true _ (Classical.propDecidable _) ⟨h1, h2, h⟩
theorem okF_of {n : Nat} {f : Nat → P3} (h : okF n f = true) : 1 ≤ n ∧ n ≤ 384 ∧ ∀ i, i < n → inF (f i) = true := by
  unfold okF at h; exact @of_decide_eq_true _ (Classical.propDecidable _) h
theorem okF_size {n : Nat} {f : Nat → P3} (h : ¬ (1 ≤ n ∧ n ≤ 384)) : okF n f = false := by
  unfold okF; exact @decide_eq_false _ (Classical.propDecidable _) fun ⟨a, b, _⟩ => h ⟨a, b⟩
theorem okF_at {n : Nat} {f : Nat → P3} (i : Nat) (hi : i < n) (h : inF (f i) = false) : okF n f = false := by
  unfold okF; exact @decide_eq_false _ (Classical.propDecidable _) fun ⟨_, _, c⟩ => by have := c i hi; rw [h] at this; cases this
theorem more {f : Nat → P3} {k : Nat} (hall : ∀ j, j < k → inF (f j) = true) (h : inF (f k) = true) : ∀ j, j < k + 1 → inF (f j) = true := by
  intro j hj
  rcases Nat.lt_or_ge j k with h' | h'
  · exact hall j h'
  · obtain rfl : j = k := by omega
    exact h
theorem le_cost (n k : Nat) (f : Nat → Nat → Dat) : n ≤ cost (.sl n k f) := by
  simp only [cost]
  omega
abbrev P2 := Int × Int
/-- A list of places. -/
def SpAt (w : World) (A : Option Addr) (n : Nat) (f : Nat → P2) : Prop :=
  ∀ i, i < n → ∃ b o : Nat, A = some ⟨b, o, none⟩ ∧ b < w.heap.size ∧ w.cell? ⟨b, o + i * 2, none⟩ = some (.int .i64 (f i).1) ∧ w.cell? ⟨b, o + i * 2 + 1, none⟩ = some (.int .i64 (f i).2)
theorem SpAt.kept {w w' : World} {A : Option Addr} {n : Nat} {f : Nat → P2} (h : SpAt w A n f) (hb : Below w.heap.size w w') : SpAt w' A n f := fun i hi => by
  obtain ⟨b, o, e, h1, h2, h3⟩ := h i hi
  exact ⟨b, o, e, Nat.lt_of_lt_of_le h1 hb.size, (hb.cell (p := ⟨b, o + i * 2, none⟩) h1).trans h2, (hb.cell (p := ⟨b, o + i * 2 + 1, none⟩) h1).trans h3⟩
/-- Rows of two numbers. -/
def sp2 (f : Nat → P2) (i : Nat) : List Value := [.int .i64 (f i).1, .int .i64 (f i).2]
theorem sp2_len (f : Nat → P2) : ∀ i, (sp2 f i).length = 2 := fun i => rfl
theorem sp_row {w : World} {base n d E : Nat} {B : Option Addr} {f : Nat → P2} (h : w.ownsRow base E 2 (.slice B n d) n (rws (sp2 f) n)) : SpAt w B n f := fun i hi => by
  have h' := h
  rcases h with ⟨-, ⟨-, h0⟩ | ⟨g, c, cur, e, -, -⟩⟩
  · omega
  · injection e with e1 e2 e3
    subst e1 e3
    have hg := row_lt h'
    refine ⟨g, 0, rfl, hg, ?_, ?_⟩
    · have := row_cell h' (sp2_len f) hi (show 0 < 2 by omega) rfl; simpa using this
    · have := row_cell h' (sp2_len f) hi (show 1 < 2 by omega) rfl; simpa using this
theorem two_new {w : World} {a b : Value} {E H : Nat} (h : w.heap.size = H) : ∀ j u, [a, b][j]? = some u → (w.alloc (.cells #[a, b] E)).cell? ((⟨H, 0, none⟩ : Addr).add j) = some u := by
  subst h
  exact new_cells (l := [a, b])
def ftN (g : Nat → Dat) : Nat := dLen (g 0)
def ftF (g : Nat → Dat) : Nat → P3 := fun i => (dInt (dFun (g 0) i 0), dInt (dFun (g 0) i 1), dInt (dFun (g 0) i 2))
theorem in_calls (x lo hi : Int) (w : World) : Calls Try.prog 52 #[.int .i64 x, .int .i64 lo, .int .i64 hi] w fun e w' => e = .returned (.bool (decide (lo ≤ x ∧ x ≤ hi))) ∧ w = w' := by
  go_enter Try.func52, Try.ntmps52
  go_wp2
  all_goals go_ret
  all_goals exact ⟨ret_bool (by first | rfl | (rw [Bool.eq_iff_iff]; simp; try omega)), rfl⟩
theorem in_t (x lo hi : Int) (h : lo ≤ x ∧ x ≤ hi) (w : World) : Calls Try.prog 52 #[.int .i64 x, .int .i64 lo, .int .i64 hi] w fun e w' => e = .returned (.bool true) ∧ w = w' :=
  (in_calls x lo hi w).mono fun _ _ ⟨he, hw⟩ => ⟨by rw [he, decide_eq_true h], hw⟩
theorem in_f (x lo hi : Int) (h : ¬ (lo ≤ x ∧ x ≤ hi)) (w : World) : Calls Try.prog 52 #[.int .i64 x, .int .i64 lo, .int .i64 hi] w fun e w' => e = .returned (.bool false) ∧ w = w' :=
  (in_calls x lo hi w).mono fun _ _ ⟨he, hw⟩ => ⟨by rw [he, decide_eq_false h], hw⟩
/-- A list of features of one's own reads as such. -/
theorem pts_row {w : World} {base n d E : Nat} {B : Option Addr} {f : Nat → P3} (h : w.ownsRow base E 3 (.slice B n d) n (rws (row3 f) n)) : PtsAt w B n f := fun i hi => by
  have h' := h
  rcases h with ⟨-, ⟨-, h0⟩ | ⟨g, c, cur, e, -, -⟩⟩
  · omega
  · injection e with e1 e2 e3
    subst e1 e3
    have hg := row_lt h'
    refine ⟨g, 0, rfl, hg, ?_, ?_, ?_⟩
    · have := row_cell h' (row3_len f) hi (show 0 < 3 by omega) rfl; simpa using this
    · have := row_cell h' (row3_len f) hi (show 1 < 3 by omega) rfl; simpa using this
    · have := row_cell h' (row3_len f) hi (show 2 < 3 by omega) rfl; simpa using this
theorem make_row (w : World) (E n : Nat) (cur : Array Value) (hc : cur.size = n * 3) (hn : n ≤ maxLen) : (w.alloc (.cells cur E)).ownsRow w.heap.size E 3 (.slice (some ⟨w.heap.size, 0, none⟩) 0 n) 0 [] :=
  ⟨by simp, .inr ⟨w.heap.size, n, _, rfl, Nat.le_refl _, heap_alloc_new _ _, Nat.zero_le _, hn, hc, by simp⟩⟩
end Go.Proofs.Ytofgdgdmmlgmnaa.ft
