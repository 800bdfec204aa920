/-
  Proved: what the program's function that leaves a template out returns.
  Conditions: those of the theorem.
-/
import Derived.Test.YtghaddpicedenaaCon
namespace Go.Proofs.Ytghaddpicedenaa.gro
open Go.ChangeShapes Go.WideShapes Go.ChangeAt Go.RowKit Go.Joins
open Go.Proofs.Ytghaddpicedenaa.core Go.Proofs.Ytghaddpicedenaa.rown Go.Proofs.Ytghaddpicedenaa.stk Go.Proofs.Ytghaddpicedenaa.boxed Go.Proofs.Ytghaddpicedenaa.tmp Go.Proofs.Ytghaddpicedenaa.ft Go.Proofs.Ytghaddpicedenaa.sto
set_option linter.unusedVariables false
set_option linter.unusedSimpArgs false
def trw (lb : Nat → ByteArray) (la : Nat → Option Addr) (ln lc : Nat → Nat) (i : Nat) : List Value := [.string (lb i), .slice (la i) (ln i) (lc i)]
theorem trw_len (lb : Nat → ByteArray) (la : Nat → Option Addr) (ln lc : Nat → Nat) : ∀ i, (trw lb la ln lc i).length = 2 := fun _ => rfl
theorem rws_two {row : Nat → List Value} (h : ∀ i, ∀ u ∈ row i, u.oneCell' = true) (n : Nat) : ∀ u ∈ rws row n, u.oneCell' = true := by
  induction n with
  | zero => intro u hu; simp [rws] at hu
  | succ n ih =>
    intro u hu
    rw [rws_succ] at hu
    rcases List.mem_append.1 hu with h' | h'
    · exact ih u h'
    · exact h n u h'
theorem trw_one (lb : Nat → ByteArray) (la : Nat → Option Addr) (ln lc : Nat → Nat) : ∀ i, ∀ u ∈ trw lb la ln lc i, u.oneCell' = true := fun i u hu => by
  unfold trw at hu
  simp at hu
  rcases hu with rfl | rfl <;> rfl
theorem rws_cut {row : Nat → List Value} (n1 : Nat) : ∀ n2, rws row n1 ++ rws (fun i => row (n1 + i)) n2 = rws row (n1 + n2)
  | 0 => by simp [rws]
  | n2 + 1 => by rw [rws_succ, ← List.append_assoc, rws_cut n1 n2]; rfl
/-- The templates in memory, their headers named. -/
theorem TsAt.fns {w : World} {T : Option Addr} {n : Nat} {lb : Nat → ByteArray} {ln : Nat → Nat} {lf : Nat → Nat → P3} (h : TsAt w T n lb ln lf) (hn : 0 < n) :
    ∃ (b o : Nat) (la : Nat → Option Addr) (lc : Nat → Nat), T = some ⟨b, o, none⟩ ∧ b < w.heap.size ∧ ∀ i, i < n → (w.cell? ⟨b, o + i * 2, none⟩ = some (.string (lb i)) ∧ w.cell? ⟨b, o + i * 2 + 1, none⟩ = some (.slice (la i) (ln i) (lc i))) ∧ PtsAt w (la i) (ln i) (lf i) := by
  obtain ⟨b, o, _, _, e, hb, -, -, -⟩ := h 0 hn
  have key : ∀ i, ∃ (Ai : Option Addr) (ci : Nat), i < n → (w.cell? ⟨b, o + i * 2, none⟩ = some (.string (lb i)) ∧ w.cell? ⟨b, o + i * 2 + 1, none⟩ = some (.slice Ai (ln i) ci)) ∧ PtsAt w Ai (ln i) (lf i) := fun i => by
    by_cases hi : i < n
    · obtain ⟨b', o', Ai, ci, e', h1, h2, h3, h4⟩ := h i hi
      rw [e] at e'
      injection e' with e'
      injection e' with e1 e2
      subst e1 e2
      exact ⟨Ai, ci, fun _ => ⟨⟨h2, h3⟩, h4⟩⟩
    · exact ⟨none, 0, fun h' => absurd h' hi⟩
  exact ⟨b, o, fun i => (key i).choose, fun i => (key i).choose_spec.choose, e, hb, fun i hi => (key i).choose_spec.choose_spec hi⟩
theorem cells_of {w : World} {b o n m : Nat} {lb : Nat → ByteArray} {la : Nat → Option Addr} {ln lc : Nat → Nat} (k : Nat) (hb : b < w.heap.size) (hk : k + m ≤ n)
    (h : ∀ i, i < n → w.cell? ⟨b, o + i * 2, none⟩ = some (.string (lb i)) ∧ w.cell? ⟨b, o + i * 2 + 1, none⟩ = some (.slice (la i) (ln i) (lc i))) : Cells w (some ⟨b, o + k * 2, none⟩) m (rws (fun i => trw lb la ln lc (k + i)) m) :=
  ⟨rws_len (k := 2) (fun i => trw_len lb la ln lc (k + i)) m, rws_two (fun i => trw_one lb la ln lc (k + i)) m, fun hm => ⟨⟨b, o + k * 2, none⟩, rfl, hb, fun j u hu => by
    have hl : j < m * 2 := by
      have := (List.getElem?_eq_some_iff.1 hu).1
      rwa [rws_len (k := 2) (fun i => trw_len lb la ln lc (k + i))] at this
    obtain ⟨i, r, hr, rfl⟩ : ∃ i r, r < 2 ∧ j = i * 2 + r := ⟨j / 2, j % 2, by omega, by omega⟩
    rw [rws_get (k := 2) (fun i => trw_len lb la ln lc (k + i)) i r hr m (by omega)] at hu
    obtain ⟨c0, c1⟩ := h (k + i) (by omega)
    rw [cln.add_off]
    rcases (by omega : r = 0 ∨ r = 1) with rfl | rfl
    · rw [show o + k * 2 + (i * 2 + 0) = o + (k + i) * 2 by omega, c0, ← hu]; rfl
    · rw [show o + k * 2 + (i * 2 + 1) = o + (k + i) * 2 + 1 by omega, c1, ← hu]; rfl⟩⟩
theorem rws_skip (row : Nat → List Value) (n1 n2 : Nat) : rws row n1 ++ rws (fun i => row (n1 + 1 + i)) n2 = rws (fun i => row (kE n1 i)) (n1 + n2) := by
  rw [← rws_cut n1 n2]
  congr 1
  · refine rws_congr n1 fun i hi => ?_
    unfold kE
    rw [if_neg (by omega)]
  · refine rws_congr n2 fun i hi => ?_
    show row (n1 + 1 + i) = row (kE n1 (n1 + i))
    unfold kE
    rw [if_pos (by omega)]
    congr 1
    omega
theorem ts_row {w w0 : World} {base E N C n1 n : Nat} {A : Option Addr} {lb : Nat → ByteArray} {la : Nat → Option Addr} {ln lc : Nat → Nat} {lf : Nat → Nat → P3} (h : w.ownsRow base E 2 (.slice A N C) N (rws (fun i => trw lb la ln lc (kE n1 i)) N)) (hn : n = N + 1)
    (hb : Below w0.heap.size w0 w) (hf : ∀ i, i < n → PtsAt w0 (la i) (ln i) (lf i)) : TsAt w A N (fun i => lb (kE n1 i)) (fun i => ln (kE n1 i)) (fun i => lf (kE n1 i)) := fun i hi => by
  have h' := h
  rcases h with ⟨-, ⟨-, h0⟩ | ⟨g, c, cur, e, -, -⟩⟩
  · omega
  · injection e with e1 e2 e3
    subst e1
    have c0 := row_cell h' (fun i => trw_len lb la ln lc (kE n1 i)) hi (show 0 < 2 by omega) rfl
    have c1 := row_cell h' (fun i => trw_len lb la ln lc (kE n1 i)) hi (show 1 < 2 by omega) rfl
    have hk : kE (n1 : Int) i < n := by unfold kE; split <;> omega
    exact ⟨g, 0, la (kE n1 i), lc (kE n1 i), rfl, row_lt h', by rw [Nat.zero_add]; exact c0, by rw [Nat.zero_add]; exact c1, (hf _ hk).kept hb⟩
end Go.Proofs.Ytghaddpicedenaa.gro
