/-
  Proved: what the document's functions that bound the least cost from below, and that return an envelope, return.
  Conditions: none.
-/
import Derived.Test.YtghaddpicedenaaEnvOf
import Derived.Test.YtghaddpicedenaaEndsI
import Derived.Test.YtghaddpicedenaaElas
namespace Go.Proofs.Ytghaddpicedenaa.env
open Go.ChangeShapes Go.WideShapes Go.ChangeAt Go.RowKit Go.Joins
open Go.Proofs.Ytghaddpicedenaa.core Go.Proofs.Ytghaddpicedenaa.rown Go.Proofs.Ytghaddpicedenaa.stk Go.Proofs.Ytghaddpicedenaa.boxed Go.Proofs.Ytghaddpicedenaa.ft Go.Proofs.Ytghaddpicedenaa.seq Go.Proofs.Ytghaddpicedenaa.tab
set_option linter.unusedVariables false
set_option linter.unusedSimpArgs false
theorem own_sl {w : World} {base E k n : Nat} {v : Value} {row : Nat → List Value} (h : w.ownsRow base E k v n (rws row n)) (hk : 0 < k) : ∃ A c, v = .slice A n c := by
  obtain ⟨hl, h⟩ := h
  rcases h with ⟨rfl, e⟩ | ⟨g, cap, cur, rfl, _⟩
  · rw [e] at hl
    have hn : n = 0 := by
      rcases Nat.eq_zero_or_pos n with h' | h'
      · exact h'
      · have := Nat.mul_pos h' hk
        simp at hl
        omega
    subst hn
    exact ⟨_, _, rfl⟩
  · exact ⟨_, _, rfl⟩
theorem num_row {w : World} {base E n c : Nat} {A : Option Addr} {F : Nat → Int} (h : w.ownsRow base E 1 (.slice A n c) n (rws (one F) n)) : NumAt w A n F := fun i hi => by
  have h' := h
  rcases h with ⟨-, ⟨-, h0⟩ | ⟨g, cap, cur, e, -, -⟩⟩
  · omega
  · injection e with e1 e2 e3
    subst e1 e3
    exact ⟨g, 0, rfl, row_lt h', by rw [Nat.zero_add]; exact one_cell h' hi⟩
theorem four_nums {w : World} {base n : Nat} {s : Nat → Value} {F : Nat → Nat → Int} (h : Four w base (fun _ => n) s F) : ∃ (ea : Nat → Option Addr) (ec : Nat → Nat), (∀ k, k < 4 → s k = .slice (ea k) n (ec k)) ∧ ∀ k, k < 4 → NumAt w (ea k) n (F k) := by
  have : ∀ k, ∃ (A : Option Addr) (c : Nat), k < 4 → s k = .slice A n c ∧ NumAt w A n (F k) := fun k => by
    by_cases hk : k < 4
    · obtain ⟨A, c, e⟩ := own_sl (h.own k hk) (by decide)
      have ho := h.own k hk
      rw [e] at ho
      exact ⟨A, c, fun _ => ⟨e, num_row ho⟩⟩
    · exact ⟨none, 0, fun h' => absurd h' hk⟩
  refine ⟨fun k => (this k).choose, fun k => (this k).choose_spec.choose, fun k hk => ((this k).choose_spec.choose_spec hk).1, fun k hk => ((this k).choose_spec.choose_spec hk).2⟩
theorem win_ne {na nb i : Nat} {band : Int} (hb : 0 ≤ band) (hab : absv ((na : Int) - (nb : Int)) ≤ band) (hi : i < na) (hn : 1 ≤ nb) : ∃ j : Nat, (i : Int) - band ≤ (j : Int) ∧ (j : Int) ≤ (i : Int) + band ∧ j < nb := by
  unfold absv at hab
  by_cases h : i < nb
  · exact ⟨i, by omega, by omega, h⟩
  · exact ⟨nb - 1, by split at hab <;> omega, by omega, by omega⟩
theorem env_okE {na nb : Nat} {fb : Nat → P3} {band : Int} (ha : 1 ≤ na ∧ na ≤ 72) (vb : okQ nb fb = true) (hb : 0 ≤ band ∧ band ≤ 72) (hab : absv ((na : Int) - (nb : Int)) ≤ band) : okE (fun _ => na) (envF fb nb band) = true := by
  obtain ⟨b1, b2, b3⟩ := okQ_of vb
  have hx : ∀ ver i, i < na → (0 ≤ wLo (fun j => vOf ver (fb j)) nb ((i : Int) - band) ((i : Int) + band) ∧ wLo (fun j => vOf ver (fb j)) nb ((i : Int) - band) ((i : Int) + band) ≤ wHi (fun j => vOf ver (fb j)) nb ((i : Int) - band) ((i : Int) + band)) ∧ wHi (fun j => vOf ver (fb j)) nb ((i : Int) - band) ((i : Int) + band) ≤ 255 := fun ver i hi => by
    have h1 := w_in (g := fun j => vOf ver (fb j)) (m := nb) (a := (i : Int) - band) (b := (i : Int) + band) fun j hj => vOf_in (b3 j hj) ver
    have h2 := w_le (g := fun j => vOf ver (fb j)) (win_ne hb.1 hab hi b1)
    omega
  have e1 : bndOk na na (envF fb nb band 0) (envF fb nb band 1) = true := bnd_true ⟨rfl, ha, fun i hi => hx false i hi⟩
  have e2 : bndOk na na (envF fb nb band 2) (envF fb nb band 3) = true := bnd_true ⟨rfl, ha, fun i hi => hx true i hi⟩
  show (bndOk na na (envF fb nb band 0) (envF fb nb band 1) && bndOk na na (envF fb nb band 2) (envF fb nb band 3) && decide (na = na)) = true
  rw [e1, e2]
  simp
theorem outG_E (fa fb : Nat → P3) (m : Nat) (band : Int) : ∀ n, outG fa (envF fb m band) n = outE fa fb m band n
  | 0 => rfl
  | n + 1 => by unfold outG outE; rw [outG_E fa fb m band n]; rfl
noncomputable def lbR (na nb : Nat) (fa fb : Nat → P3) (band : Int) : Int := if elC na nb fa fb band = 0 then boundE na nb fa fb band else 0
end Go.Proofs.Ytghaddpicedenaa.env
