/-
  Proved: neither part of the bound is greater than the least cost, and a list is not outside of its own envelope (plain lemmas).
  Conditions: both lists are sequences.
-/
import Derived.Test.YtkcfghbkcgommabEnvS
import Derived.Test.YtkcfghbkcgommabPth
namespace Go.Proofs.Ytkcfghbkcgommab.env
open Go.ChangeShapes Go.WideShapes Go.ChangeAt Go.RowKit Go.Joins
open Go.Proofs.Ytkcfghbkcgommab.core Go.Proofs.Ytkcfghbkcgommab.rown Go.Proofs.Ytkcfghbkcgommab.stk Go.Proofs.Ytkcfghbkcgommab.boxed Go.Proofs.Ytkcfghbkcgommab.ft Go.Proofs.Ytkcfghbkcgommab.seq Go.Proofs.Ytkcfghbkcgommab.tab Go.Proofs.Ytkcfghbkcgommab.dp
set_option linter.unusedVariables false
set_option linter.unusedSimpArgs false
theorem wLo_le {g : Nat → Int} {m : Nat} {a b : Int} {j : Nat} (h1 : a ≤ (j : Int)) (h2 : (j : Int) ≤ b) (h3 : j < m) : wLo g m a b ≤ g j := by
  obtain ⟨i, hi, rfl⟩ := (w_mem (m := m) (a := a) (b := b) (j := j)).2 ⟨h1, h2, h3⟩
  exact mn_le g _ _ i hi
theorem wHi_le {g : Nat → Int} {m : Nat} {a b : Int} {j : Nat} (h1 : a ≤ (j : Int)) (h2 : (j : Int) ≤ b) (h3 : j < m) : g j ≤ wHi g m a b := by
  obtain ⟨i, hi, rfl⟩ := (w_mem (m := m) (a := a) (b := b) (j := j)).2 ⟨h1, h2, h3⟩
  exact mx_le g _ _ i hi
theorem off_le {n lo hi y : Int} (h1 : lo ≤ y) (h2 : y ≤ hi) : offV n lo hi ≤ absv (n - y) := by unfold offV absv; split <;> omega
theorem offF_le {fb : Nat → P3} {m : Nat} {band : Int} {i j : Nat} {p : P3} (hb : okB band i j) (hj : j < m) (hp : inF p = true) (hq : inF (fb j) = true) : offF fb m band i p ≤ cst p (fb j) := by
  have hd := inF_of hp
  have hd2 := inF_of hq
  unfold okB absv at hb
  have k1 : (i : Int) - band ≤ (j : Int) := by split at hb <;> omega
  have k2 : (j : Int) ≤ (i : Int) + band := by split at hb <;> omega
  have a1 := off_le (n := p.1) (wLo_le (g := fun j => vOf false (fb j)) k1 k2 hj) (wHi_le (g := fun j => vOf false (fb j)) k1 k2 hj)
  have a2 := off_le (n := p.2.1) (wLo_le (g := fun j => vOf true (fb j)) k1 k2 hj) (wHi_le (g := fun j => vOf true (fb j)) k1 k2 hj)
  have e1 : vOf false (fb j) = (fb j).1 := rfl
  have e2 : vOf true (fb j) = (fb j).2.1 := rfl
  rw [e1] at a1
  rw [e2] at a2
  have k3 := (absv_in (n := p.2.2 - (fb j).2.2) (B := 7) (by omega) (by omega))
  unfold offF cst
  omega
theorem offF_self {fb : Nat → P3} {m : Nat} {band : Int} {i : Nat} (hb : 0 ≤ band) (hi : i < m) : offF fb m band i (fb i) = 0 := by
  have k1 : (i : Int) - band ≤ (i : Int) := by omega
  have k2 : (i : Int) ≤ (i : Int) + band := by omega
  have a1 := wLo_le (g := fun j => vOf false (fb j)) k1 k2 hi
  have a2 := wHi_le (g := fun j => vOf false (fb j)) k1 k2 hi
  have a3 := wLo_le (g := fun j => vOf true (fb j)) k1 k2 hi
  have a4 := wHi_le (g := fun j => vOf true (fb j)) k1 k2 hi
  have e1 : vOf false (fb i) = (fb i).1 := rfl
  have e2 : vOf true (fb i) = (fb i).2.1 := rfl
  rw [e1] at a1 a2
  rw [e2] at a3 a4
  unfold offF offV
  omega
/-- What lies outside costs no more than a path. -/
theorem out_le {fa fb : Nat → P3} {band : Int} {n m : Nat} (ha : ∀ i, i < n → inF (fa i) = true) (hb : ∀ j, j < m → inF (fb j) = true) {i j : Nat} {c : Int} (p : Pt (okB band) (gC fa fb) 0 0 i j c) (hi : i < n) (hj : j < m) : outE fa fb m band (i + 1) ≤ c := by
  have hg : ∀ i j, i < n → j < m → 0 ≤ gC fa fb i j := fun i j h1 h2 => (cst_in (ha i h1) (hb j h2)).1
  have step : ∀ i j, okB band i j → i < n → j < m → offF fb m band i (fa i) ≤ gC fa fb i j := fun i j h h1 h2 => offF_le h h2 (ha i h1) (hb j h2)
  induction p with
  | here h =>
    have := step 0 0 h hi hj
    unfold outE outE; omega
  | @diag i j c p h ih =>
    have h1 := ih (by omega) (by omega)
    have h2 := step _ _ h hi hj
    rw [outE]; omega
  | @down i j c p h ih =>
    have h1 := ih (by omega) hj
    have h2 := step _ _ h hi hj
    rw [outE]; omega
  | @right i j c p h ih =>
    have h1 := ih hi (by omega)
    have h2 := hg _ _ hi hj
    omega
/-- The first and the last pair cost no more than a path. -/
theorem ends_le {fa fb : Nat → P3} {band : Int} {n m : Nat} (ha : ∀ i, i < n → inF (fa i) = true) (hb : ∀ j, j < m → inF (fb j) = true) {i j : Nat} {c : Int} (p : Pt (okB band) (gC fa fb) 0 0 i j c) (hi : i < n) (hj : j < m) : gC fa fb 0 0 ≤ c ∧ ((i ≠ 0 ∨ j ≠ 0) → gC fa fb 0 0 + gC fa fb i j ≤ c) := by
  have hg : ∀ i j, i < n → j < m → 0 ≤ gC fa fb i j := fun i j h1 h2 => (cst_in (ha i h1) (hb j h2)).1
  induction p with
  | here h => exact ⟨Int.le_refl _, fun h => by omega⟩
  | @diag i j c p h ih =>
    have h1 := ih (by omega) (by omega)
    have h2 := hg _ _ hi hj
    exact ⟨by omega, fun _ => by omega⟩
  | @down i j c p h ih =>
    have h1 := ih (by omega) hj
    have h2 := hg _ _ hi hj
    exact ⟨by omega, fun _ => by omega⟩
  | @right i j c p h ih =>
    have h1 := ih hi (by omega)
    have h2 := hg _ _ hi hj
    exact ⟨by omega, fun _ => by omega⟩
/-- The bound is never greater than the least cost. -/
theorem bound_le {fa fb : Nat → P3} {band : Int} {n m : Nat} (va : okQ n fa = true) (vb : okQ m fb = true) (hf : tab fa fb band (n - 1) (m - 1) ≠ far) : boundE n m fa fb band ≤ tab fa fb band (n - 1) (m - 1) := by
  obtain ⟨a1, a2, a3⟩ := okQ_of va
  obtain ⟨b1, b2, b3⟩ := okQ_of vb
  have p := tab_path _ (n - 1) (m - 1) rfl hf
  have h1 := out_le a3 b3 p (by omega) (by omega)
  have h2 := ends_le a3 b3 p (by omega) (by omega)
  rw [Nat.sub_add_cancel a1] at h1
  have e : endsE n m fa fb ≤ tab fa fb band (n - 1) (m - 1) := by
    unfold endsE
    split
    · rename_i h; exact h2.2 (by omega)
    · have := h2.1; unfold gC at this; omega
  unfold boundE
  omega
end Go.Proofs.Ytkcfghbkcgommab.env
