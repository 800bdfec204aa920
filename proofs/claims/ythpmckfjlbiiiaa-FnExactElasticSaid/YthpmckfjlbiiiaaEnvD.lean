/-
  Proved: windows of a list: their least and greatest numbers as functions, bounds, and what they are (plain lemmas).
  Conditions: none.
-/
import Derived.Test.YthpmckfjlbiiiaaSeq
namespace Go.Proofs.Ythpmckfjlbiiiaa.env
open Go.ChangeShapes Go.WideShapes Go.ChangeAt Go.RowKit Go.Joins
open Go.Proofs.Ythpmckfjlbiiiaa.core Go.Proofs.Ythpmckfjlbiiiaa.rown Go.Proofs.Ythpmckfjlbiiiaa.stk Go.Proofs.Ythpmckfjlbiiiaa.boxed Go.Proofs.Ythpmckfjlbiiiaa.ft Go.Proofs.Ythpmckfjlbiiiaa.seq
set_option linter.unusedVariables false
set_option linter.unusedSimpArgs false
/-- The coordinate that is asked for. -/
def vOf (ver : Bool) (p : P3) : Int := if ver = true then p.2.1 else p.1
theorem vOf_in {p : P3} (h : inF p = true) (ver : Bool) : 0 ≤ vOf ver p ∧ vOf ver p ≤ 255 := by
  have h := inF_of h
  unfold vOf
  split <;> omega
/-- The least and the greatest of c numbers from s on. -/
def mnR (g : Nat → Int) (s : Nat) : Nat → Int
  | 0 => 255
  | c + 1 => min (mnR g s c) (g (s + c))
def mxR (g : Nat → Int) (s : Nat) : Nat → Int
  | 0 => 0
  | c + 1 => max (mxR g s c) (g (s + c))
/-- Where the window of from and to begins, and how many elements of m it has. -/
def wS (a : Int) : Nat := (max 0 a).toNat
def wN (m : Nat) (a b : Int) : Nat := (min (b + 1) (m : Int) - max 0 a).toNat
def wLo (g : Nat → Int) (m : Nat) (a b : Int) : Int := mnR g (wS a) (wN m a b)
def wHi (g : Nat → Int) (m : Nat) (a b : Int) : Int := mxR g (wS a) (wN m a b)
theorem mn_in {g : Nat → Int} {s : Nat} : ∀ {c}, (∀ j, j < c → 0 ≤ g (s + j) ∧ g (s + j) ≤ 255) → 0 ≤ mnR g s c ∧ mnR g s c ≤ 255
  | 0, _ => by unfold mnR; omega
  | c + 1, h => by
    have h1 := mn_in (g := g) (s := s) (c := c) fun j hj => h j (by omega)
    have h2 := h c (by omega)
    unfold mnR; omega
theorem mx_in {g : Nat → Int} {s : Nat} : ∀ {c}, (∀ j, j < c → 0 ≤ g (s + j) ∧ g (s + j) ≤ 255) → 0 ≤ mxR g s c ∧ mxR g s c ≤ 255
  | 0, _ => by unfold mxR; omega
  | c + 1, h => by
    have h1 := mx_in (g := g) (s := s) (c := c) fun j hj => h j (by omega)
    have h2 := h c (by omega)
    unfold mxR; omega
theorem mn_le (g : Nat → Int) (s : Nat) : ∀ c j, j < c → mnR g s c ≤ g (s + j)
  | 0, j, h => absurd h (by omega)
  | c + 1, j, h => by
    unfold mnR
    by_cases e : j = c
    · subst e; omega
    · have := mn_le g s c j (by omega); omega
theorem mx_le (g : Nat → Int) (s : Nat) : ∀ c j, j < c → g (s + j) ≤ mxR g s c
  | 0, j, h => absurd h (by omega)
  | c + 1, j, h => by
    unfold mxR
    by_cases e : j = c
    · subst e; omega
    · have := mx_le g s c j (by omega); omega
theorem mn_at (g : Nat → Int) (s : Nat) : ∀ c, mnR g s c = 255 ∨ ∃ j, j < c ∧ mnR g s c = g (s + j)
  | 0 => .inl rfl
  | c + 1 => by
    unfold mnR
    rcases mn_at g s c with h | ⟨j, hj, h⟩
    · by_cases e : 255 ≤ g (s + c)
      · left; omega
      · exact .inr ⟨c, by omega, by omega⟩
    · by_cases e : g (s + j) ≤ g (s + c)
      · exact .inr ⟨j, by omega, by omega⟩
      · exact .inr ⟨c, by omega, by omega⟩
theorem mx_at (g : Nat → Int) (s : Nat) : ∀ c, mxR g s c = 0 ∨ ∃ j, j < c ∧ mxR g s c = g (s + j)
  | 0 => .inl rfl
  | c + 1 => by
    unfold mxR
    rcases mx_at g s c with h | ⟨j, hj, h⟩
    · by_cases e : g (s + c) ≤ 0
      · left; omega
      · exact .inr ⟨c, by omega, by omega⟩
    · by_cases e : g (s + c) ≤ g (s + j)
      · exact .inr ⟨j, by omega, by omega⟩
      · exact .inr ⟨c, by omega, by omega⟩
/-- The elements of a window. -/
theorem w_mem {m : Nat} {a b : Int} {j : Nat} : (∃ i, i < wN m a b ∧ j = wS a + i) ↔ (a ≤ (j : Int) ∧ (j : Int) ≤ b ∧ j < m) := by
  unfold wN wS
  constructor
  · rintro ⟨i, hi, rfl⟩; omega
  · intro h; exact ⟨j - (max 0 a).toNat, by omega, by omega⟩
/-- What the least number of a window is. -/
theorem wLo_iff {g : Nat → Int} {m : Nat} {a b v : Int} (hg : ∀ j, j < m → g j ≤ 255) (hne : ∃ j : Nat, a ≤ (j : Int) ∧ (j : Int) ≤ b ∧ j < m) : wLo g m a b = v ↔ (∀ j : Nat, a ≤ (j : Int) → (j : Int) ≤ b → j < m → v ≤ g j) ∧ ∃ j : Nat, a ≤ (j : Int) ∧ (j : Int) ≤ b ∧ j < m ∧ v = g j := by
  have low : ∀ j : Nat, a ≤ (j : Int) → (j : Int) ≤ b → j < m → wLo g m a b ≤ g j := fun j h1 h2 h3 => by
    obtain ⟨i, hi, rfl⟩ := (w_mem (m := m) (a := a) (b := b) (j := j)).2 ⟨h1, h2, h3⟩
    exact mn_le g _ _ i hi
  have att : ∃ j : Nat, a ≤ (j : Int) ∧ (j : Int) ≤ b ∧ j < m ∧ wLo g m a b = g j := by
    rcases mn_at g (wS a) (wN m a b) with h | ⟨i, hi, h⟩
    · obtain ⟨j, h1, h2, h3⟩ := hne
      have q1 := low j h1 h2 h3
      have q2 := hg j h3
      exact ⟨j, h1, h2, h3, by unfold wLo at q1 ⊢; omega⟩
    · obtain ⟨h1, h2, h3⟩ := (w_mem (m := m) (a := a) (b := b)).1 ⟨i, hi, rfl⟩
      exact ⟨_, h1, h2, h3, h⟩
  constructor
  · rintro rfl; exact ⟨low, att⟩
  · rintro ⟨h1, j, a1, a2, a3, rfl⟩
    obtain ⟨i, b1, b2, b3, e⟩ := att
    have := low j a1 a2 a3
    have := h1 i b1 b2 b3
    omega
theorem wHi_iff {g : Nat → Int} {m : Nat} {a b v : Int} (hg : ∀ j, j < m → 0 ≤ g j) (hne : ∃ j : Nat, a ≤ (j : Int) ∧ (j : Int) ≤ b ∧ j < m) : wHi g m a b = v ↔ (∀ j : Nat, a ≤ (j : Int) → (j : Int) ≤ b → j < m → g j ≤ v) ∧ ∃ j : Nat, a ≤ (j : Int) ∧ (j : Int) ≤ b ∧ j < m ∧ v = g j := by
  have low : ∀ j : Nat, a ≤ (j : Int) → (j : Int) ≤ b → j < m → g j ≤ wHi g m a b := fun j h1 h2 h3 => by
    obtain ⟨i, hi, rfl⟩ := (w_mem (m := m) (a := a) (b := b) (j := j)).2 ⟨h1, h2, h3⟩
    exact mx_le g _ _ i hi
  have att : ∃ j : Nat, a ≤ (j : Int) ∧ (j : Int) ≤ b ∧ j < m ∧ wHi g m a b = g j := by
    rcases mx_at g (wS a) (wN m a b) with h | ⟨i, hi, h⟩
    · obtain ⟨j, h1, h2, h3⟩ := hne
      have q1 := low j h1 h2 h3
      have q2 := hg j h3
      exact ⟨j, h1, h2, h3, by unfold wHi at q1 ⊢; omega⟩
    · obtain ⟨h1, h2, h3⟩ := (w_mem (m := m) (a := a) (b := b)).1 ⟨i, hi, rfl⟩
      exact ⟨_, h1, h2, h3, h⟩
  constructor
  · rintro rfl; exact ⟨low, att⟩
  · rintro ⟨h1, j, a1, a2, a3, rfl⟩
    obtain ⟨i, b1, b2, b3, e⟩ := att
    have := low j a1 a2 a3
    have := h1 i b1 b2 b3
    omega
theorem w_in {g : Nat → Int} {m : Nat} {a b : Int} (hg : ∀ j, j < m → 0 ≤ g j ∧ g j ≤ 255) : (0 ≤ wLo g m a b ∧ wLo g m a b ≤ 255) ∧ (0 ≤ wHi g m a b ∧ wHi g m a b ≤ 255) := by
  have h : ∀ j, j < wN m a b → 0 ≤ g (wS a + j) ∧ g (wS a + j) ≤ 255 := fun j hj => hg _ ((w_mem (m := m) (a := a) (b := b)).1 ⟨j, hj, rfl⟩).2.2
  exact ⟨mn_in h, mx_in h⟩
theorem w_le {g : Nat → Int} {m : Nat} {a b : Int} (hne : ∃ j : Nat, a ≤ (j : Int) ∧ (j : Int) ≤ b ∧ j < m) : wLo g m a b ≤ wHi g m a b := by
  obtain ⟨j, h⟩ := hne
  obtain ⟨i, hi, rfl⟩ := (w_mem (m := m) (a := a) (b := b) (j := j)).2 h
  have h1 := mn_le g (wS a) _ i hi
  have h2 := mx_le g (wS a) _ i hi
  unfold wLo wHi; omega
/-- How far a number is outside of bounds. -/
def offV (n lo hi : Int) : Int := max 0 (max (lo - n) (n - hi))
theorem off_in {n lo hi : Int} (h1 : 0 ≤ n ∧ n ≤ 255) (h2 : 0 ≤ lo ∧ lo ≤ 255) (h3 : 0 ≤ hi ∧ hi ≤ 255) : 0 ≤ offV n lo hi ∧ offV n lo hi ≤ 255 := by unfold offV; omega
/-- How far a feature is outside of the envelope at a place. -/
def offF (fb : Nat → P3) (m : Nat) (band : Int) (i : Nat) (p : P3) : Int :=
  offV p.1 (wLo (fun j => vOf false (fb j)) m ((i : Int) - band) ((i : Int) + band)) (wHi (fun j => vOf false (fb j)) m ((i : Int) - band) ((i : Int) + band)) +
  offV p.2.1 (wLo (fun j => vOf true (fb j)) m ((i : Int) - band) ((i : Int) + band)) (wHi (fun j => vOf true (fb j)) m ((i : Int) - band) ((i : Int) + band))
def outE (fa fb : Nat → P3) (m : Nat) (band : Int) : Nat → Int
  | 0 => 0
  | n + 1 => outE fa fb m band n + offF fb m band n (fa n)
/-- The cost of the first and of the last pair. -/
def endsE (na nb : Nat) (fa fb : Nat → P3) : Int := cst (fa 0) (fb 0) + if 1 < na ∨ 1 < nb then cst (fa (na - 1)) (fb (nb - 1)) else 0
/-- The greater one of both bounds. -/
def boundE (na nb : Nat) (fa fb : Nat → P3) (band : Int) : Int := max (outE fa fb nb band na) (endsE na nb fa fb)
end Go.Proofs.Ythpmckfjlbiiiaa.env
