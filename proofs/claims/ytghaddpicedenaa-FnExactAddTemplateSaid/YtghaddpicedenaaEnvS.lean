/-
  Proved: windows of a list: their least and greatest numbers as functions, bounds, and what they are (plain lemmas); what the document's function that looks for the least and greatest numbers near an index returns; what the document's functions that test a band, and that tell how far a number is outside of bounds, return; what the document's functions that test an envelope return; what the document's functions that test an envelope, and that tell how far a list is outside of it, return; what the document's functions that tell how far a list is outside of an envelope return.
  Conditions: those of each theorem.
-/
import Derived.Test.YtghaddpicedenaaSeq
namespace Go.Proofs.Ytghaddpicedenaa.env
open Go.ChangeShapes Go.WideShapes Go.ChangeAt Go.RowKit Go.Joins
open Go.Proofs.Ytghaddpicedenaa.core Go.Proofs.Ytghaddpicedenaa.rown Go.Proofs.Ytghaddpicedenaa.stk Go.Proofs.Ytghaddpicedenaa.boxed Go.Proofs.Ytghaddpicedenaa.ft Go.Proofs.Ytghaddpicedenaa.seq
set_option linter.unusedVariables false
set_option linter.unusedSimpArgs false
/-- The coordinate that is asked for. -/
def vOf (ver : Bool) (p : P3) : Int := if ver = true then p.2.1 else p.1
theorem vOf_in {p : P3} (h : inF p = true) (ver : Bool) : 0 ≤ vOf ver p ∧ vOf ver p ≤ 255 := by
  have h := inF_of h
  unfold vOf
  split <;> omega
/-- The least and the greatest of c numbers from s on. -/
def mnR (g : Nat → Int) (s : Nat) : Nat → Int
  | 0 => 255
  | c + 1 => min (mnR g s c) (g (s + c))
def mxR (g : Nat → Int) (s : Nat) : Nat → Int
  | 0 => 0
  | c + 1 => max (mxR g s c) (g (s + c))
/-- Where the window of from and to begins, and how many elements of m it has. -/
def wS (a : Int) : Nat := (max 0 a).toNat
def wN (m : Nat) (a b : Int) : Nat := (min (b + 1) (m : Int) - max 0 a).toNat
def wLo (g : Nat → Int) (m : Nat) (a b : Int) : Int := mnR g (wS a) (wN m a b)
def wHi (g : Nat → Int) (m : Nat) (a b : Int) : Int := mxR g (wS a) (wN m a b)
theorem mn_in {g : Nat → Int} {s : Nat} : ∀ {c}, (∀ j, j < c → 0 ≤ g (s + j) ∧ g (s + j) ≤ 255) → 0 ≤ mnR g s c ∧ mnR g s c ≤ 255
  | 0, _ => by unfold mnR; omega
  | c + 1, h => by
    have h1 := mn_in (g := g) (s := s) (c := c) fun j hj => h j (by omega)
    have h2 := h c (by omega)
    unfold mnR; omega
theorem mx_in {g : Nat → Int} {s : Nat} : ∀ {c}, (∀ j, j < c → 0 ≤ g (s + j) ∧ g (s + j) ≤ 255) → 0 ≤ mxR g s c ∧ mxR g s c ≤ 255
  | 0, _ => by unfold mxR; omega
  | c + 1, h => by
    have h1 := mx_in (g := g) (s := s) (c := c) fun j hj => h j (by omega)
    have h2 := h c (by omega)
    unfold mxR; omega
theorem mn_le (g : Nat → Int) (s : Nat) : ∀ c j, j < c → mnR g s c ≤ g (s + j)
  | 0, j, h => absurd h (by omega)
  | c + 1, j, h => by
    unfold mnR
    by_cases e : j = c
    · subst e; omega
    · have := mn_le g s c j (by omega); omega
theorem mx_le (g : Nat → Int) (s : Nat) : ∀ c j, j < c → g (s + j) ≤ mxR g s c
  | 0, j, h => absurd h (by omega)
  | c + 1, j, h => by
    unfold mxR
    by_cases e : j = c
    · subst e; omega
    · have := mx_le g s c j (by omega); omega
theorem mn_at (g : Nat → Int) (s : Nat) : ∀ c, mnR g s c = 255 ∨ ∃ j, j < c ∧ mnR g s c = g (s + j)
  | 0 => .inl rfl
  | c + 1 => by
    unfold mnR
    rcases mn_at g s c with h | ⟨j, hj, h⟩
    · by_cases e : 255 ≤ g (s + c)
      · left; omega
      · exact .inr ⟨c, by omega, by omega⟩
    · by_cases e : g (s + j) ≤ g (s + c)
      · exact .inr ⟨j, by omega, by omega⟩
      · exact .inr ⟨c, by omega, by omega⟩
theorem mx_at (g : Nat → Int) (s : Nat) : ∀ c, mxR g s c = 0 ∨ ∃ j, j < c ∧ mxR g s c = g (s + j)
  | 0 => .inl rfl
  | c + 1 => by
    unfold mxR
    rcases mx_at g s c with h | ⟨j, hj, h⟩
    · by_cases e : g (s + c) ≤ 0
      · left; omega
      · exact .inr ⟨c, by omega, by omega⟩
    · by_cases e : g (s + c) ≤ g (s + j)
      · exact .inr ⟨j, by omega, by omega⟩
      · exact .inr ⟨c, by omega, by omega⟩
/-- The elements of a window. -/
theorem w_mem {m : Nat} {a b : Int} {j : Nat} : (∃ i, i < wN m a b ∧ j = wS a + i) ↔ (a ≤ (j : Int) ∧ (j : Int) ≤ b ∧ j < m) := by
  unfold wN wS
  constructor
  · rintro ⟨i, hi, rfl⟩; omega
  · intro h; exact ⟨j - (max 0 a).toNat, by omega, by omega⟩
/-- What the least number of a window is. -/
theorem wLo_iff {g : Nat → Int} {m : Nat} {a b v : Int} (hg : ∀ j, j < m → g j ≤ 255) (hne : ∃ j : Nat, a ≤ (j : Int) ∧ (j : Int) ≤ b ∧ j < m) : wLo g m a b = v ↔ (∀ j : Nat, a ≤ (j : Int) → (j : Int) ≤ b → j < m → v ≤ g j) ∧ ∃ j : Nat, a ≤ (j : Int) ∧ (j : Int) ≤ b ∧ j < m ∧ v = g j := by
  have low : ∀ j : Nat, a ≤ (j : Int) → (j : Int) ≤ b → j < m → wLo g m a b ≤ g j := fun j h1 h2 h3 => by
    obtain ⟨i, hi, rfl⟩ := (w_mem (m := m) (a := a) (b := b) (j := j)).2 ⟨h1, h2, h3⟩
    exact mn_le g _ _ i hi
  have att : ∃ j : Nat, a ≤ (j : Int) ∧ (j : Int) ≤ b ∧ j < m ∧ wLo g m a b = g j := by
    rcases mn_at g (wS a) (wN m a b) with h | ⟨i, hi, h⟩
    · obtain ⟨j, h1, h2, h3⟩ := hne
      have q1 := low j h1 h2 h3
      have q2 := hg j h3
      exact ⟨j, h1, h2, h3, by unfold wLo at q1 ⊢; omega⟩
    · obtain ⟨h1, h2, h3⟩ := (w_mem (m := m) (a := a) (b := b)).1 ⟨i, hi, rfl⟩
      exact ⟨_, h1, h2, h3, h⟩
  constructor
  · rintro rfl; exact ⟨low, att⟩
  · rintro ⟨h1, j, a1, a2, a3, rfl⟩
    obtain ⟨i, b1, b2, b3, e⟩ := att
    have := low j a1 a2 a3
    have := h1 i b1 b2 b3
    omega
theorem wHi_iff {g : Nat → Int} {m : Nat} {a b v : Int} (hg : ∀ j, j < m → 0 ≤ g j) (hne : ∃ j : Nat, a ≤ (j : Int) ∧ (j : Int) ≤ b ∧ j < m) : wHi g m a b = v ↔ (∀ j : Nat, a ≤ (j : Int) → (j : Int) ≤ b → j < m → g j ≤ v) ∧ ∃ j : Nat, a ≤ (j : Int) ∧ (j : Int) ≤ b ∧ j < m ∧ v = g j := by
  have low : ∀ j : Nat, a ≤ (j : Int) → (j : Int) ≤ b → j < m → g j ≤ wHi g m a b := fun j h1 h2 h3 => by
    obtain ⟨i, hi, rfl⟩ := (w_mem (m := m) (a := a) (b := b) (j := j)).2 ⟨h1, h2, h3⟩
    exact mx_le g _ _ i hi
  have att : ∃ j : Nat, a ≤ (j : Int) ∧ (j : Int) ≤ b ∧ j < m ∧ wHi g m a b = g j := by
    rcases mx_at g (wS a) (wN m a b) with h | ⟨i, hi, h⟩
    · obtain ⟨j, h1, h2, h3⟩ := hne
      have q1 := low j h1 h2 h3
      have q2 := hg j h3
      exact ⟨j, h1, h2, h3, by unfold wHi at q1 ⊢; omega⟩
    · obtain ⟨h1, h2, h3⟩ := (w_mem (m := m) (a := a) (b := b)).1 ⟨i, hi, rfl⟩
      exact ⟨_, h1, h2, h3, h⟩
  constructor
  · rintro rfl; exact ⟨low, att⟩
  · rintro ⟨h1, j, a1, a2, a3, rfl⟩
    obtain ⟨i, b1, b2, b3, e⟩ := att
    have := low j a1 a2 a3
    have := h1 i b1 b2 b3
    omega
theorem w_in {g : Nat → Int} {m : Nat} {a b : Int} (hg : ∀ j, j < m → 0 ≤ g j ∧ g j ≤ 255) : (0 ≤ wLo g m a b ∧ wLo g m a b ≤ 255) ∧ (0 ≤ wHi g m a b ∧ wHi g m a b ≤ 255) := by
  have h : ∀ j, j < wN m a b → 0 ≤ g (wS a + j) ∧ g (wS a + j) ≤ 255 := fun j hj => hg _ ((w_mem (m := m) (a := a) (b := b)).1 ⟨j, hj, rfl⟩).2.2
  exact ⟨mn_in h, mx_in h⟩
theorem w_le {g : Nat → Int} {m : Nat} {a b : Int} (hne : ∃ j : Nat, a ≤ (j : Int) ∧ (j : Int) ≤ b ∧ j < m) : wLo g m a b ≤ wHi g m a b := by
  obtain ⟨j, h⟩ := hne
  obtain ⟨i, hi, rfl⟩ := (w_mem (m := m) (a := a) (b := b) (j := j)).2 h
  have h1 := mn_le g (wS a) _ i hi
  have h2 := mx_le g (wS a) _ i hi
  unfold wLo wHi; omega
/-- How far a number is outside of bounds. -/
def offV (n lo hi : Int) : Int := max 0 (max (lo - n) (n - hi))
theorem off_in {n lo hi : Int} (h1 : 0 ≤ n ∧ n ≤ 255) (h2 : 0 ≤ lo ∧ lo ≤ 255) (h3 : 0 ≤ hi ∧ hi ≤ 255) : 0 ≤ offV n lo hi ∧ offV n lo hi ≤ 255 := by unfold offV; omega
/-- How far a feature is outside of the envelope at a place. -/
def offF (fb : Nat → P3) (m : Nat) (band : Int) (i : Nat) (p : P3) : Int :=
  offV p.1 (wLo (fun j => vOf false (fb j)) m ((i : Int) - band) ((i : Int) + band)) (wHi (fun j => vOf false (fb j)) m ((i : Int) - band) ((i : Int) + band)) +
  offV p.2.1 (wLo (fun j => vOf true (fb j)) m ((i : Int) - band) ((i : Int) + band)) (wHi (fun j => vOf true (fb j)) m ((i : Int) - band) ((i : Int) + band))
def outE (fa fb : Nat → P3) (m : Nat) (band : Int) : Nat → Int
  | 0 => 0
  | n + 1 => outE fa fb m band n + offF fb m band n (fa n)
/-- The cost of the first and of the last pair. -/
def endsE (na nb : Nat) (fa fb : Nat → P3) : Int := cst (fa 0) (fb 0) + if 1 < na ∨ 1 < nb then cst (fa (na - 1)) (fb (nb - 1)) else 0
/-- The greater one of both bounds. -/
def boundE (na nb : Nat) (fa fb : Nat → P3) (band : Int) : Int := max (outE fa fb nb band na) (endsE na nb fa fb)
end Go.Proofs.Ytghaddpicedenaa.env

namespace Go.Proofs.Ytghaddpicedenaa.env

open Go.ChangeShapes Go.WideShapes Go.ChangeAt Go.RowKit Go.Joins

open Go.Proofs.Ytghaddpicedenaa.core Go.Proofs.Ytghaddpicedenaa.rown Go.Proofs.Ytghaddpicedenaa.stk Go.Proofs.Ytghaddpicedenaa.boxed Go.Proofs.Ytghaddpicedenaa.ft Go.Proofs.Ytghaddpicedenaa.seq
set_option linter.unusedVariables false
set_option linter.unusedSimpArgs false
end Go.Proofs.Ytghaddpicedenaa.env

namespace Go.Proofs.Ytghaddpicedenaa.env

open Go.ChangeShapes Go.WideShapes Go.ChangeAt Go.RowKit Go.Joins

open Go.Proofs.Ytghaddpicedenaa.core Go.Proofs.Ytghaddpicedenaa.rown Go.Proofs.Ytghaddpicedenaa.stk Go.Proofs.Ytghaddpicedenaa.boxed Go.Proofs.Ytghaddpicedenaa.ft Go.Proofs.Ytghaddpicedenaa.seq
set_option linter.unusedVariables false
set_option linter.unusedSimpArgs false
/-- The band fits both lengths. -/
def bandOk (n m band : Int) : Bool := decide ((0 ≤ band ∧ band ≤ 72) ∧ absv (n - m) ≤ band)
end Go.Proofs.Ytghaddpicedenaa.env

namespace Go.Proofs.Ytghaddpicedenaa.env

open Go.ChangeShapes Go.WideShapes Go.ChangeAt Go.RowKit Go.Joins

open Go.Proofs.Ytghaddpicedenaa.core Go.Proofs.Ytghaddpicedenaa.rown Go.Proofs.Ytghaddpicedenaa.stk Go.Proofs.Ytghaddpicedenaa.boxed Go.Proofs.Ytghaddpicedenaa.ft Go.Proofs.Ytghaddpicedenaa.seq
set_option linter.unusedVariables false
set_option linter.unusedSimpArgs false
/-- A list of numbers. -/
def NumAt (w : World) (A : Option Addr) (n : Nat) (g : Nat → Int) : Prop :=
  ∀ i, i < n → ∃ b o : Nat, A = some ⟨b, o, none⟩ ∧ b < w.heap.size ∧ w.cell? ⟨b, o + i, none⟩ = some (.int .i64 (g i))
theorem NumAt.kept {w w' : World} {A : Option Addr} {n : Nat} {g : Nat → Int} (h : NumAt w A n g) (hb : Below w.heap.size w w') : NumAt w' A n g := fun i hi => by
  obtain ⟨b, o, e, h1, h2⟩ := h i hi
  exact ⟨b, o, e, Nat.lt_of_lt_of_le h1 hb.size, (hb.cell (p := ⟨b, o + i, none⟩) h1).trans h2⟩
/-- Low and high numbers are bounds. -/
noncomputable def bndOk (n m : Nat) (lo hi : Nat → Int) : Bool := @decide (n = m ∧ (1 ≤ n ∧ n ≤ 72) ∧ ∀ i, i < n → (0 ≤ lo i ∧ lo i ≤ hi i) ∧ hi i ≤ 255) (Classical.propDecidable _)
theorem bnd_true {n m : Nat} {lo hi : Nat → Int} (h : n = m ∧ (1 ≤ n ∧ n ≤ 72) ∧ ∀ i, i < n → (0 ≤ lo i ∧ lo i ≤ hi i) ∧ hi i ≤ 255) : bndOk n m lo hi = true := by
  unfold bndOk; exact @decide_eq_true _ (Classical.propDecidable _) h
theorem bnd_of {n m : Nat} {lo hi : Nat → Int} (h : bndOk n m lo hi = true) : n = m ∧ (1 ≤ n ∧ n ≤ 72) ∧ ∀ i, i < n → (0 ≤ lo i ∧ lo i ≤ hi i) ∧ hi i ≤ 255 := by
  unfold bndOk at h; exact @of_decide_eq_true _ (Classical.propDecidable _) h
theorem bnd_no {n m : Nat} {lo hi : Nat → Int} (h : ¬ (n = m ∧ (1 ≤ n ∧ n ≤ 72) ∧ ∀ i, i < n → (0 ≤ lo i ∧ lo i ≤ hi i) ∧ hi i ≤ 255)) : bndOk n m lo hi = false := by
  unfold bndOk; exact @decide_eq_false _ (Classical.propDecidable _) h
end Go.Proofs.Ytghaddpicedenaa.env

namespace Go.Proofs.Ytghaddpicedenaa.env

open Go.ChangeShapes Go.WideShapes Go.ChangeAt Go.RowKit Go.Joins

open Go.Proofs.Ytghaddpicedenaa.core Go.Proofs.Ytghaddpicedenaa.rown Go.Proofs.Ytghaddpicedenaa.stk Go.Proofs.Ytghaddpicedenaa.boxed Go.Proofs.Ytghaddpicedenaa.ft Go.Proofs.Ytghaddpicedenaa.seq
set_option linter.unusedVariables false
set_option linter.unusedSimpArgs false
/-- The four lists of an envelope: where they lie, how long they are, what room they have. -/
def envV (ea : Nat → Option Addr) (en ec : Nat → Nat) (k : Nat) : Value := .slice (ea k) (en k) (ec k)
/-- An envelope in block B. -/
structure EnvAt (w : World) (B : Nat) (ea : Nat → Option Addr) (en ec : Nat → Nat) (eg : Nat → Nat → Int) : Prop where
  lt : B < w.heap.size
  cells : ∀ k, k < 4 → w.cell? ⟨B, k, none⟩ = some (.slice (ea k) (en k) (ec k))
  nums : ∀ k, k < 4 → NumAt w (ea k) (en k) (eg k)
theorem EnvAt.kept {w w' : World} {B : Nat} {ea : Nat → Option Addr} {en ec : Nat → Nat} {eg : Nat → Nat → Int} (h : EnvAt w B ea en ec eg) (hb : Below w.heap.size w w') : EnvAt w' B ea en ec eg :=
  ⟨Nat.lt_of_lt_of_le h.lt hb.size, fun k hk => (hb.cell (p := ⟨B, k, none⟩) h.lt).trans (h.cells k hk), fun k hk => (h.nums k hk).kept hb⟩
noncomputable def okE (en : Nat → Nat) (eg : Nat → Nat → Int) : Bool := bndOk (en 0) (en 1) (eg 0) (eg 1) && bndOk (en 2) (en 3) (eg 2) (eg 3) && decide (en 0 = en 2)
end Go.Proofs.Ytghaddpicedenaa.env

namespace Go.Proofs.Ytghaddpicedenaa.env

open Go.ChangeShapes Go.WideShapes Go.ChangeAt Go.RowKit Go.Joins

open Go.Proofs.Ytghaddpicedenaa.core Go.Proofs.Ytghaddpicedenaa.rown Go.Proofs.Ytghaddpicedenaa.stk Go.Proofs.Ytghaddpicedenaa.boxed Go.Proofs.Ytghaddpicedenaa.ft Go.Proofs.Ytghaddpicedenaa.seq
set_option linter.unusedVariables false
set_option linter.unusedSimpArgs false
def offG (fa : Nat → P3) (eg : Nat → Nat → Int) (i : Nat) : Int := offV (fa i).1 (eg 0 i) (eg 1 i) + offV (fa i).2.1 (eg 2 i) (eg 3 i)
def outG (fa : Nat → P3) (eg : Nat → Nat → Int) : Nat → Int
  | 0 => 0
  | n + 1 => outG fa eg n + offG fa eg n
theorem okE_of {en : Nat → Nat} {eg : Nat → Nat → Int} (h : okE en eg = true) : (1 ≤ en 0 ∧ en 0 ≤ 72) ∧ (en 1 = en 0 ∧ en 2 = en 0 ∧ en 3 = en 0) ∧ ∀ i, i < en 0 → (0 ≤ eg 0 i ∧ eg 0 i ≤ eg 1 i ∧ eg 1 i ≤ 255) ∧ (0 ≤ eg 2 i ∧ eg 2 i ≤ eg 3 i ∧ eg 3 i ≤ 255) := by
  unfold okE at h
  rw [Bool.and_eq_true, Bool.and_eq_true] at h
  obtain ⟨⟨h1, h2⟩, h3⟩ := h
  have h3 := of_decide_eq_true h3
  obtain ⟨e1, r1, q1⟩ := bnd_of h1
  obtain ⟨e2, r2, q2⟩ := bnd_of h2
  refine ⟨r1, ⟨e1.symm, h3.symm, by omega⟩, fun i hi => ?_⟩
  have a := q1 i hi
  have b := q2 i (by omega)
  omega
theorem out_in {fa : Nat → P3} {eg : Nat → Nat → Int} : ∀ {n}, (∀ i, i < n → 0 ≤ offG fa eg i ∧ offG fa eg i ≤ 510) → 0 ≤ outG fa eg n ∧ outG fa eg n ≤ 510 * (n : Int)
  | 0, _ => by unfold outG; omega
  | n + 1, h => by
    have h1 := out_in (n := n) fun i hi => h i (by omega)
    have h2 := h n (by omega)
    unfold outG; omega
/-- The code and the answer. -/
noncomputable def outC (na : Nat) (fa : Nat → P3) (en : Nat → Nat) (eg : Nat → Nat → Int) : Int := if okQ na fa = true ∧ okE en eg = true then (if na = en 0 then 0 else 2) else 1
noncomputable def outR (na : Nat) (fa : Nat → P3) (en : Nat → Nat) (eg : Nat → Nat → Int) : Int := if outC na fa en eg = 0 then outG fa eg na else 0
theorem outC_of {na : Nat} {fa : Nat → P3} {en : Nat → Nat} {eg : Nat → Nat → Int} (h : outC na fa en eg = 0) : okQ na fa = true ∧ okE en eg = true ∧ na = en 0 := by
  unfold outC at h
  split at h
  · rename_i h1
    split at h
    · rename_i h2; exact ⟨h1.1, h1.2, h2⟩
    · cases h
  · cases h
end Go.Proofs.Ytghaddpicedenaa.env
