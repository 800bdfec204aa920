/-
  Proved: what the document's function that matches a sequence with a part of another one returns.
  Conditions: none.
-/
import Derived.Test.YthpmckfjlbiiiabElas
namespace Go.Proofs.Ythpmckfjlbiiiab.tab
open Go.ChangeShapes Go.WideShapes Go.ChangeAt Go.RowKit Go.Joins
open Go.Proofs.Ythpmckfjlbiiiab.core Go.Proofs.Ythpmckfjlbiiiab.rown Go.Proofs.Ythpmckfjlbiiiab.stk Go.Proofs.Ythpmckfjlbiiiab.boxed Go.Proofs.Ythpmckfjlbiiiab.ft Go.Proofs.Ythpmckfjlbiiiab.seq
set_option linter.unusedVariables false
set_option linter.unusedSimpArgs false
/-- A part of a list. -/
def shift (fb : Nat → P3) (x : Nat) : Nat → P3 := fun j => fb (x + j)
theorem shift_at {w : World} {g o nb x e : Nat} {fb : Nat → P3} (h : PtsAt w (some ⟨g, o, none⟩) nb fb) (he : e ≤ nb) : PtsAt w (some ⟨g, o + x * 3, none⟩) (e - x) (shift fb x) := fun i hi => by
  obtain ⟨b, o', e1, h1, h2, h3, h4⟩ := h (x + i) (by omega)
  injection e1 with e1
  injection e1 with e1 e2
  subst e1 e2
  rw [show o + (x + i) * 3 = o + x * 3 + i * 3 by omega] at h2 h3 h4
  exact ⟨g, o + x * 3, rfl, h1, h2, h3, h4⟩
theorem shift_ok {nb x e : Nat} {fb : Nat → P3} (h : okQ nb fb = true) (hx : x < e) (he : e ≤ nb) : okQ (e - x) (shift fb x) = true := by
  obtain ⟨h1, h2, h3⟩ := okQ_of h
  exact okQ_true (by omega) (by omega) fun i hi => h3 _ (by omega)
/-- The cost of the part from x to e. -/
def partC (na : Nat) (fa fb : Nat → P3) (x e : Nat) : Int := leastE na (e - x) fa (shift fb x) 72
/-- The best part so far: its cost and its ends. -/
def pin (na : Nat) (fa fb : Nat → P3) (e : Nat) (s : Int × Nat × Nat) : Nat → Int × Nat × Nat
  | 0 => s
  | c + 1 => if partC na fa fb (e - 1 - c) e < (pin na fa fb e s c).1 then (partC na fa fb (e - 1 - c) e, e - 1 - c, e) else pin na fa fb e s c
def pout (na : Nat) (fa fb : Nat → P3) : Nat → Int × Nat × Nat
  | 0 => (far, 0, 0)
  | e + 1 => pin na fa fb (e + 1) (pout na fa fb e) (e + 1)
noncomputable def partOk (na nb : Nat) (fa fb : Nat → P3) : Bool := okQ na fa && okQ nb fb
end Go.Proofs.Ythpmckfjlbiiiab.tab
