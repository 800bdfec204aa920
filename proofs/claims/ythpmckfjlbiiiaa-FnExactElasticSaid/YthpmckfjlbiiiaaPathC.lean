/-
  Proved: what the document's function that tells the cost of a path returns.
  Conditions: none.
-/
import Derived.Test.YthpmckfjlbiiiaaPathV
namespace Go.Proofs.Ythpmckfjlbiiiaa.path
open Go.ChangeShapes Go.WideShapes Go.ChangeAt Go.RowKit Go.Joins
open Go.Proofs.Ythpmckfjlbiiiaa.core Go.Proofs.Ythpmckfjlbiiiaa.rown Go.Proofs.Ythpmckfjlbiiiaa.stk Go.Proofs.Ythpmckfjlbiiiaa.boxed Go.Proofs.Ythpmckfjlbiiiaa.ft Go.Proofs.Ythpmckfjlbiiiaa.seq
set_option linter.unusedVariables false
set_option linter.unusedSimpArgs false
def sumZ (g : Nat → Int) : Nat → Int
  | 0 => 0
  | n + 1 => sumZ g n + g n
theorem sumZ_in {g : Nat → Int} {B : Int} : ∀ {n : Nat}, (∀ j, j < n → 0 ≤ g j ∧ g j ≤ B) → 0 ≤ sumZ g n ∧ sumZ g n ≤ (n : Int) * B
  | 0, _ => by simp [sumZ]
  | n + 1, h => by
    have h1 := sumZ_in (n := n) fun j hj => h j (by omega)
    have h2 := h n (by omega)
    have h3 : ((n + 1 : Nat) : Int) * B = (n : Int) * B + B := by push_cast; rw [Int.add_mul, Int.one_mul]
    rw [h3]; unfold sumZ; omega
/-- The cost of one pair of a path. -/
def pcAt (fa fb : Nat → P3) (f : Nat → P2) (x : Nat) : Int := cst (fa (f x).1.toNat) (fb (f x).2.toNat)
noncomputable def pcR (na nb k : Nat) (fa fb : Nat → P3) (f : Nat → P2) : Int := if fitC na nb k fa fb f = 0 then sumZ (pcAt fa fb f) k else 0
theorem fit_of {na nb k : Nat} {fa fb : Nat → P3} {f : Nat → P2} (h : fitC na nb k fa fb f = 0) : okQ na fa = true ∧ okQ nb fb = true ∧ okPath k f na nb 72 = true := by
  unfold fitC at h
  split at h
  · rename_i h1
    split at h
    · rename_i h2; exact ⟨h1.1, h1.2, h2⟩
    · cases h
  · cases h
theorem fit_any (na nb k : Nat) (fa fb : Nat → P3) (f : Nat → P2) : fitC na nb k fa fb f = 0 ∨ fitC na nb k fa fb f = 1 ∨ fitC na nb k fa fb f = 2 := by
  unfold fitC; split <;> (try split) <;> simp
/-- What a pair of a path points at. -/
theorem fit_at {na nb k : Nat} {fa fb : Nat → P3} {f : Nat → P2} (h : fitC na nb k fa fb f = 0) (x : Nat) (hx : x < k) : ∃ i j, i < na ∧ j < nb ∧ f x = ((i : Int), (j : Int)) ∧ inF (fa i) = true ∧ inF (fb j) = true ∧ pcAt fa fb f x = cst (fa i) (fb j) := by
  obtain ⟨h1, h2, h3⟩ := fit_of h
  obtain ⟨⟨⟨a1, a2⟩, ⟨b1, b2⟩, -⟩, -⟩ := (okPath_of h3).2.2.2 x hx
  refine ⟨(f x).1.toNat, (f x).2.toNat, by omega, by omega, ?_, (okQ_of h1).2.2 _ (by omega), (okQ_of h2).2.2 _ (by omega), rfl⟩
  rw [Prod.ext_iff]
  exact ⟨by simp only; omega, by simp only; omega⟩
end Go.Proofs.Ythpmckfjlbiiiaa.path
