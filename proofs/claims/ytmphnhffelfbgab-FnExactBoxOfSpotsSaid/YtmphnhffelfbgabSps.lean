/-
  Proved: a list of places that is read out of memory, as a number and a function.
  Conditions: none.
-/
import Derived.Test.YtmphnhffelfbgabView
import Derived.Test.YtmphnhffelfbgabLenI
namespace Go.Proofs.Ytmphnhffelfbgab.sps
open Go.ChangeShapes Go.WideShapes Go.ChangeAt Go.RowKit Go.Joins
open Go.Proofs.Ytmphnhffelfbgab.core Go.Proofs.Ytmphnhffelfbgab.lenI
set_option linter.unusedVariables false
set_option linter.unusedSimpArgs false
abbrev P2 := Int × Int
/-- A list of places. -/
def SpAt (w : World) (A : Option Addr) (n : Nat) (f : Nat → P2) : Prop :=
  ∀ i, i < n → ∃ b o : Nat, A = some ⟨b, o, none⟩ ∧ b < w.heap.size ∧ w.cell? ⟨b, o + i * 2, none⟩ = some (.int .i64 (f i).1) ∧ w.cell? ⟨b, o + i * 2 + 1, none⟩ = some (.int .i64 (f i).2)
theorem SpAt.kept {w w' : World} {A : Option Addr} {n : Nat} {f : Nat → P2} (h : SpAt w A n f) (hb : Below w.heap.size w w') : SpAt w' A n f := fun i hi => by
  obtain ⟨b, o, e, h1, h2, h3⟩ := h i hi
  exact ⟨b, o, e, Nat.lt_of_lt_of_le h1 hb.size, (hb.cell (p := ⟨b, o + i * 2, none⟩) h1).trans h2, (hb.cell (p := ⟨b, o + i * 2 + 1, none⟩) h1).trans h3⟩
def spN (g : Nat → Dat) : Nat := dLen (g 0)
def spF (g : Nat → Dat) : Nat → P2 := fun i => (dInt (dFun (g 0) i 0), dInt (dFun (g 0) i 1))
theorem reads_sps {W : World} {us : Nat → Value} {g : Nat → Dat} (h : ReadsRec W 1 us g) (ht : tyrSpotS g) (hq : costRec 1 g ≤ 1048576) :
    ∃ A c, us 0 = .slice A (spN g) c ∧ spN g ≤ 1048576 ∧ SpAt W A (spN g) (spF g) ∧ ∀ i, i < spN g → inI64 (spF g i).1 ∧ inI64 (spF g i).2 := by
  have ht' := ht
  obtain ⟨n, f, hg, hf⟩ := ht
  have h0 := h 0 (by omega)
  rw [hg] at h0
  obtain ⟨A, c, hv, hn, hR⟩ := h0.sl_inv
  have hT : tySpotS (.sl n 2 f) := ⟨n, f, rfl, hf⟩
  have e1 : spN g = n := by simp [spN, hg, dLen]
  have hc := le_cost n 2 f
  have hq' : cost (.sl n 2 f) ≤ 1048576 := by
    have e : costRec 1 g = cost (.sl n 2 f) := by simp [costRec, sumTo, hg]
    rw [← e]; exact hq
  refine ⟨A, c, by rw [hv, e1], by omega, fun i hi => ?_, fun i hi => ?_⟩
  · rw [e1] at hi
    obtain ⟨b, o, e, hb, ⟨c0, -⟩, ⟨c1, -⟩⟩ := viewSpotS hR hT i hi
    refine ⟨b, o, e, hb, ?_, ?_⟩
    · rw [c0]; simp [spF, hg, dFun]
    · rw [c1]; simp [spF, hg, dFun]
  · rw [e1] at hi
    obtain ⟨b, o, e, hb, ⟨-, i0⟩, ⟨-, i1⟩⟩ := viewSpotS hR hT i hi
    refine ⟨?_, ?_⟩
    · simpa [spF, hg, dFun] using i0
    · simpa [spF, hg, dFun] using i1
end Go.Proofs.Ytmphnhffelfbgab.sps
