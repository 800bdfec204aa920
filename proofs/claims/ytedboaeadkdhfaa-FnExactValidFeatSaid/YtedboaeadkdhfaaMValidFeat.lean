/-
  Proved: both functions that tell whether a feature is valid return the same answer.
  Conditions: none.
-/
import Derived.Test.YtedboaeadkdhfaaFt
namespace Go.Proofs.Ytedboaeadkdhfaa.wValidFeat
open Go.ChangeShapes Go.WideShapes Go.ChangeAt Go.RowKit Go.Joins
open Go.Proofs.Ytedboaeadkdhfaa.core Go.Proofs.Ytedboaeadkdhfaa.rown Go.Proofs.Ytedboaeadkdhfaa.stk Go.Proofs.Ytedboaeadkdhfaa.boxed Go.Proofs.Ytedboaeadkdhfaa.ft
set_option linter.unusedVariables false
set_option linter.unusedSimpArgs false
def ftOf (g : Nat → Dat) : P3 := (dInt (g 0), dInt (g 1), dInt (g 2))
theorem reads_ft {W : World} {us : Nat → Value} {g : Nat → Dat} (h : ReadsRec W 3 us g) (ht : tyrFeat g) : (.agg #[us 0, us 1, us 2] : Value) = pv (ftOf g) := by
  obtain ⟨⟨x, hx⟩, ⟨y, hy⟩, ⟨z, hz⟩⟩ := ht
  have h0 := h 0 (by omega)
  have h1 := h 1 (by omega)
  have h2 := h 2 (by omega)
  rw [hx] at h0
  rw [hy] at h1
  rw [hz] at h2
  rw [h0.int_inv.1, h1.int_inv.1, h2.int_inv.1]
  simp [ftOf, hx, hy, hz, dInt]
theorem spec_calls (p : P3) (w : World) : Calls Try.prog 13 #[pv p] w fun e w' => e = .returned (.bool (inF p)) ∧ Below w.heap.size w w' := by
  have HC := Lib.hid (fun W => featS p (inF p) rfl W)
  generalize inF p = r at *
  go_enter Try.func13, Try.ntmps13
  go_wp2_with fail
  refine (HC.out _).mono ?_
  rintro e w1 ⟨rfl, hb⟩
  go_wp2
  go_ret
  exact ⟨rfl, by first | exact hb | exact (below_alloc1 _ _).trans (hb.mono (below_alloc1 _ _).size)⟩
theorem meat (vs0 : Nat → Value) (g0 : Nat → Dat) (ht0 : tyrFeat g0) :
    ∃ (r0 : Bool), (∀ (W : World) (us0 : Nat → Value), ReadsRec W 3 us0 g0 → Calls Try.prog 13 #[.agg #[us0 0, us0 1, us0 2]] W fun e W' => e = .returned (.bool r0) ∧ Below W.heap.size W W') ∧ (∀ (W : World) (us0 : Nat → Value), ReadsRec W 3 us0 g0 → Calls Try.prog 15 #[.agg #[us0 0, us0 1, us0 2]] W fun e W' => e = .returned (.bool r0) ∧ Below W.heap.size W W') :=
  ⟨inF (ftOf g0), fun W us0 h => by rw [reads_ft h ht0]; exact spec_calls _ W, fun W us0 h => by rw [reads_ft h ht0]; exact featI _ _ rfl W⟩
end Go.Proofs.Ytedboaeadkdhfaa.wValidFeat
