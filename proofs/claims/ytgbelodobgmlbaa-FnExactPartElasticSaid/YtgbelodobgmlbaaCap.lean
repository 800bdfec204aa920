/-
  Proved: a list of features that is read out of memory is no longer than its room.
  Conditions: none. (The Core of this folder carries the room; gen.py with CAP=1.)
-/
import Derived.Test.YtgbelodobgmlbaaFt
namespace Go.Proofs.Ytgbelodobgmlbaa.ft
open Go.ChangeShapes Go.WideShapes Go.ChangeAt Go.RowKit Go.Joins
open Go.Proofs.Ytgbelodobgmlbaa.core
set_option linter.unusedVariables false
set_option linter.unusedSimpArgs false
theorem reads_fts_cap {W : World} {us : Nat → Value} {g : Nat → Dat} (h : ReadsRec W 1 us g) (ht : tyrFeatS g) {A : Option Addr} {c : Nat} (e : us 0 = .slice A (ftN g) c) : ftN g ≤ c := by
  obtain ⟨n, f, hg, hf⟩ := ht
  have h0 := h 0 (by omega)
  have e1 : ftN g = n := by simp [ftN, hg, dLen]
  rw [hg, e, e1] at h0
  rw [e1]
  exact h0.cap
end Go.Proofs.Ytgbelodobgmlbaa.ft
