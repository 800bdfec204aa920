/-
  Proved: ink that is read out of memory, as its strokes.
  Conditions: the ink is small enough for the laws' budget.
-/
import Derived.Test.YtofgdgdmmlgmnaaInk
import Derived.Test.YtofgdgdmmlgmnaaView
namespace Go.Proofs.Ytofgdgdmmlgmnaa.inkV
open Go.ChangeShapes Go.WideShapes Go.ChangeAt Go.RowKit Go.Joins
open Go.Proofs.Ytofgdgdmmlgmnaa.core Go.Proofs.Ytofgdgdmmlgmnaa.stk Go.Proofs.Ytofgdgdmmlgmnaa.ink
set_option linter.unusedVariables false
set_option linter.unusedSimpArgs false
def inkN (g : Nat → Dat) : Nat := dLen (g 0)
def inkS (g : Nat → Dat) : Nat → Nat := fun i => dLen (dFun (g 0) i 0)
def inkP (g : Nat → Dat) : Nat → Nat → P3 := fun i j => (dInt (dFun (dFun (g 0) i 0) j 0), dInt (dFun (dFun (g 0) i 0) j 1), dInt (dFun (dFun (g 0) i 0) j 2))
theorem cost_len (d : Dat) : dLen d ≤ cost d := by
  cases d with
  | sl n k f => simp only [cost, dLen]; omega
  | _ => simp [dLen]
theorem cost_at {n k : Nat} {f : Nat → Nat → Dat} {i j : Nat} (hi : i < n) (hj : j < k) : cost (f i j) ≤ cost (.sl n k f) := by
  simp only [cost]
  have h1 := sumTo_lt (fun j => cost (f i j)) hj
  have h2 := sumTo_lt (fun i => sumTo (fun j => cost (f i j)) k) hi
  omega
theorem reads_ink {W : World} {us : Nat → Value} {g : Nat → Dat} (h : ReadsRec W 1 us g) (ht : tyrInk g) (hq : costRec 1 g ≤ 1048576) :
    ∃ A c, (.agg #[us 0] : Value) = .agg #[.slice A (inkN g) c] ∧ inkN g ≤ 1048576 ∧ (∀ i, i < inkN g → inkS g i ≤ 1048576) ∧ InkAt W A (inkN g) (inkS g) (inkP g) := by
  have ht' : tyStrokeS (g 0) := ht
  obtain ⟨n, f, hg, hf⟩ := ht'
  obtain ⟨A, c, hv, hn, hR, hT⟩ := recInk h ht
  have e1 : inkN g = n := by simp [inkN, hg, dLen]
  have e2 : dFun (g 0) = f := by simp [hg, dFun]
  have hq' : cost (.sl n 1 f) ≤ 1048576 := by
    have e : costRec 1 g = cost (.sl n 1 f) := by simp [costRec, sumTo, hg]
    rw [← e]; exact hq
  refine ⟨A, c, by rw [hv]; rfl, by have := cost_len (.sl n 1 f); simp only [dLen] at this; omega, fun i hi => ?_, fun i hi => ?_⟩
  · rw [e1] at hi
    have h1 := cost_at (k := 1) (f := f) (j := 0) hi (by omega)
    have h2 := cost_len (f i 0)
    show dLen (dFun (g 0) i 0) ≤ _
    rw [e2]; omega
  · obtain ⟨b, o, e, hb, A0, c0, q, hm, hr0, ht0⟩ := viewStrokeS hR hT i hi
    refine ⟨b, o, e, hb, A0, c0, q, fun j hj => ?_⟩
    obtain ⟨b', o', e', hb', ⟨c0, -⟩, ⟨c1, -⟩, ⟨c2, -⟩⟩ := viewPointS hr0 ht0 j hj
    exact ⟨b', o', e', hb', c0, c1, c2⟩
end Go.Proofs.Ytofgdgdmmlgmnaa.inkV
