/-
  Proved: the cells of a row of a list that is read, by their places.
  Conditions: none.
-/
import Derived.Test.YtofgdgdmmlgmnaaRec
namespace Go.Proofs.Ytofgdgdmmlgmnaa.core
open Go.ChangeShapes Go.WideShapes Go.ChangeAt Go.RowKit Go.Joins
set_option linter.unusedVariables false
set_option linter.unusedSimpArgs false

def dInt : Dat → Int
  | .int n => n
  | _ => 0
def dStr : Dat → ByteArray
  | .str s => s
  | _ => ⟨#[]⟩
def dLen : Dat → Nat
  | .sl n _ _ => n
  | _ => 0
def dFun : Dat → Nat → Nat → Dat
  | .sl _ _ f => f
  | _ => fun _ _ => .int 0
theorem viewPointS {W : World} {A : Option Addr} {n : Nat} {f : Nat → Nat → Dat} (hr : RowsAt W A n 3 f) (ht : tyPointS (.sl n 3 f)) :
    ∀ i, i < n → ∃ b o : Nat, A = some ⟨b, o, none⟩ ∧ b < W.heap.size ∧ (W.cell? ⟨b, o + i * 3, none⟩ = some (.int .i64 (dInt (f i 0))) ∧ inI64 (dInt (f i 0))) ∧ (W.cell? ⟨b, o + i * 3 + 1, none⟩ = some (.int .i64 (dInt (f i 1))) ∧ inI64 (dInt (f i 1))) ∧ (W.cell? ⟨b, o + i * 3 + 2, none⟩ = some (.int .i64 (dInt (f i 2))) ∧ inI64 (dInt (f i 2))) := by
  intro i hi
  obtain ⟨b, o, rfl, hb, hj⟩ := hr i hi
  have hT := tyPointS_at ht i hi
  obtain ⟨⟨x0, e0⟩, ⟨x1, e1⟩, ⟨x2, e2⟩⟩ := hT
  obtain ⟨u0, q0, r0⟩ := hj 0 (by omega)
  rw [e0] at r0
  obtain ⟨rfl, hi0⟩ := r0.int_inv
  simp only [Nat.add_zero, Nat.mul_one] at q0
  obtain ⟨u1, q1, r1⟩ := hj 1 (by omega)
  rw [e1] at r1
  obtain ⟨rfl, hi1⟩ := r1.int_inv
  obtain ⟨u2, q2, r2⟩ := hj 2 (by omega)
  rw [e2] at r2
  obtain ⟨rfl, hi2⟩ := r2.int_inv
  rw [e0, e1, e2]
  exact ⟨b, o, rfl, hb, ⟨q0, hi0⟩, ⟨q1, hi1⟩, ⟨q2, hi2⟩⟩
theorem viewStrokeS {W : World} {A : Option Addr} {n : Nat} {f : Nat → Nat → Dat} (hr : RowsAt W A n 1 f) (ht : tyStrokeS (.sl n 1 f)) :
    ∀ i, i < n → ∃ b o : Nat, A = some ⟨b, o, none⟩ ∧ b < W.heap.size ∧ (∃ A0 c0, W.cell? ⟨b, o + i, none⟩ = some (.slice A0 (dLen (f i 0)) c0) ∧ dLen (f i 0) ≤ maxLen ∧ RowsAt W A0 (dLen (f i 0)) 3 (dFun (f i 0)) ∧ tyPointS (.sl (dLen (f i 0)) 3 (dFun (f i 0)))) := by
  intro i hi
  obtain ⟨b, o, rfl, hb, hj⟩ := hr i hi
  have hT := tyStrokeS_at ht i hi
  have ht0 : tyPointS (f i 0) := hT
  have hy0 := ht0
  obtain ⟨n0, f0, e0, -⟩ := ht0
  rw [e0] at hy0
  obtain ⟨u0, q0, r0⟩ := hj 0 (by omega)
  rw [e0] at r0
  obtain ⟨A0, c0, rfl, hm0, hr0⟩ := r0.sl_inv
  simp only [Nat.add_zero, Nat.mul_one] at q0
  rw [e0]
  exact ⟨b, o, rfl, hb, ⟨A0, c0, q0, hm0, hr0, hy0⟩⟩
theorem viewHypS {W : World} {A : Option Addr} {n : Nat} {f : Nat → Nat → Dat} (hr : RowsAt W A n 2 f) (ht : tyHypS (.sl n 2 f)) :
    ∀ i, i < n → ∃ b o : Nat, A = some ⟨b, o, none⟩ ∧ b < W.heap.size ∧ (W.cell? ⟨b, o + i * 2, none⟩ = some (.string (dStr (f i 0))) ∧ (dStr (f i 0)).size ≤ maxLen) ∧ (W.cell? ⟨b, o + i * 2 + 1, none⟩ = some (.int .i64 (dInt (f i 1))) ∧ inI64 (dInt (f i 1))) := by
  intro i hi
  obtain ⟨b, o, rfl, hb, hj⟩ := hr i hi
  have hT := tyHypS_at ht i hi
  obtain ⟨⟨s0, e0⟩, ⟨x1, e1⟩⟩ := hT
  obtain ⟨u0, q0, r0⟩ := hj 0 (by omega)
  rw [e0] at r0
  obtain ⟨rfl, hi0⟩ := r0.str_inv
  simp only [Nat.add_zero, Nat.mul_one] at q0
  obtain ⟨u1, q1, r1⟩ := hj 1 (by omega)
  rw [e1] at r1
  obtain ⟨rfl, hi1⟩ := r1.int_inv
  rw [e0, e1]
  exact ⟨b, o, rfl, hb, ⟨q0, hi0⟩, ⟨q1, hi1⟩⟩
theorem recPoint {W : World} {us : Nat → Value} {g : Nat → Dat} (hr : ReadsRec W 3 us g) (ht : tyrPoint g) : (us 0 = (.int .i64 (dInt (g 0))) ∧ inI64 (dInt (g 0))) ∧ (us 1 = (.int .i64 (dInt (g 1))) ∧ inI64 (dInt (g 1))) ∧ (us 2 = (.int .i64 (dInt (g 2))) ∧ inI64 (dInt (g 2))) := by
  obtain ⟨⟨x0, e0⟩, ⟨x1, e1⟩, ⟨x2, e2⟩⟩ := ht
  have r0 := hr 0 (by omega)
  rw [e0] at r0 ⊢
  obtain ⟨v0, hi0⟩ := r0.int_inv
  have r1 := hr 1 (by omega)
  rw [e1] at r1 ⊢
  obtain ⟨v1, hi1⟩ := r1.int_inv
  have r2 := hr 2 (by omega)
  rw [e2] at r2 ⊢
  obtain ⟨v2, hi2⟩ := r2.int_inv
  exact ⟨⟨v0, hi0⟩, ⟨v1, hi1⟩, ⟨v2, hi2⟩⟩
theorem recPointS {W : World} {us : Nat → Value} {g : Nat → Dat} (hr : ReadsRec W 1 us g) (ht : tyrPointS g) : (∃ A0 c0, us 0 = (.slice A0 (dLen (g 0)) c0) ∧ dLen (g 0) ≤ maxLen ∧ RowsAt W A0 (dLen (g 0)) 3 (dFun (g 0)) ∧ tyPointS (.sl (dLen (g 0)) 3 (dFun (g 0)))) := by
  have ht0 : tyPointS (g 0) := ht
  have hy0 := ht0
  obtain ⟨n0, f0, e0, -⟩ := ht0
  rw [e0] at hy0
  have r0 := hr 0 (by omega)
  rw [e0] at r0 ⊢
  obtain ⟨A0, c0, v0, hm0, hr0⟩ := r0.sl_inv
  exact ⟨A0, c0, v0, hm0, hr0, hy0⟩
theorem recStroke {W : World} {us : Nat → Value} {g : Nat → Dat} (hr : ReadsRec W 1 us g) (ht : tyrStroke g) : (∃ A0 c0, us 0 = (.slice A0 (dLen (g 0)) c0) ∧ dLen (g 0) ≤ maxLen ∧ RowsAt W A0 (dLen (g 0)) 3 (dFun (g 0)) ∧ tyPointS (.sl (dLen (g 0)) 3 (dFun (g 0)))) := by
  have ht0 : tyPointS (g 0) := ht
  have hy0 := ht0
  obtain ⟨n0, f0, e0, -⟩ := ht0
  rw [e0] at hy0
  have r0 := hr 0 (by omega)
  rw [e0] at r0 ⊢
  obtain ⟨A0, c0, v0, hm0, hr0⟩ := r0.sl_inv
  exact ⟨A0, c0, v0, hm0, hr0, hy0⟩
theorem recStrokeS {W : World} {us : Nat → Value} {g : Nat → Dat} (hr : ReadsRec W 1 us g) (ht : tyrStrokeS g) : (∃ A0 c0, us 0 = (.slice A0 (dLen (g 0)) c0) ∧ dLen (g 0) ≤ maxLen ∧ RowsAt W A0 (dLen (g 0)) 1 (dFun (g 0)) ∧ tyStrokeS (.sl (dLen (g 0)) 1 (dFun (g 0)))) := by
  have ht0 : tyStrokeS (g 0) := ht
  have hy0 := ht0
  obtain ⟨n0, f0, e0, -⟩ := ht0
  rw [e0] at hy0
  have r0 := hr 0 (by omega)
  rw [e0] at r0 ⊢
  obtain ⟨A0, c0, v0, hm0, hr0⟩ := r0.sl_inv
  exact ⟨A0, c0, v0, hm0, hr0, hy0⟩
theorem recInk {W : World} {us : Nat → Value} {g : Nat → Dat} (hr : ReadsRec W 1 us g) (ht : tyrInk g) : (∃ A0 c0, us 0 = (.slice A0 (dLen (g 0)) c0) ∧ dLen (g 0) ≤ maxLen ∧ RowsAt W A0 (dLen (g 0)) 1 (dFun (g 0)) ∧ tyStrokeS (.sl (dLen (g 0)) 1 (dFun (g 0)))) := by
  have ht0 : tyStrokeS (g 0) := ht
  have hy0 := ht0
  obtain ⟨n0, f0, e0, -⟩ := ht0
  rw [e0] at hy0
  have r0 := hr 0 (by omega)
  rw [e0] at r0 ⊢
  obtain ⟨A0, c0, v0, hm0, hr0⟩ := r0.sl_inv
  exact ⟨A0, c0, v0, hm0, hr0, hy0⟩
theorem recSetting {W : World} {us : Nat → Value} {g : Nat → Dat} (hr : ReadsRec W 3 us g) (ht : tyrSetting g) : (us 0 = (.int .i64 (dInt (g 0))) ∧ inI64 (dInt (g 0))) ∧ (us 1 = (.int .i64 (dInt (g 1))) ∧ inI64 (dInt (g 1))) ∧ (us 2 = (.int .i64 (dInt (g 2))) ∧ inI64 (dInt (g 2))) := by
  obtain ⟨⟨x0, e0⟩, ⟨x1, e1⟩, ⟨x2, e2⟩⟩ := ht
  have r0 := hr 0 (by omega)
  rw [e0] at r0 ⊢
  obtain ⟨v0, hi0⟩ := r0.int_inv
  have r1 := hr 1 (by omega)
  rw [e1] at r1 ⊢
  obtain ⟨v1, hi1⟩ := r1.int_inv
  have r2 := hr 2 (by omega)
  rw [e2] at r2 ⊢
  obtain ⟨v2, hi2⟩ := r2.int_inv
  exact ⟨⟨v0, hi0⟩, ⟨v1, hi1⟩, ⟨v2, hi2⟩⟩
theorem recHyp {W : World} {us : Nat → Value} {g : Nat → Dat} (hr : ReadsRec W 2 us g) (ht : tyrHyp g) : (us 0 = (.string (dStr (g 0))) ∧ (dStr (g 0)).size ≤ maxLen) ∧ (us 1 = (.int .i64 (dInt (g 1))) ∧ inI64 (dInt (g 1))) := by
  obtain ⟨⟨s0, e0⟩, ⟨x1, e1⟩⟩ := ht
  have r0 := hr 0 (by omega)
  rw [e0] at r0 ⊢
  obtain ⟨v0, hi0⟩ := r0.str_inv
  have r1 := hr 1 (by omega)
  rw [e1] at r1 ⊢
  obtain ⟨v1, hi1⟩ := r1.int_inv
  exact ⟨⟨v0, hi0⟩, ⟨v1, hi1⟩⟩
theorem recHypS {W : World} {us : Nat → Value} {g : Nat → Dat} (hr : ReadsRec W 1 us g) (ht : tyrHypS g) : (∃ A0 c0, us 0 = (.slice A0 (dLen (g 0)) c0) ∧ dLen (g 0) ≤ maxLen ∧ RowsAt W A0 (dLen (g 0)) 2 (dFun (g 0)) ∧ tyHypS (.sl (dLen (g 0)) 2 (dFun (g 0)))) := by
  have ht0 : tyHypS (g 0) := ht
  have hy0 := ht0
  obtain ⟨n0, f0, e0, -⟩ := ht0
  rw [e0] at hy0
  have r0 := hr 0 (by omega)
  rw [e0] at r0 ⊢
  obtain ⟨A0, c0, v0, hm0, hr0⟩ := r0.sl_inv
  exact ⟨A0, c0, v0, hm0, hr0, hy0⟩

end Go.Proofs.Ytofgdgdmmlgmnaa.core
