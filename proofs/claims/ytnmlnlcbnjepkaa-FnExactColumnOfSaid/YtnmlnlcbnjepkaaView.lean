/-
  Proved: the cells of a row of a list that is read, by their places.
  Conditions: none.
-/
import Derived.Test.YtnmlnlcbnjepkaaRec
namespace Go.Proofs.Ytnmlnlcbnjepkaa.core
open Go.ChangeShapes Go.WideShapes Go.ChangeAt Go.RowKit Go.Joins
set_option linter.unusedVariables false
set_option linter.unusedSimpArgs false

def dInt : Dat → Int
  | .int n => n
  | _ => 0
def dStr : Dat → ByteArray
  | .str s => s
  | _ => ⟨#[]⟩
def dLen : Dat → Nat
  | .sl n _ _ => n
  | _ => 0
def dFun : Dat → Nat → Nat → Dat
  | .sl _ _ f => f
  | _ => fun _ _ => .int 0
theorem viewPointS {W : World} {A : Option Addr} {n : Nat} {f : Nat → Nat → Dat} (hr : RowsAt W A n 3 f) (ht : tyPointS (.sl n 3 f)) :
    ∀ i, i < n → ∃ b o : Nat, A = some ⟨b, o, none⟩ ∧ b < W.heap.size ∧ (W.cell? ⟨b, o + i * 3, none⟩ = some (.int .i64 (dInt (f i 0))) ∧ inI64 (dInt (f i 0))) ∧ (W.cell? ⟨b, o + i * 3 + 1, none⟩ = some (.int .i64 (dInt (f i 1))) ∧ inI64 (dInt (f i 1))) ∧ (W.cell? ⟨b, o + i * 3 + 2, none⟩ = some (.int .i64 (dInt (f i 2))) ∧ inI64 (dInt (f i 2))) := by
  intro i hi
  obtain ⟨b, o, rfl, hb, hj⟩ := hr i hi
  have hT := tyPointS_at ht i hi
  obtain ⟨⟨x0, e0⟩, ⟨x1, e1⟩, ⟨x2, e2⟩⟩ := hT
  obtain ⟨u0, q0, r0⟩ := hj 0 (by omega)
  rw [e0] at r0
  obtain ⟨rfl, hi0⟩ := r0.int_inv
  simp only [Nat.add_zero, Nat.mul_one] at q0
  obtain ⟨u1, q1, r1⟩ := hj 1 (by omega)
  rw [e1] at r1
  obtain ⟨rfl, hi1⟩ := r1.int_inv
  obtain ⟨u2, q2, r2⟩ := hj 2 (by omega)
  rw [e2] at r2
  obtain ⟨rfl, hi2⟩ := r2.int_inv
  rw [e0, e1, e2]
  exact ⟨b, o, rfl, hb, ⟨q0, hi0⟩, ⟨q1, hi1⟩, ⟨q2, hi2⟩⟩
theorem viewStrokeS {W : World} {A : Option Addr} {n : Nat} {f : Nat → Nat → Dat} (hr : RowsAt W A n 1 f) (ht : tyStrokeS (.sl n 1 f)) :
    ∀ i, i < n → ∃ b o : Nat, A = some ⟨b, o, none⟩ ∧ b < W.heap.size ∧ (∃ A0 c0, W.cell? ⟨b, o + i, none⟩ = some (.slice A0 (dLen (f i 0)) c0) ∧ dLen (f i 0) ≤ maxLen ∧ RowsAt W A0 (dLen (f i 0)) 3 (dFun (f i 0)) ∧ tyPointS (.sl (dLen (f i 0)) 3 (dFun (f i 0)))) := by
  intro i hi
  obtain ⟨b, o, rfl, hb, hj⟩ := hr i hi
  have hT := tyStrokeS_at ht i hi
  have ht0 : tyPointS (f i 0) := hT
  have hy0 := ht0
  obtain ⟨n0, f0, e0, -⟩ := ht0
  rw [e0] at hy0
  obtain ⟨u0, q0, r0⟩ := hj 0 (by omega)
  rw [e0] at r0
  obtain ⟨A0, c0, rfl, hm0, hr0⟩ := r0.sl_inv
  simp only [Nat.add_zero, Nat.mul_one] at q0
  rw [e0]
  exact ⟨b, o, rfl, hb, ⟨A0, c0, q0, hm0, hr0, hy0⟩⟩
theorem viewChannelS {W : World} {A : Option Addr} {n : Nat} {f : Nat → Nat → Dat} (hr : RowsAt W A n 4 f) (ht : tyChannelS (.sl n 4 f)) :
    ∀ i, i < n → ∃ b o : Nat, A = some ⟨b, o, none⟩ ∧ b < W.heap.size ∧ (W.cell? ⟨b, o + i * 4, none⟩ = some (.string (dStr (f i 0))) ∧ (dStr (f i 0)).size ≤ maxLen) ∧ (W.cell? ⟨b, o + i * 4 + 1, none⟩ = some (.string (dStr (f i 1))) ∧ (dStr (f i 1)).size ≤ maxLen) ∧ (W.cell? ⟨b, o + i * 4 + 2, none⟩ = some (.int .i64 (dInt (f i 2))) ∧ inI64 (dInt (f i 2))) ∧ (W.cell? ⟨b, o + i * 4 + 3, none⟩ = some (.int .i64 (dInt (f i 3))) ∧ inI64 (dInt (f i 3))) := by
  intro i hi
  obtain ⟨b, o, rfl, hb, hj⟩ := hr i hi
  have hT := tyChannelS_at ht i hi
  obtain ⟨⟨s0, e0⟩, ⟨s1, e1⟩, ⟨x2, e2⟩, ⟨x3, e3⟩⟩ := hT
  obtain ⟨u0, q0, r0⟩ := hj 0 (by omega)
  rw [e0] at r0
  obtain ⟨rfl, hi0⟩ := r0.str_inv
  simp only [Nat.add_zero, Nat.mul_one] at q0
  obtain ⟨u1, q1, r1⟩ := hj 1 (by omega)
  rw [e1] at r1
  obtain ⟨rfl, hi1⟩ := r1.str_inv
  obtain ⟨u2, q2, r2⟩ := hj 2 (by omega)
  rw [e2] at r2
  obtain ⟨rfl, hi2⟩ := r2.int_inv
  obtain ⟨u3, q3, r3⟩ := hj 3 (by omega)
  rw [e3] at r3
  obtain ⟨rfl, hi3⟩ := r3.int_inv
  rw [e0, e1, e2, e3]
  exact ⟨b, o, rfl, hb, ⟨q0, hi0⟩, ⟨q1, hi1⟩, ⟨q2, hi2⟩, ⟨q3, hi3⟩⟩
theorem viewInt64S {W : World} {A : Option Addr} {n : Nat} {f : Nat → Nat → Dat} (hr : RowsAt W A n 1 f) (ht : tyInt64S (.sl n 1 f)) :
    ∀ i, i < n → ∃ b o : Nat, A = some ⟨b, o, none⟩ ∧ b < W.heap.size ∧ (W.cell? ⟨b, o + i, none⟩ = some (.int .i64 (dInt (f i 0))) ∧ inI64 (dInt (f i 0))) := by
  intro i hi
  obtain ⟨b, o, rfl, hb, hj⟩ := hr i hi
  have hT := tyInt64S_at ht i hi
  obtain ⟨x0, e0⟩ := hT
  obtain ⟨u0, q0, r0⟩ := hj 0 (by omega)
  rw [e0] at r0
  obtain ⟨rfl, hi0⟩ := r0.int_inv
  simp only [Nat.add_zero, Nat.mul_one] at q0
  rw [e0]
  exact ⟨b, o, rfl, hb, ⟨q0, hi0⟩⟩
theorem viewInt64SS {W : World} {A : Option Addr} {n : Nat} {f : Nat → Nat → Dat} (hr : RowsAt W A n 1 f) (ht : tyInt64SS (.sl n 1 f)) :
    ∀ i, i < n → ∃ b o : Nat, A = some ⟨b, o, none⟩ ∧ b < W.heap.size ∧ (∃ A0 c0, W.cell? ⟨b, o + i, none⟩ = some (.slice A0 (dLen (f i 0)) c0) ∧ dLen (f i 0) ≤ maxLen ∧ RowsAt W A0 (dLen (f i 0)) 1 (dFun (f i 0)) ∧ tyInt64S (.sl (dLen (f i 0)) 1 (dFun (f i 0)))) := by
  intro i hi
  obtain ⟨b, o, rfl, hb, hj⟩ := hr i hi
  have hT := tyInt64SS_at ht i hi
  have ht0 : tyInt64S (f i 0) := hT
  have hy0 := ht0
  obtain ⟨n0, f0, e0, -⟩ := ht0
  rw [e0] at hy0
  obtain ⟨u0, q0, r0⟩ := hj 0 (by omega)
  rw [e0] at r0
  obtain ⟨A0, c0, rfl, hm0, hr0⟩ := r0.sl_inv
  simp only [Nat.add_zero, Nat.mul_one] at q0
  rw [e0]
  exact ⟨b, o, rfl, hb, ⟨A0, c0, q0, hm0, hr0, hy0⟩⟩
theorem viewRowsS {W : World} {A : Option Addr} {n : Nat} {f : Nat → Nat → Dat} (hr : RowsAt W A n 1 f) (ht : tyRowsS (.sl n 1 f)) :
    ∀ i, i < n → ∃ b o : Nat, A = some ⟨b, o, none⟩ ∧ b < W.heap.size ∧ (∃ A0 c0, W.cell? ⟨b, o + i, none⟩ = some (.slice A0 (dLen (f i 0)) c0) ∧ dLen (f i 0) ≤ maxLen ∧ RowsAt W A0 (dLen (f i 0)) 1 (dFun (f i 0)) ∧ tyInt64SS (.sl (dLen (f i 0)) 1 (dFun (f i 0)))) := by
  intro i hi
  obtain ⟨b, o, rfl, hb, hj⟩ := hr i hi
  have hT := tyRowsS_at ht i hi
  have ht0 : tyInt64SS (f i 0) := hT
  have hy0 := ht0
  obtain ⟨n0, f0, e0, -⟩ := ht0
  rw [e0] at hy0
  obtain ⟨u0, q0, r0⟩ := hj 0 (by omega)
  rw [e0] at r0
  obtain ⟨A0, c0, rfl, hm0, hr0⟩ := r0.sl_inv
  simp only [Nat.add_zero, Nat.mul_one] at q0
  rw [e0]
  exact ⟨b, o, rfl, hb, ⟨A0, c0, q0, hm0, hr0, hy0⟩⟩
theorem viewNoteS {W : World} {A : Option Addr} {n : Nat} {f : Nat → Nat → Dat} (hr : RowsAt W A n 3 f) (ht : tyNoteS (.sl n 3 f)) :
    ∀ i, i < n → ∃ b o : Nat, A = some ⟨b, o, none⟩ ∧ b < W.heap.size ∧ (W.cell? ⟨b, o + i * 3, none⟩ = some (.int .i64 (dInt (f i 0))) ∧ inI64 (dInt (f i 0))) ∧ (W.cell? ⟨b, o + i * 3 + 1, none⟩ = some (.int .i64 (dInt (f i 1))) ∧ inI64 (dInt (f i 1))) ∧ (W.cell? ⟨b, o + i * 3 + 2, none⟩ = some (.string (dStr (f i 2))) ∧ (dStr (f i 2)).size ≤ maxLen) := by
  intro i hi
  obtain ⟨b, o, rfl, hb, hj⟩ := hr i hi
  have hT := tyNoteS_at ht i hi
  obtain ⟨⟨x0, e0⟩, ⟨x1, e1⟩, ⟨s2, e2⟩⟩ := hT
  obtain ⟨u0, q0, r0⟩ := hj 0 (by omega)
  rw [e0] at r0
  obtain ⟨rfl, hi0⟩ := r0.int_inv
  simp only [Nat.add_zero, Nat.mul_one] at q0
  obtain ⟨u1, q1, r1⟩ := hj 1 (by omega)
  rw [e1] at r1
  obtain ⟨rfl, hi1⟩ := r1.int_inv
  obtain ⟨u2, q2, r2⟩ := hj 2 (by omega)
  rw [e2] at r2
  obtain ⟨rfl, hi2⟩ := r2.str_inv
  rw [e0, e1, e2]
  exact ⟨b, o, rfl, hb, ⟨q0, hi0⟩, ⟨q1, hi1⟩, ⟨q2, hi2⟩⟩
theorem recPoint {W : World} {us : Nat → Value} {g : Nat → Dat} (hr : ReadsRec W 3 us g) (ht : tyrPoint g) : (us 0 = (.int .i64 (dInt (g 0))) ∧ inI64 (dInt (g 0))) ∧ (us 1 = (.int .i64 (dInt (g 1))) ∧ inI64 (dInt (g 1))) ∧ (us 2 = (.int .i64 (dInt (g 2))) ∧ inI64 (dInt (g 2))) := by
  obtain ⟨⟨x0, e0⟩, ⟨x1, e1⟩, ⟨x2, e2⟩⟩ := ht
  have r0 := hr 0 (by omega)
  rw [e0] at r0 ⊢
  obtain ⟨v0, hi0⟩ := r0.int_inv
  have r1 := hr 1 (by omega)
  rw [e1] at r1 ⊢
  obtain ⟨v1, hi1⟩ := r1.int_inv
  have r2 := hr 2 (by omega)
  rw [e2] at r2 ⊢
  obtain ⟨v2, hi2⟩ := r2.int_inv
  exact ⟨⟨v0, hi0⟩, ⟨v1, hi1⟩, ⟨v2, hi2⟩⟩
theorem recPointS {W : World} {us : Nat → Value} {g : Nat → Dat} (hr : ReadsRec W 1 us g) (ht : tyrPointS g) : (∃ A0 c0, us 0 = (.slice A0 (dLen (g 0)) c0) ∧ dLen (g 0) ≤ maxLen ∧ RowsAt W A0 (dLen (g 0)) 3 (dFun (g 0)) ∧ tyPointS (.sl (dLen (g 0)) 3 (dFun (g 0)))) := by
  have ht0 : tyPointS (g 0) := ht
  have hy0 := ht0
  obtain ⟨n0, f0, e0, -⟩ := ht0
  rw [e0] at hy0
  have r0 := hr 0 (by omega)
  rw [e0] at r0 ⊢
  obtain ⟨A0, c0, v0, hm0, hr0⟩ := r0.sl_inv
  exact ⟨A0, c0, v0, hm0, hr0, hy0⟩
theorem recStroke {W : World} {us : Nat → Value} {g : Nat → Dat} (hr : ReadsRec W 1 us g) (ht : tyrStroke g) : (∃ A0 c0, us 0 = (.slice A0 (dLen (g 0)) c0) ∧ dLen (g 0) ≤ maxLen ∧ RowsAt W A0 (dLen (g 0)) 3 (dFun (g 0)) ∧ tyPointS (.sl (dLen (g 0)) 3 (dFun (g 0)))) := by
  have ht0 : tyPointS (g 0) := ht
  have hy0 := ht0
  obtain ⟨n0, f0, e0, -⟩ := ht0
  rw [e0] at hy0
  have r0 := hr 0 (by omega)
  rw [e0] at r0 ⊢
  obtain ⟨A0, c0, v0, hm0, hr0⟩ := r0.sl_inv
  exact ⟨A0, c0, v0, hm0, hr0, hy0⟩
theorem recStrokeS {W : World} {us : Nat → Value} {g : Nat → Dat} (hr : ReadsRec W 1 us g) (ht : tyrStrokeS g) : (∃ A0 c0, us 0 = (.slice A0 (dLen (g 0)) c0) ∧ dLen (g 0) ≤ maxLen ∧ RowsAt W A0 (dLen (g 0)) 1 (dFun (g 0)) ∧ tyStrokeS (.sl (dLen (g 0)) 1 (dFun (g 0)))) := by
  have ht0 : tyStrokeS (g 0) := ht
  have hy0 := ht0
  obtain ⟨n0, f0, e0, -⟩ := ht0
  rw [e0] at hy0
  have r0 := hr 0 (by omega)
  rw [e0] at r0 ⊢
  obtain ⟨A0, c0, v0, hm0, hr0⟩ := r0.sl_inv
  exact ⟨A0, c0, v0, hm0, hr0, hy0⟩
theorem recInk {W : World} {us : Nat → Value} {g : Nat → Dat} (hr : ReadsRec W 1 us g) (ht : tyrInk g) : (∃ A0 c0, us 0 = (.slice A0 (dLen (g 0)) c0) ∧ dLen (g 0) ≤ maxLen ∧ RowsAt W A0 (dLen (g 0)) 1 (dFun (g 0)) ∧ tyStrokeS (.sl (dLen (g 0)) 1 (dFun (g 0)))) := by
  have ht0 : tyStrokeS (g 0) := ht
  have hy0 := ht0
  obtain ⟨n0, f0, e0, -⟩ := ht0
  rw [e0] at hy0
  have r0 := hr 0 (by omega)
  rw [e0] at r0 ⊢
  obtain ⟨A0, c0, v0, hm0, hr0⟩ := r0.sl_inv
  exact ⟨A0, c0, v0, hm0, hr0, hy0⟩
theorem recChannel {W : World} {us : Nat → Value} {g : Nat → Dat} (hr : ReadsRec W 4 us g) (ht : tyrChannel g) : (us 0 = (.string (dStr (g 0))) ∧ (dStr (g 0)).size ≤ maxLen) ∧ (us 1 = (.string (dStr (g 1))) ∧ (dStr (g 1)).size ≤ maxLen) ∧ (us 2 = (.int .i64 (dInt (g 2))) ∧ inI64 (dInt (g 2))) ∧ (us 3 = (.int .i64 (dInt (g 3))) ∧ inI64 (dInt (g 3))) := by
  obtain ⟨⟨s0, e0⟩, ⟨s1, e1⟩, ⟨x2, e2⟩, ⟨x3, e3⟩⟩ := ht
  have r0 := hr 0 (by omega)
  rw [e0] at r0 ⊢
  obtain ⟨v0, hi0⟩ := r0.str_inv
  have r1 := hr 1 (by omega)
  rw [e1] at r1 ⊢
  obtain ⟨v1, hi1⟩ := r1.str_inv
  have r2 := hr 2 (by omega)
  rw [e2] at r2 ⊢
  obtain ⟨v2, hi2⟩ := r2.int_inv
  have r3 := hr 3 (by omega)
  rw [e3] at r3 ⊢
  obtain ⟨v3, hi3⟩ := r3.int_inv
  exact ⟨⟨v0, hi0⟩, ⟨v1, hi1⟩, ⟨v2, hi2⟩, ⟨v3, hi3⟩⟩
theorem recChannelS {W : World} {us : Nat → Value} {g : Nat → Dat} (hr : ReadsRec W 1 us g) (ht : tyrChannelS g) : (∃ A0 c0, us 0 = (.slice A0 (dLen (g 0)) c0) ∧ dLen (g 0) ≤ maxLen ∧ RowsAt W A0 (dLen (g 0)) 4 (dFun (g 0)) ∧ tyChannelS (.sl (dLen (g 0)) 4 (dFun (g 0)))) := by
  have ht0 : tyChannelS (g 0) := ht
  have hy0 := ht0
  obtain ⟨n0, f0, e0, -⟩ := ht0
  rw [e0] at hy0
  have r0 := hr 0 (by omega)
  rw [e0] at r0 ⊢
  obtain ⟨A0, c0, v0, hm0, hr0⟩ := r0.sl_inv
  exact ⟨A0, c0, v0, hm0, hr0, hy0⟩
theorem recInt64S {W : World} {us : Nat → Value} {g : Nat → Dat} (hr : ReadsRec W 1 us g) (ht : tyrInt64S g) : (∃ A0 c0, us 0 = (.slice A0 (dLen (g 0)) c0) ∧ dLen (g 0) ≤ maxLen ∧ RowsAt W A0 (dLen (g 0)) 1 (dFun (g 0)) ∧ tyInt64S (.sl (dLen (g 0)) 1 (dFun (g 0)))) := by
  have ht0 : tyInt64S (g 0) := ht
  have hy0 := ht0
  obtain ⟨n0, f0, e0, -⟩ := ht0
  rw [e0] at hy0
  have r0 := hr 0 (by omega)
  rw [e0] at r0 ⊢
  obtain ⟨A0, c0, v0, hm0, hr0⟩ := r0.sl_inv
  exact ⟨A0, c0, v0, hm0, hr0, hy0⟩
theorem recInt64SS {W : World} {us : Nat → Value} {g : Nat → Dat} (hr : ReadsRec W 1 us g) (ht : tyrInt64SS g) : (∃ A0 c0, us 0 = (.slice A0 (dLen (g 0)) c0) ∧ dLen (g 0) ≤ maxLen ∧ RowsAt W A0 (dLen (g 0)) 1 (dFun (g 0)) ∧ tyInt64SS (.sl (dLen (g 0)) 1 (dFun (g 0)))) := by
  have ht0 : tyInt64SS (g 0) := ht
  have hy0 := ht0
  obtain ⟨n0, f0, e0, -⟩ := ht0
  rw [e0] at hy0
  have r0 := hr 0 (by omega)
  rw [e0] at r0 ⊢
  obtain ⟨A0, c0, v0, hm0, hr0⟩ := r0.sl_inv
  exact ⟨A0, c0, v0, hm0, hr0, hy0⟩
theorem recRows {W : World} {us : Nat → Value} {g : Nat → Dat} (hr : ReadsRec W 1 us g) (ht : tyrRows g) : (∃ A0 c0, us 0 = (.slice A0 (dLen (g 0)) c0) ∧ dLen (g 0) ≤ maxLen ∧ RowsAt W A0 (dLen (g 0)) 1 (dFun (g 0)) ∧ tyInt64SS (.sl (dLen (g 0)) 1 (dFun (g 0)))) := by
  have ht0 : tyInt64SS (g 0) := ht
  have hy0 := ht0
  obtain ⟨n0, f0, e0, -⟩ := ht0
  rw [e0] at hy0
  have r0 := hr 0 (by omega)
  rw [e0] at r0 ⊢
  obtain ⟨A0, c0, v0, hm0, hr0⟩ := r0.sl_inv
  exact ⟨A0, c0, v0, hm0, hr0, hy0⟩
theorem recRowsS {W : World} {us : Nat → Value} {g : Nat → Dat} (hr : ReadsRec W 1 us g) (ht : tyrRowsS g) : (∃ A0 c0, us 0 = (.slice A0 (dLen (g 0)) c0) ∧ dLen (g 0) ≤ maxLen ∧ RowsAt W A0 (dLen (g 0)) 1 (dFun (g 0)) ∧ tyRowsS (.sl (dLen (g 0)) 1 (dFun (g 0)))) := by
  have ht0 : tyRowsS (g 0) := ht
  have hy0 := ht0
  obtain ⟨n0, f0, e0, -⟩ := ht0
  rw [e0] at hy0
  have r0 := hr 0 (by omega)
  rw [e0] at r0 ⊢
  obtain ⟨A0, c0, v0, hm0, hr0⟩ := r0.sl_inv
  exact ⟨A0, c0, v0, hm0, hr0, hy0⟩
theorem recNote {W : World} {us : Nat → Value} {g : Nat → Dat} (hr : ReadsRec W 3 us g) (ht : tyrNote g) : (us 0 = (.int .i64 (dInt (g 0))) ∧ inI64 (dInt (g 0))) ∧ (us 1 = (.int .i64 (dInt (g 1))) ∧ inI64 (dInt (g 1))) ∧ (us 2 = (.string (dStr (g 2))) ∧ (dStr (g 2)).size ≤ maxLen) := by
  obtain ⟨⟨x0, e0⟩, ⟨x1, e1⟩, ⟨s2, e2⟩⟩ := ht
  have r0 := hr 0 (by omega)
  rw [e0] at r0 ⊢
  obtain ⟨v0, hi0⟩ := r0.int_inv
  have r1 := hr 1 (by omega)
  rw [e1] at r1 ⊢
  obtain ⟨v1, hi1⟩ := r1.int_inv
  have r2 := hr 2 (by omega)
  rw [e2] at r2 ⊢
  obtain ⟨v2, hi2⟩ := r2.str_inv
  exact ⟨⟨v0, hi0⟩, ⟨v1, hi1⟩, ⟨v2, hi2⟩⟩
theorem recNoteS {W : World} {us : Nat → Value} {g : Nat → Dat} (hr : ReadsRec W 1 us g) (ht : tyrNoteS g) : (∃ A0 c0, us 0 = (.slice A0 (dLen (g 0)) c0) ∧ dLen (g 0) ≤ maxLen ∧ RowsAt W A0 (dLen (g 0)) 3 (dFun (g 0)) ∧ tyNoteS (.sl (dLen (g 0)) 3 (dFun (g 0)))) := by
  have ht0 : tyNoteS (g 0) := ht
  have hy0 := ht0
  obtain ⟨n0, f0, e0, -⟩ := ht0
  rw [e0] at hy0
  have r0 := hr 0 (by omega)
  rw [e0] at r0 ⊢
  obtain ⟨A0, c0, v0, hm0, hr0⟩ := r0.sl_inv
  exact ⟨A0, c0, v0, hm0, hr0, hy0⟩
theorem recFile {W : World} {us : Nat → Value} {g : Nat → Dat} (hr : ReadsRec W 3 us g) (ht : tyrFile g) : (∃ A0 c0, us 0 = (.slice A0 (dLen (g 0)) c0) ∧ dLen (g 0) ≤ maxLen ∧ RowsAt W A0 (dLen (g 0)) 4 (dFun (g 0)) ∧ tyChannelS (.sl (dLen (g 0)) 4 (dFun (g 0)))) ∧ (∃ A1 c1, us 1 = (.slice A1 (dLen (g 1)) c1) ∧ dLen (g 1) ≤ maxLen ∧ RowsAt W A1 (dLen (g 1)) 1 (dFun (g 1)) ∧ tyRowsS (.sl (dLen (g 1)) 1 (dFun (g 1)))) ∧ (∃ A2 c2, us 2 = (.slice A2 (dLen (g 2)) c2) ∧ dLen (g 2) ≤ maxLen ∧ RowsAt W A2 (dLen (g 2)) 3 (dFun (g 2)) ∧ tyNoteS (.sl (dLen (g 2)) 3 (dFun (g 2)))) := by
  obtain ⟨ht0, ht1, ht2⟩ := ht
  have hy0 := ht0
  obtain ⟨n0, f0, e0, -⟩ := ht0
  rw [e0] at hy0
  have r0 := hr 0 (by omega)
  rw [e0] at r0 ⊢
  obtain ⟨A0, c0, v0, hm0, hr0⟩ := r0.sl_inv
  have hy1 := ht1
  obtain ⟨n1, f1, e1, -⟩ := ht1
  rw [e1] at hy1
  have r1 := hr 1 (by omega)
  rw [e1] at r1 ⊢
  obtain ⟨A1, c1, v1, hm1, hr1⟩ := r1.sl_inv
  have hy2 := ht2
  obtain ⟨n2, f2, e2, -⟩ := ht2
  rw [e2] at hy2
  have r2 := hr 2 (by omega)
  rw [e2] at r2 ⊢
  obtain ⟨A2, c2, v2, hm2, hr2⟩ := r2.sl_inv
  exact ⟨⟨A0, c0, v0, hm0, hr0, hy0⟩, ⟨A1, c1, v1, hm1, hr1, hy1⟩, ⟨A2, c2, v2, hm2, hr2, hy2⟩⟩

end Go.Proofs.Ytnmlnlcbnjepkaa.core
