/-
  Proved: the document's function that writes a Rice code.
  Conditions: none.
-/
import Derived.Test.YtjhndncmeedffaaDoorNum
import Derived.Deep.RegionWith
namespace Go.Proofs.YtjhndncmeedffaaDoor.riceS
open Go.ChangeShapes Go.WideShapes Go.ChangeAt Go.RowKit Go.Joins
open Go.Proofs.YtjhndncmeedffaaDoor.core Go.Proofs.YtjhndncmeedffaaDoor.rows Go.Proofs.YtjhndncmeedffaaDoor.bits Go.Proofs.YtjhndncmeedffaaDoor.numS
set_option linter.unusedVariables false
set_option linter.unusedSimpArgs false

theorem fold_eq (n : Int) : (n < 0 → ((fold n : Nat) : Int) = -2 * n - 1) ∧ (¬ n < 0 → ((fold n : Nat) : Int) = 2 * n) := by
  unfold fold
  constructor <;> intro h
  · rw [if_pos h]; omega
  · rw [if_neg h]; omega
theorem cat (a b : List UInt8) : (⟨a.toArray⟩ : ByteArray) ++ ⟨b.toArray⟩ = ⟨(a ++ b).toArray⟩ := by
  apply ByteArray.ext
  simp
theorem rep_snoc (m : Nat) : List.replicate (m + 1) (49 : UInt8) = List.replicate m 49 ++ [(49 : Nat).toUInt8] := by
  rw [List.replicate_succ']; rfl
theorem rice_def (n : Int) (k : Nat) : rice n k = if fold n / 2 ^ k < 20 then List.replicate (fold n / 2 ^ k) 49 ++ 48 :: num (fold n % 2 ^ k) k else List.replicate 20 49 ++ num (fold n) 32 := rfl
theorem fin1 (m : Nat) (l : List UInt8) : (⟨Array.replicate m 49⟩ : ByteArray) ++ ⟨#[48]⟩ ++ ⟨l.toArray⟩ = ⟨(List.replicate m 49 ++ 48 :: l).toArray⟩ := by
  apply ByteArray.ext
  simp
theorem fin2 (l : List UInt8) : (⟨Array.replicate 20 49⟩ : ByteArray) ++ ⟨l.toArray⟩ = ⟨(List.replicate 20 49 ++ l).toArray⟩ := by
  apply ByteArray.ext
  rw [← cat]
  rfl
/-- A quotient's facts. -/
theorem quo (u k : Nat) : (u : Int) / 2 ^ k = ((u / 2 ^ k : Nat) : Int) := by simp
theorem rest_lt (u k : Nat) (hk : k ≤ 12) : u % 2 ^ k ≤ 4095 := by
  have h1 : u % 2 ^ k < 2 ^ k := Nat.mod_lt _ (Nat.two_pow_pos k)
  have h2 : 2 ^ k ≤ 2 ^ 12 := Nat.pow_le_pow_right (by decide) hk
  have : 2 ^ 12 = 4096 := by decide
  omega
theorem rest_eq (u k : Nat) : (u : Int) - ((u / 2 ^ k : Nat) : Int) * 2 ^ k = ((u % 2 ^ k : Nat) : Int) := by
  have h := Nat.div_add_mod u (2 ^ k)
  have e : (2 : Int) ^ k = ((2 ^ k : Nat) : Int) := by simp
  rw [e, ← Int.natCast_mul, Nat.mul_comm]
  omega

end Go.Proofs.YtjhndncmeedffaaDoor.riceS
