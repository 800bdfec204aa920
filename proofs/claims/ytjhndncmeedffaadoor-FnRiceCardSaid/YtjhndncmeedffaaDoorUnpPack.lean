/-
  Proved: bits that are packed and unpacked again come back.
  Conditions: none.
-/
import Derived.Test.YtjhndncmeedffaaDoorPack
namespace Go.Proofs.YtjhndncmeedffaaDoor.pack
open Go.Proofs.YtjhndncmeedffaaDoor.bits
set_option linter.unusedVariables false
set_option linter.unusedSimpArgs false

theorem num_get (n : Nat) : ∀ w j, j < w → (num n w)[j]?.getD 0 = (48 + n / 2 ^ (w - 1 - j) % 2).toUInt8 := by
  intro w
  induction w with
  | zero => intro j h; omega
  | succ w ih =>
    intro j h
    cases j with
    | zero => simp [num]
    | succ j =>
      have := ih j (by omega)
      simp only [num, List.getElem?_cons_succ]
      rw [this, show w + 1 - 1 - (j + 1) = w - 1 - j by omega]
theorem unp_get : ∀ (L : List UInt8) (i j : Nat), i < L.length → j < 8 → (unp L)[8 * i + j]?.getD 0 = (48 + (L[i]?.getD 0).toNat / 2 ^ (7 - j) % 2).toUInt8 := by
  intro L
  induction L with
  | nil => intro i j h; simp at h
  | cons b L ih =>
    intro i j h hj
    rw [unp]
    cases i with
    | zero =>
      rw [List.getElem?_append_left (by rw [num_length]; omega), show 8 * 0 + j = j by omega, num_get b.toNat 8 j hj]
      simp
    | succ i =>
      rw [List.getElem?_append_right (by rw [num_length]; omega), num_length, show 8 * (i + 1) + j - 8 = 8 * i + j by omega, ih i j (by simpa using h) hj]
      simp
theorem pb_bit (l : List UInt8) : ∀ m i j, 8 * i + j < m → j < 8 → pb l m i / 2 ^ (7 - j) % 2 = if (l[8 * i + j]?.getD 0).toNat = 49 then 1 else 0 := by
  intro m
  induction m with
  | zero => intro i j h; omega
  | succ m ih =>
    intro i j h hj
    by_cases hm : 8 * i + j = m
    · obtain ⟨q, h1, h2⟩ := pb_high l m i j (by omega) (by omega)
      obtain ⟨p1, p2, p3, p4, p5⟩ := pow_table j hj
      have hq : pb l m i = 2 ^ (7 - j) * (2 * q) := by rw [h1, ← p1, Nat.mul_comm q, Nat.mul_assoc]
      have hd : m / 8 = i := by omega
      have hr : m % 8 = j := by omega
      simp only [pb]
      rw [hm, hd, hr, hq]
      generalize 2 ^ (7 - j) = a at *
      split
      · rename_i hh
        rw [if_pos hh.2, show a * (2 * q) + a = a * (2 * q + 1) by rw [Nat.mul_add, Nat.mul_one], Nat.mul_div_cancel_left _ (by omega)]
        omega
      · rename_i hh
        rw [if_neg (fun h => hh ⟨rfl, h⟩), Nat.mul_div_cancel_left _ (by omega)]
        omega
    · have hlt : 8 * i + j < m := by omega
      rw [← ih i j hlt hj]
      simp only [pb]
      split
      · rename_i hh
        obtain ⟨q, h1, h2⟩ := pb_high l m i (m % 8) (by omega) (by omega)
        obtain ⟨p1, p2, p3, p4, p5⟩ := pow_table (m % 8) (by omega)
        obtain ⟨d, hd⟩ : ∃ d, m % 8 = j + 1 + d := ⟨m % 8 - j - 1, by omega⟩
        have e : 7 - j = (8 - m % 8) + d := by omega
        rw [h1, e, Nat.pow_add, ← Nat.div_div_eq_div_mul, ← Nat.div_div_eq_div_mul, Nat.mul_div_cancel _ (Nat.two_pow_pos _)]
        have e3 : (q * 2 ^ (8 - m % 8) + 2 ^ (7 - m % 8)) / 2 ^ (8 - m % 8) = q := by
          rw [Nat.add_comm, Nat.add_mul_div_right _ _ (Nat.two_pow_pos _), Nat.div_eq_of_lt (by omega)]
          omega
        rw [e3]
      · rfl
/-- Packed and unpacked, bits come back, with fewer than 8 more behind. -/
theorem unp_packL (l : List UInt8) (h : ∀ b ∈ l, isBit b) : (unp (packL l)).take l.length = l := by
  refine List.ext_getElem ?_ ?_
  · rw [List.length_take, unp_length, packL_length]; omega
  · intro k h1 h2
    rw [List.getElem_take]
    have hk : k = 8 * (k / 8) + k % 8 := by omega
    have hl : k / 8 < (packL l).length := by rw [packL_length]; omega
    have hU : k < (unp (packL l)).length := by rw [List.length_take] at h1; omega
    have a := unp_get (packL l) (k / 8) (k % 8) hl (by omega)
    rw [← hk, List.getElem?_eq_getElem hU, Option.getD_some, List.getElem?_eq_getElem hl, Option.getD_some, packL_get l _ hl, pb_bit l l.length (k / 8) (k % 8) (by omega) (by omega), ← hk, List.getElem?_eq_getElem h2, Option.getD_some] at a
    rw [a]
    have hb := h l[k] (List.getElem_mem _)
    apply UInt8.toNat_inj.1
    rcases hb with hb | hb
    · rw [if_neg (by omega), hb]; decide
    · rw [if_pos hb, hb]; decide
end Go.Proofs.YtjhndncmeedffaaDoor.pack
