/-
  Proved: plain facts on decimal forms: a list of bytes is the decimal form of at most one number, and reading its digits gives this number.
  Conditions: none.
-/
import Derived.Test.YtpkofhchijpbeaaDoorDec
import Derived.Lib.ParseIntB
namespace Go.Proofs.YtpkofhchijpbeaaDoor.num

/-- A byte is a digit. -/
def dig (c : UInt8) : Prop := 48 ≤ c.toNat ∧ c.toNat ≤ 57
/-- The number that digits spell behind acc. -/
def val (acc : Nat) (l : List UInt8) : Nat := l.foldl (fun m c => 10 * m + (c.toNat - 48)) acc
theorem val_snoc (acc : Nat) (l : List UInt8) (c : UInt8) : val acc (l ++ [c]) = 10 * val acc l + (c.toNat - 48) := by unfold val; rw [List.foldl_append]; rfl

theorem digits_dig (u : Nat) : ∀ c ∈ Lib.decDigits u, dig c := by
  induction u using Nat.strongRecOn with
  | _ u ih =>
    intro c hc
    rw [Lib.decDigits] at hc
    by_cases h : u < 10
    · rw [dif_pos h] at hc
      obtain rfl : c = UInt8.ofNat (48 + u) := by simpa using hc
      unfold dig
      rw [UInt8.toNat_ofNat']
      omega
    · rw [dif_neg h, List.mem_append] at hc
      rcases hc with hc | hc
      · exact ih (u / 10) (by omega) c hc
      · obtain rfl : c = UInt8.ofNat (48 + u % 10) := by simpa using hc
        unfold dig
        rw [UInt8.toNat_ofNat']
        omega
theorem val_digits (u : Nat) : val 0 (Lib.decDigits u) = u := by
  induction u using Nat.strongRecOn with
  | _ u ih =>
    rw [Lib.decDigits]
    by_cases h : u < 10
    · rw [dif_pos h]
      simp only [val, List.foldl_cons, List.foldl_nil]
      rw [UInt8.toNat_ofNat']
      omega
    · rw [dif_neg h, val_snoc, ih (u / 10) (by omega), UInt8.toNat_ofNat']
      omega
theorem digits_ne (u : Nat) : Lib.decDigits u ≠ [] := by
  rw [Lib.decDigits]
  split <;> simp

/-- The text behind a minus sign. -/
def rest (l : List UInt8) : List UInt8 := match l with | 45 :: r => r | l => l
def isNeg (l : List UInt8) : Bool := match l with | 45 :: _ => true | _ => false
def numOf (l : List UInt8) : Int := if isNeg l then -(val 0 (rest l) : Int) else (val 0 (rest l) : Int)

theorem itoa_rest (n : Int) : rest (Lib.itoa n) = Lib.decDigits n.natAbs ∧ isNeg (Lib.itoa n) = decide (n < 0) := by
  unfold Lib.itoa
  by_cases h : n < 0
  · rw [if_pos h]; simp [rest, isNeg, h]
  · rw [if_neg h, show n.toNat = n.natAbs by omega]
    have hd := digits_dig n.natAbs
    have hne := digits_ne n.natAbs
    cases e : Lib.decDigits n.natAbs with
    | nil => exact absurd e hne
    | cons c r =>
      have hc : dig c := hd c (by rw [e]; simp)
      have h45 : c ≠ 45 := by rintro rfl; unfold dig at hc; simp at hc
      constructor
      · unfold rest; split
        · rename_i heq; injection heq with h1 _; exact absurd h1 h45
        · rfl
      · unfold isNeg; split
        · rename_i heq; injection heq with h1 _; exact absurd h1 h45
        · simp [h]
/-- A decimal form gives its number back. -/
theorem numOf_itoa (n : Int) : numOf (Lib.itoa n) = n := by
  unfold numOf
  rw [(itoa_rest n).1, (itoa_rest n).2, val_digits]
  by_cases h : n < 0
  · simp [h]; omega
  · simp [h]; omega

theorem val_ge (l : List UInt8) : ∀ acc, acc ≤ val acc l := by
  induction l with
  | nil => intro acc; exact Nat.le_refl _
  | cons c r ih =>
    intro acc
    have := ih (10 * acc + (c.toNat - 48))
    show acc ≤ val (10 * acc + (c.toNat - 48)) r
    omega
theorem val_lt (l : List UInt8) (h : ∀ c ∈ l, dig c) : ∀ acc, val acc l < (acc + 1) * 10 ^ l.length := by
  induction l with
  | nil => intro acc; simp [val]
  | cons c r ih =>
    intro acc
    have h1 := ih (fun c hc => h c (by simp [hc])) (10 * acc + (c.toNat - 48))
    have h2 : dig c := h c (by simp)
    unfold dig at h2
    show val (10 * acc + (c.toNat - 48)) r < _
    rw [List.length_cons, Nat.pow_succ]
    have h3 : (10 * acc + (c.toNat - 48) + 1) * 10 ^ r.length ≤ (acc + 1) * 10 * 10 ^ r.length := Nat.mul_le_mul_right _ (by omega)
    have h4 : (acc + 1) * (10 ^ r.length * 10) = (acc + 1) * 10 * 10 ^ r.length := by rw [Nat.mul_comm (10 ^ r.length) 10, Nat.mul_assoc]
    omega
theorem val_18 (l : List UInt8) (h : ∀ c ∈ l, dig c) (hl : l.length ≤ 18) : val 0 l < 1000000000000000000 := by
  have h1 := val_lt l h 0
  have h2 : 10 ^ l.length ≤ 10 ^ 18 := Nat.pow_le_pow_right (by omega) hl
  have h3 : (10 : Nat) ^ 18 = 1000000000000000000 := by decide
  omega

theorem parseM_digits (mx : Nat) (hmx : mx ≤ 18446744073709551615) : ∀ (l : List UInt8) (acc : Nat), (∀ c ∈ l, dig c) → val acc l ≤ mx → Lib.parseUintM mx acc l = .ok (val acc l)
  | [], acc, _, _ => rfl
  | c :: r, acc, h, hv => by
    have hc : dig c := h c (by simp)
    have hv' : val (10 * acc + (c.toNat - 48)) r ≤ mx := hv
    have hg := val_ge r (10 * acc + (c.toNat - 48))
    unfold dig at hc
    unfold Lib.parseUintM
    rw [if_pos hc, if_neg (by omega), if_neg (by omega), Nat.mul_comm acc 10, parseM_digits mx hmx r _ (fun c hc => h c (by simp [hc])) hv']
    rfl

theorem parse_itoa (n : Int) (hn : n.natAbs < 1000000000000000000) : Lib.parseIntB 64 (Lib.itoa n) = .ok n := by
  have hd := digits_dig n.natAbs
  have hne := digits_ne n.natAbs
  have hp : Lib.parseUintB 64 (Lib.decDigits n.natAbs) = .ok n.natAbs := by
    unfold Lib.parseUintB
    rw [if_neg hne, parseM_digits _ (by decide) _ 0 hd (by rw [val_digits]; omega), val_digits]
  unfold Lib.itoa
  by_cases h : n < 0
  · rw [if_pos h]
    unfold Lib.parseIntB
    simp only [show (45 : UInt8).toNat = 45 from rfl, or_true, if_true, hp]
    rw [if_neg (by simp), if_neg (by simp; omega)]
    simp
    omega
  · rw [if_neg h, show n.toNat = n.natAbs by omega]
    cases e : Lib.decDigits n.natAbs with
    | nil => exact absurd e hne
    | cons c r =>
      have hc : dig c := hd c (by rw [e]; simp)
      unfold dig at hc
      unfold Lib.parseIntB
      have h1 : ¬ (c.toNat = 43 ∨ c.toNat = 45) := by omega
      have h2 : ¬ c.toNat = 45 := by omega
      rw [e] at hp
      have h3 : (if c.toNat = 43 ∨ c.toNat = 45 then r else c :: r) = c :: r := if_neg h1
      dsimp only
      rw [h3, hp]
      simp only [h2, false_and, if_false, not_false_eq_true, true_and]
      rw [if_neg (by omega)]
      congr 1
      omega

/-- What ReadDecimal answers: the number with this decimal form, of at most 18 digits. -/
def res (l : List UInt8) : Option Int := if (rest l).length ≤ 18 ∧ Lib.itoa (numOf l) = l then some (numOf l) else none
theorem res_of (n : Int) (l : List UInt8) (h : (rest l).length ≤ 18) (e : Lib.itoa n = l) : res l = some n := by
  subst e
  unfold res
  rw [numOf_itoa, if_pos ⟨h, rfl⟩]
theorem res_long (l : List UInt8) (h : 18 < (rest l).length) : res l = none := by
  unfold res; rw [if_neg]; omega
/-- It has no answer where no number has this form. -/
theorem res_none (l : List UInt8) (h : ∀ n : Int, n.natAbs < 1000000000000000000 → Lib.itoa n ≠ l) : res l = none := by
  unfold res
  rw [if_neg]
  rintro ⟨hl, e⟩
  refine h (numOf l) ?_ e
  have hr := (itoa_rest (numOf l)).1
  rw [e] at hr
  have := val_18 (rest l) (by rw [hr]; exact digits_dig _) hl
  rw [hr, val_digits] at this
  exact this
theorem trim_rest (l : List UInt8) : Lib.trimPrefix l [45] = rest l := by
  unfold Lib.trimPrefix Lib.hasPrefix
  cases l with
  | nil => rfl
  | cons c r =>
    by_cases h : c = 45
    · subst h; simp [rest, List.isPrefixOf]
    · have h' : ¬ (45 : UInt8) = c := fun e => h e.symm
      have e : rest (c :: r) = c :: r := by
        unfold rest; split
        · rename_i heq; injection heq with h1 _; exact absurd h1 h
        · rfl
      rw [e]
      simp [List.isPrefixOf, h']
theorem rest_neg (r : List UInt8) : rest (45 :: r) = r ∧ isNeg (45 :: r) = true := ⟨rfl, rfl⟩
theorem rest_other (l : List UInt8) (h : l.head? ≠ some 45) : rest l = l ∧ isNeg l = false := by
  cases l with
  | nil => exact ⟨rfl, rfl⟩
  | cons c r =>
    have h' : c ≠ 45 := by simpa using h
    constructor
    · unfold rest; split
      · rename_i heq; injection heq with h1 _; exact absurd h1 h'
      · rfl
    · unfold isNeg; split
      · rename_i heq; injection heq with h1 _; exact absurd h1 h'
      · rfl
end Go.Proofs.YtpkofhchijpbeaaDoor.num
