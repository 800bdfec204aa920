/-
  Proved: plain facts on bits, Rice codes, their sizes, and residuals.
  Conditions: none.
-/
import Derived.Test.YtjhndncmeedffaaDoorPost
namespace Go.Proofs.YtjhndncmeedffaaDoor.bits
set_option linter.unusedVariables false
set_option linter.unusedSimpArgs false

/-- The bits of n, as many as w, the highest first. -/
def num (n : Nat) : Nat → List UInt8
  | 0 => []
  | w + 1 => (48 + n / 2 ^ w % 2).toUInt8 :: num n w

theorem num_length (n : Nat) : ∀ w, (num n w).length = w
  | 0 => rfl
  | w + 1 => by simp [num, num_length n w]

theorem num_snoc (n : Nat) : ∀ w, num n (w + 1) = num (n / 2) w ++ [(48 + n % 2).toUInt8]
  | 0 => by simp [num]
  | w + 1 => by
    have h : n / 2 ^ (w + 1) = n / 2 / 2 ^ w := by rw [Nat.pow_succ, Nat.mul_comm, Nat.div_div_eq_div_mul]
    rw [num, num_snoc n w, num, h]
    rfl

/-- What the loops from w - 1 down have written when k places are left. -/
theorem num_step (n w k : Nat) (h : k < w) : num (n / 2 ^ k) (w - k) = num (n / 2 ^ (k + 1)) (w - (k + 1)) ++ [(48 + n / 2 ^ k % 2).toUInt8] := by
  have e : w - k = (w - (k + 1)) + 1 := by omega
  rw [e, num_snoc]
  have h2 : n / 2 ^ k / 2 = n / 2 ^ (k + 1) := by rw [Nat.pow_succ, Nat.div_div_eq_div_mul]
  rw [h2]

theorem num_step' (n j m : Nat) : num (n / 2 ^ j) (m + 1) = num (n / 2 ^ (j + 1)) m ++ [(48 + n / 2 ^ j % 2).toUInt8] := by
  rw [num_snoc, Nat.pow_succ, Nat.div_div_eq_div_mul]

theorem num_mod (n w v : Nat) (h : w ≤ v) : num (n % 2 ^ v) w = num n w := by
  induction w with
  | zero => rfl
  | succ w ih =>
    rw [num, num, ih (by omega)]
    have : n % 2 ^ v / 2 ^ w % 2 = n / 2 ^ w % 2 := by
      obtain ⟨d, rfl⟩ : ∃ d, v = w + (d + 1) := ⟨v - w - 1, by omega⟩
      rw [Nat.pow_add, Nat.mod_mul_right_div_self, Nat.pow_succ, Nat.mod_mul_left_mod]
    rw [this]

/-- The bits of bytes. -/
def unp : List UInt8 → List UInt8
  | [] => []
  | b :: l => num b.toNat 8 ++ unp l
theorem unp_snoc (b : UInt8) : ∀ l : List UInt8, unp (l ++ [b]) = unp l ++ num b.toNat 8
  | [] => by simp [unp]
  | a :: l => by simp [unp, unp_snoc b l]
theorem unp_length : ∀ l : List UInt8, (unp l).length = 8 * l.length
  | [] => rfl
  | a :: l => by simp only [unp, List.length_append, num_length, unp_length l, List.length_cons]; omega
theorem unp_take (s : ByteArray) (k : Nat) (h : k < s.size) : unp (s.data.toList.take (k + 1)) = unp (s.data.toList.take k) ++ num s[k].toNat 8 := by
  have e : s.data.toList.take (k + 1) = s.data.toList.take k ++ [s[k]] := by
    rw [List.take_succ_eq_append_getElem (by simpa using h)]; rfl
  rw [e, unp_snoc]
theorem unp_take_length (s : ByteArray) (k : Nat) (h : k ≤ s.size) : (unp (s.data.toList.take k)).length = 8 * k := by
  rw [unp_length, List.length_take]
  have : s.data.toList.length = s.size := by simp
  omega
theorem unp_full (s : ByteArray) : unp (s.data.toList.take s.size) = unp s.data.toList := by
  rw [List.take_of_length_le (by simp)]

/-- A character is a bit. -/
def isBit (b : UInt8) : Prop := b.toNat = 48 ∨ b.toNat = 49
theorem bit_toNat (n : Nat) : (48 + n % 2).toUInt8.toNat = 48 + n % 2 := by
  have : 48 + n % 2 < 256 := by omega
  simp [Nat.toUInt8, UInt8.ofNat, UInt8.toNat]
  omega
theorem num_bits (n w : Nat) : ∀ b ∈ num n w, isBit b := by
  induction w with
  | zero => intro b h; simp [num] at h
  | succ w ih =>
    intro b h
    rw [num] at h
    rcases List.mem_cons.1 h with rfl | h
    · unfold isBit; rw [bit_toNat]; omega
    · exact ih b h

/-- The number of bits, the highest first. -/
def val (l : List UInt8) : Nat := l.foldl (fun a b => 2 * a + (b.toNat - 48)) 0
theorem val_nil : val [] = 0 := rfl
theorem val_snoc (l : List UInt8) (b : UInt8) : val (l ++ [b]) = 2 * val l + (b.toNat - 48) := by simp [val]
theorem val_num (n : Nat) : ∀ w, val (num n w) = n % 2 ^ w := by
  intro w
  induction w generalizing n with
  | zero => simp [num, val, Nat.mod_one]
  | succ w ih =>
    rw [num_snoc, val_snoc, ih, bit_toNat, Nat.pow_succ, Nat.mul_comm (2 ^ w) 2, Nat.mod_mul]
    omega
theorem val_take (l : List UInt8) (k : Nat) (h : k < l.length) : val (l.take (k + 1)) = 2 * val (l.take k) + (l[k].toNat - 48) := by
  rw [List.take_succ_eq_append_getElem h, val_snoc]
theorem val_lt (l : List UInt8) (h : ∀ b ∈ l, isBit b) : ∀ k, k ≤ l.length → val (l.take k) < 2 ^ k := by
  intro k
  induction k with
  | zero => intro _; simp [val]
  | succ k ih =>
    intro hk
    rw [val_take l k hk, Nat.pow_succ]
    have h1 := ih (by omega)
    have h2 := h l[k] (List.getElem_mem _)
    unfold isBit at h2
    omega
theorem val_cons (b : UInt8) (l : List UInt8) (h : b.toNat = 48) : val (b :: l) = val l := by simp [val, h]

/-- The number without a sign. -/
def fold (n : Int) : Nat := if n < 0 then (-2 * n - 1).toNat else (2 * n).toNat
def unfold' (u : Nat) : Int := if u % 2 = 1 then -(((u : Int) + 1) / 2) else (u : Int) / 2
theorem unfold_fold (n : Int) : unfold' (fold n) = n := by
  unfold unfold' fold
  split <;> split <;> omega
theorem fold_le (n : Int) (m : Nat) (h : -(m : Int) ≤ n ∧ n ≤ m) : fold n ≤ 2 * m := by unfold fold; split <;> omega

/-- The Rice code. -/
def rice (n : Int) (k : Nat) : List UInt8 :=
  if fold n / 2 ^ k < 20 then List.replicate (fold n / 2 ^ k) 49 ++ 48 :: num (fold n % 2 ^ k) k else List.replicate 20 49 ++ num (fold n) 32
theorem rice_short (n : Int) (k : Nat) (h : fold n / 2 ^ k < 20) : rice n k = List.replicate (fold n / 2 ^ k) 49 ++ num (fold n % 2 ^ k) (1 + k) := by
  rw [rice, if_pos h, Nat.add_comm 1 k, num, Nat.div_eq_of_lt (Nat.mod_lt _ (Nat.two_pow_pos k))]
  rfl
theorem rice_length (n : Int) (k : Nat) : (rice n k).length = if fold n / 2 ^ k < 20 then fold n / 2 ^ k + 1 + k else 52 := by
  unfold rice; split
  · rw [List.length_append, List.length_replicate, List.length_cons, num_length]; omega
  · rw [List.length_append, List.length_replicate, num_length]
theorem rice_le (n : Int) (k : Nat) (hk : k ≤ 12) : (rice n k).length ≤ 52 := by
  rw [rice_length]; split <;> omega
theorem rice_pos (n : Int) (k : Nat) : 0 < (rice n k).length := by
  rw [rice_length]; generalize fold n / 2 ^ k = a; split <;> omega
theorem rice_bits (n : Int) (k : Nat) : ∀ b ∈ rice n k, isBit b := by
  intro b h
  unfold rice at h
  split at h
  · rcases List.mem_append.1 h with h | h
    · rw [(List.mem_replicate.1 h).2]; exact .inr rfl
    · rcases List.mem_cons.1 h with rfl | h
      · exact .inl rfl
      · exact num_bits _ _ b h
  · rcases List.mem_append.1 h with h | h
    · rw [(List.mem_replicate.1 h).2]; exact .inr rfl
    · exact num_bits _ _ b h

/-- How many ones stand first, up to m. -/
def ones : List UInt8 → Nat → Nat
  | [], _ => 0
  | _, 0 => 0
  | b :: l, m + 1 => if b.toNat = 49 then ones l m + 1 else 0
theorem ones_le (l : List UInt8) : ∀ m, ones l m ≤ m ∧ ones l m ≤ l.length := by
  induction l with
  | nil => intro m; simp [ones]
  | cons b l ih =>
    intro m
    cases m with
    | zero => simp [ones]
    | succ m => have := ih m; simp only [ones, List.length_cons]; split <;> omega
theorem ones_all (l : List UInt8) : ∀ m i (h : i < ones l m), (l[i]'(by have := ones_le l m; omega)).toNat = 49 := by
  induction l with
  | nil => intro m i h; simp [ones] at h
  | cons b l ih =>
    intro m i h
    cases m with
    | zero => simp [ones] at h
    | succ m =>
      simp only [ones] at h
      split at h
      · cases i with
        | zero => assumption
        | succ i => exact ih m i (by omega)
      · omega
theorem ones_stop (l : List UInt8) : ∀ m, ones l m < m → (h : ones l m < l.length) → (l[ones l m]).toNat ≠ 49 := by
  induction l with
  | nil => intro m h1 h2; simp [ones] at h2
  | cons b l ih =>
    intro m h1 h2
    cases m with
    | zero => omega
    | succ m =>
      simp only [ones] at h1 h2 ⊢
      split
      · rename_i hb
        rw [if_pos hb] at h1 h2
        exact ih m (by omega) (by simpa using h2)
      · assumption
/-- The loop over the ones: q of them have been passed. -/
theorem ones_eq (l : List UInt8) (m q : Nat) (hq : q ≤ m) (hl : q ≤ l.length) (hall : ∀ i (h : i < q), (l[i]'(by omega)).toNat = 49) (hstop : q < m → (h : q < l.length) → l[q].toNat ≠ 49) : ones l m = q := by
  have h1 := ones_le l m
  rcases Nat.lt_trichotomy (ones l m) q with h | h | h
  · exact absurd (hall _ h) (ones_stop l m (by omega) (by omega))
  · exact h
  · exact absurd (ones_all l m q h) (hstop (by omega) (by omega))
theorem ones_replicate (q m : Nat) (l : List UInt8) (h : q < m) : ones (List.replicate q 49 ++ 48 :: l) m = q := by
  refine ones_eq _ m q (by omega) (by simp) (fun i hi => ?_) (fun _ _ => ?_)
  · rw [List.getElem_append_left (by simpa using hi)]; simp
  · rw [List.getElem_append_right (by simp)]; simp
theorem ones_full (q : Nat) (l : List UInt8) : ones (List.replicate q 49 ++ l) q = q := by
  refine ones_eq _ q q (by omega) (by simp) (fun i hi => ?_) (fun h _ => by omega)
  rw [List.getElem_append_left (by simpa using hi)]; simp

inductive Got where
  | ok (n : Int) (len : Nat)
  | trunc
  | format
/-- A number and the length of its code, read from the beginning of bits. -/
def read (l : List UInt8) (k : Nat) : Got :=
  if ones l 20 = 20 then
    if l.length < 52 then .trunc
    else if val ((l.drop 20).take 32) / 2 ^ k < 20 ∨ ¬ (-1000000000 ≤ unfold' (val ((l.drop 20).take 32)) ∧ unfold' (val ((l.drop 20).take 32)) ≤ 1000000000) then .format
    else .ok (unfold' (val ((l.drop 20).take 32))) 52
  else if l.length < ones l 20 + 1 + k then .trunc
  else .ok (unfold' (ones l 20 * 2 ^ k + val ((l.drop (ones l 20 + 1)).take k))) (ones l 20 + 1 + k)

theorem read_rice (n : Int) (k : Nat) (hn : -1000000000 ≤ n ∧ n ≤ 1000000000) (rest : List UInt8) : read (rice n k ++ rest) k = .ok n (rice n k).length := by
  have hu : fold n ≤ 2000000000 := fold_le n 1000000000 hn
  by_cases h : fold n / 2 ^ k < 20
  · have e : rice n k ++ rest = List.replicate (fold n / 2 ^ k) 49 ++ 48 :: (num (fold n % 2 ^ k) k ++ rest) := by rw [rice, if_pos h]; simp
    have ho : ones (rice n k ++ rest) 20 = fold n / 2 ^ k := by rw [e]; exact ones_replicate _ _ _ h
    rw [read, ho, if_neg (by omega), if_neg (by rw [List.length_append, rice_length, if_pos h]; omega), rice_length, if_pos h]
    have hd : (rice n k ++ rest).drop (fold n / 2 ^ k + 1) = num (fold n % 2 ^ k) k ++ rest := by
      rw [e, ← List.drop_drop, List.drop_left' (by simp)]; rfl
    rw [hd, List.take_left' (by rw [num_length]), val_num, Nat.mod_mod]
    have : fold n / 2 ^ k * 2 ^ k + fold n % 2 ^ k = fold n := by rw [Nat.mul_comm]; exact Nat.div_add_mod _ _
    rw [this, unfold_fold]
  · have e : rice n k ++ rest = List.replicate 20 49 ++ (num (fold n) 32 ++ rest) := by rw [rice, if_neg h]; simp
    have ho : ones (rice n k ++ rest) 20 = 20 := by rw [e]; exact ones_full _ _
    have hd : ((rice n k ++ rest).drop 20).take 32 = num (fold n) 32 := by
      rw [e, List.drop_left' (by simp), List.take_left' (by rw [num_length])]
    have hv : val (num (fold n) 32) = fold n := by rw [val_num]; exact Nat.mod_eq_of_lt (by omega)
    rw [read, if_pos ho, hd, hv, if_neg (by rw [List.length_append, rice_length, if_neg h]; omega), if_neg (by rw [unfold_fold]; omega), rice_length, if_neg h, unfold_fold]
theorem read_nil (k : Nat) : read [] k = .trunc := by simp [read, ones]

/-- The sizes of the codes of n numbers together. -/
def size (f : Nat → Int) (k : Nat) : Nat → Nat
  | 0 => 0
  | i + 1 => size f k i + (rice (f i) k).length
theorem size_le (f : Nat → Int) (k : Nat) (hk : k ≤ 12) : ∀ n, size f k n ≤ 52 * n
  | 0 => Nat.le_refl _
  | n + 1 => by have := size_le f k hk n; have := rice_le (f n) k hk; simp only [size]; omega
/-- The best parameter up to k, and its size. -/
def best (g : Nat → Nat) : Nat → Nat × Nat
  | 0 => (0, g 0)
  | k + 1 => if g (k + 1) < (best g k).2 then (k + 1, g (k + 1)) else best g k
theorem best_le (g : Nat → Nat) : ∀ k, (best g k).1 ≤ k ∧ (best g k).2 = g (best g k).1 ∧ (∀ p, p ≤ k → (best g k).2 ≤ g p) ∧ ∀ p, p < (best g k).1 → (best g k).2 < g p
  | 0 => ⟨Nat.le_refl _, rfl, fun p hp => by obtain rfl : p = 0 := by omega
                                             exact Nat.le_refl _, fun p hp => absurd hp (Nat.not_lt_zero _)⟩
  | k + 1 => by
    obtain ⟨h1, h2, h3, h4⟩ := best_le g k
    simp only [best]
    split
    · rename_i h
      refine ⟨Nat.le_refl _, rfl, fun p hp => ?_, fun p hp => ?_⟩
      · by_cases e : p = k + 1
        · rw [e]; exact Nat.le_refl _
        · have := h3 p (by omega); simp only; omega
      · have := h3 p (by simpa using Nat.le_of_lt_succ hp); simp only; omega
    · rename_i h
      refine ⟨by omega, h2, fun p hp => ?_, h4⟩
      by_cases e : p = k + 1
      · rw [e]; omega
      · exact h3 p (by omega)

/-- The prediction of place i of f. -/
def guess (f : Nat → Int) : Nat → Int
  | 0 => 0
  | 1 => f 0
  | i + 2 => 2 * f (i + 1) - f i
def resid (f : Nat → Int) (i : Nat) : Int := f i - guess f i
/-- The first n numbers with the residuals r. -/
def from_ (r : Nat → Int) : Nat → Int
  | 0 => r 0
  | 1 => r 0 + r 1
  | i + 2 => r (i + 2) + (2 * from_ r (i + 1) - from_ r i)
theorem guess_congr {f g : Nat → Int} : ∀ i, (∀ j, j < i → f j = g j) → guess f i = guess g i
  | 0, _ => rfl
  | 1, h => h 0 (by omega)
  | i + 2, h => by rw [guess, guess, h i (by omega), h (i + 1) (by omega)]
theorem from_step (r : Nat → Int) : ∀ i, from_ r i = r i + guess (from_ r) i
  | 0 => by simp [from_, guess]
  | 1 => by simp [from_, guess]; omega
  | i + 2 => by rw [from_, guess]
theorem from_resid (f : Nat → Int) : ∀ i, from_ (resid f) i = f i := by
  have key : ∀ i, from_ (resid f) i = f i ∧ from_ (resid f) (i + 1) = f (i + 1) := by
    intro i
    induction i with
    | zero => constructor <;> simp [from_, resid, guess] <;> omega
    | succ i ih =>
      refine ⟨ih.2, ?_⟩
      rw [from_, ih.1, ih.2]
      show f (i + 2) - (2 * f (i + 1) - f i) + (2 * f (i + 1) - f i) = f (i + 2)
      omega
  exact fun i => (key i).1

end Go.Proofs.YtjhndncmeedffaaDoor.bits
