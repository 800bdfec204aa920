/-
  Proved: blends lie between what they are made of (plain lemmas for the laws of chapter 9).
  Conditions: the lists are sequences.
-/
import Derived.Test.YthpmckfjlbiiiabBlendF
namespace Go.Proofs.Ythpmckfjlbiiiab.dp
open Go.ChangeShapes Go.WideShapes Go.ChangeAt Go.RowKit Go.Joins
open Go.Proofs.Ythpmckfjlbiiiab.core Go.Proofs.Ythpmckfjlbiiiab.rown Go.Proofs.Ythpmckfjlbiiiab.stk Go.Proofs.Ythpmckfjlbiiiab.boxed Go.Proofs.Ythpmckfjlbiiiab.ft Go.Proofs.Ythpmckfjlbiiiab.seq Go.Proofs.Ythpmckfjlbiiiab.path Go.Proofs.Ythpmckfjlbiiiab.near
set_option linter.unusedVariables false
set_option linter.unusedSimpArgs false
/-- A path of equal places. -/
def ownP (i : Nat) : P2 := ((i : Int), (i : Int))
theorem own_ok {n : Nat} (h1 : 1 ≤ n) : okPath n ownP n n 72 = true := by
  refine okPath_true ⟨h1, ⟨rfl, rfl⟩, ?_, fun x hx => ⟨?_, fun h0 => ?_⟩⟩
  · unfold ownP; simp only; omega
  · unfold inP ownP; simp only; exact ⟨by omega, by omega, by rw [Int.sub_self]; decide⟩
  · unfold stepP ownP; simp only; omega
theorem bs_own (g : Nat → Int) (i : Nat) : ∀ k, bs ownP g i k = if i < k then g i else 0
  | 0 => by simp [bs]
  | k + 1 => by
    unfold bs
    rw [bs_own g i k]
    unfold ownP
    simp only
    by_cases h : i = k
    · subst h
      rw [if_pos rfl, if_neg (by omega), if_pos (by omega)]; omega
    · rw [if_neg (by omega)]
      by_cases h2 : i < k
      · rw [if_pos h2, if_pos (by omega)]
      · rw [if_neg h2, if_neg (by omega)]
theorem nr_two (x : Int) : nr (x + 1 * x) (2 * 1) = x := by unfold nr; omega
theorem blend_own {n : Nat} {f : Nat → P3} (i : Nat) (hi : i < n) : blendAt n f f ownP i = f i := by
  unfold blendAt
  rw [bs_own, bs_own, bs_own, if_pos hi, if_pos hi, if_pos hi]
  have e1 : gXf f ownP i = (f i).1 := by unfold gXf ownP; simp only [Int.toNat_natCast]
  have e2 : gYf f ownP i = (f i).2.1 := by unfold gYf ownP; simp only [Int.toNat_natCast]
  rw [e1, e2, nr_two, nr_two]
/-- What is summed up lies between. -/
theorem bs_mid {f : Nat → P2} {g : Nat → Int} {i : Nat} {lo hi : Int} : ∀ n, (∀ p, p < n → (f p).1 = (i : Int) → lo ≤ g p ∧ g p ≤ hi) → bs f (fun _ => 1) i n * lo ≤ bs f g i n ∧ bs f g i n ≤ bs f (fun _ => 1) i n * hi
  | 0, _ => by simp [bs]
  | n + 1, h => by
    have h1 := bs_mid (f := f) (g := g) (i := i) (lo := lo) (hi := hi) n fun p hp he => h p (by omega) he
    unfold bs
    split
    · rename_i he
      have h2 := h n (by omega) he
      rw [Int.add_mul, Int.add_mul, Int.one_mul, Int.one_mul]
      omega
    · exact h1
theorem nr_mid {S K x lo hi : Int} (hK : 1 ≤ K) (h1 : K * lo ≤ S) (h2 : S ≤ K * hi) (h3 : lo ≤ x) (h4 : x ≤ hi) : lo ≤ nr (S + K * x) (2 * K) ∧ nr (S + K * x) (2 * K) ≤ hi := by
  have q1 : K * lo ≤ K * x := Int.mul_le_mul_of_nonneg_left h3 (by omega)
  have q2 : K * x ≤ K * hi := Int.mul_le_mul_of_nonneg_left h4 (by omega)
  unfold nr
  have hp : 0 < 2 * (2 * K) := by omega
  constructor
  · refine (Int.le_ediv_iff_mul_le hp).2 ?_
    have : lo * (2 * (2 * K)) = 4 * (K * lo) := by rw [Int.mul_comm, show 2 * (2 * K) = 4 * K by omega, Int.mul_assoc]
    omega
  · have : (2 * (S + K * x) + 2 * K) / (2 * (2 * K)) < hi + 1 := (Int.ediv_lt_iff_lt_mul hp).2 (by
      have : (hi + 1) * (2 * (2 * K)) = 4 * (K * hi) + 4 * K := by rw [Int.add_mul, Int.one_mul, Int.mul_comm, show 2 * (2 * K) = 4 * K by omega, Int.mul_assoc]
      omega)
    omega
theorem blend_mid {k : Nat} {fa fb : Nat → P3} {f : Nat → P2} {na nb : Nat} (hp : okPath k f na nb 72 = true) (i : Nat) (hi : i < na) {lo h : Int} (h1 : lo ≤ (fa i).1) (h2 : (fa i).1 ≤ h) (hm : ∀ p, p < k → (f p).1 = (i : Int) → lo ≤ gXf fb f p ∧ gXf fb f p ≤ h) :
    lo ≤ (blendAt k fa fb f i).1 ∧ (blendAt k fa fb f i).1 ≤ h := by
  obtain ⟨p, hpk, he⟩ := path_hits hp i (by omega)
  have hK := bs_pos he k hpk
  have hb := bs_mid k hm
  exact nr_mid hK hb.1 hb.2 h1 h2
end Go.Proofs.Ythpmckfjlbiiiab.dp
