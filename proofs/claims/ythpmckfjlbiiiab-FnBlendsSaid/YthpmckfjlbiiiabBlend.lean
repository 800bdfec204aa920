/-
  Proved: what the document's function that blends two sequences along a path returns.
  Conditions: the path fits both sequences.
-/
import Derived.Test.YthpmckfjlbiiiabTabD
import Derived.Test.YthpmckfjlbiiiabNear3
import Derived.StillTailTactics
namespace Go.Proofs.Ythpmckfjlbiiiab.path
open Go.ChangeShapes Go.WideShapes Go.ChangeAt Go.RowKit Go.Joins
open Go.Proofs.Ythpmckfjlbiiiab.core Go.Proofs.Ythpmckfjlbiiiab.rown Go.Proofs.Ythpmckfjlbiiiab.stk Go.Proofs.Ythpmckfjlbiiiab.boxed Go.Proofs.Ythpmckfjlbiiiab.ft Go.Proofs.Ythpmckfjlbiiiab.seq Go.Proofs.Ythpmckfjlbiiiab.near
set_option linter.unusedVariables false
set_option linter.unusedSimpArgs false
/-- The sum over the pairs of a path that stand at i. -/
def bs (f : Nat → P2) (g : Nat → Int) (i : Nat) : Nat → Int
  | 0 => 0
  | p + 1 => if (f p).1 = (i : Int) then bs f g i p + g p else bs f g i p
theorem bs_in {f : Nat → P2} {g : Nat → Int} {i : Nat} {B : Int} (hB : 0 ≤ B) : ∀ {n : Nat}, (∀ p, p < n → 0 ≤ g p ∧ g p ≤ B) → 0 ≤ bs f g i n ∧ bs f g i n ≤ (n : Int) * B
  | 0, _ => by simp [bs]
  | n + 1, h => by
    have h1 := bs_in (f := f) (g := g) (i := i) hB (n := n) fun j hj => h j (by omega)
    have h2 := h n (by omega)
    have h3 : ((n + 1 : Nat) : Int) * B = (n : Int) * B + B := by push_cast; rw [Int.add_mul, Int.one_mul]
    rw [h3]; unfold bs; split <;> omega
theorem bs_pos {f : Nat → P2} {i p : Nat} (hp : (f p).1 = (i : Int)) : ∀ n, p < n → 1 ≤ bs f (fun _ => 1) i n
  | 0, h => absurd h (by omega)
  | n + 1, h => by
    have h0 := (bs_in (f := f) (g := fun _ => 1) (i := i) (B := 1) (by omega) (n := n) fun _ _ => ⟨by omega, by omega⟩).1
    unfold bs
    split
    · omega
    · rename_i hne
      have hpn : p ≠ n := fun e => hne (e ▸ hp)
      exact bs_pos hp n (by omega)
/-- A path stands at each place of the first list. -/
theorem path_hits {k : Nat} {f : Nat → P2} {n m band : Int} (h : okPath k f n m band = true) (i : Nat) (hi : (i : Int) < n) : ∃ p, p < k ∧ (f p).1 = (i : Int) := by
  obtain ⟨h0, ⟨h1, -⟩, ⟨h2, -⟩, h3⟩ := okPath_of h
  have key : ∀ p, p < k → ∀ i : Nat, (i : Int) ≤ (f p).1 → ∃ q, q ≤ p ∧ (f q).1 = (i : Int) := by
    intro p
    induction p with
    | zero => intro _ i hi; exact ⟨0, Nat.le_refl _, by omega⟩
    | succ p ih =>
      intro hp i hi
      by_cases hle : (i : Int) ≤ (f p).1
      · obtain ⟨q, hq, e⟩ := ih (by omega) i hle
        exact ⟨q, by omega, e⟩
      · have hs := (h3 (p + 1) hp).2 (by omega)
        rw [Nat.add_sub_cancel] at hs
        exact ⟨p + 1, Nat.le_refl _, by have := hs.1; omega⟩
  obtain ⟨q, hq, e⟩ := key (k - 1) (by omega) i (by omega)
  exact ⟨q, by omega, e⟩
def gXf (fb : Nat → P3) (f : Nat → P2) (p : Nat) : Int := (fb (f p).2.toNat).1
def gYf (fb : Nat → P3) (f : Nat → P2) (p : Nat) : Int := (fb (f p).2.toNat).2.1
/-- The feature at a place of the blend. -/
def blendAt (k : Nat) (fa fb : Nat → P3) (f : Nat → P2) (i : Nat) : P3 :=
  (nr (bs f (gXf fb f) i k + bs f (fun _ => 1) i k * (fa i).1) (2 * bs f (fun _ => 1) i k), nr (bs f (gYf fb f) i k + bs f (fun _ => 1) i k * (fa i).2.1) (2 * bs f (fun _ => 1) i k), (fa i).2.2)
theorem mul_in {K a k : Int} (h1 : 0 ≤ K) (h2 : K ≤ k) (h3 : 0 ≤ a) (h4 : a ≤ 255) : 0 ≤ K * a ∧ K * a ≤ k * 255 := ⟨Int.mul_nonneg h1 h3, Int.mul_le_mul h2 h4 h3 (by omega)⟩
theorem still_f {P : Program} {f : FuncId} {args : Array Value} {w : World} {v : Value} (h : Calls P f args w fun e w' => e = .returned v ∧ w = w') : Calls P f args w fun e w' => e = .returned v ∧ w' = w := h.mono fun _ _ ⟨he, hw⟩ => ⟨he, hw.symm⟩
end Go.Proofs.Ythpmckfjlbiiiab.path
