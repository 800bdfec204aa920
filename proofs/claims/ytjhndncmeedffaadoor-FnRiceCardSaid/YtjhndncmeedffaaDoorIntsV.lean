/-
  Proved: a list of numbers, read as a datum or owned, as its numbers.
  Conditions: none.
-/
import Derived.Test.YtjhndncmeedffaaDoorRng
namespace Go.Proofs.YtjhndncmeedffaaDoor.ints
open Go.ChangeShapes Go.WideShapes Go.ChangeAt Go.RowKit Go.Joins
open Go.Proofs.YtjhndncmeedffaaDoor.core Go.Proofs.YtjhndncmeedffaaDoor.rows Go.Proofs.YtjhndncmeedffaaDoor.numS
set_option linter.unusedVariables false
set_option linter.unusedSimpArgs false

/-- The numbers of f before n, as a list. -/
def lst (f : Nat → Int) : Nat → List Int
  | 0 => []
  | n + 1 => lst f n ++ [f n]
theorem lst_length (f : Nat → Int) : ∀ n, (lst f n).length = n
  | 0 => rfl
  | n + 1 => by simp [lst, lst_length f n]
theorem lst_get (f : Nat → Int) : ∀ n i, i < n → (lst f n)[i]?.getD 0 = f i
  | 0, i, h => absurd h (by omega)
  | n + 1, i, h => by
    simp only [lst]
    by_cases e : i < n
    · rw [List.getElem?_append_left (by rw [lst_length]; exact e)]
      exact lst_get f n i e
    · obtain rfl : i = n := by omega
      rw [List.getElem?_append_right (by rw [lst_length]; exact Nat.le_refl _), lst_length]
      simp
theorem lst_mem {f : Nat → Int} {P : Int → Prop} : ∀ n, (∀ i, i < n → P (f i)) → ∀ x ∈ lst f n, P x
  | 0, _, x, h => by simp [lst] at h
  | n + 1, h, x, hx => by
    simp only [lst, List.mem_append, List.mem_singleton] at hx
    rcases hx with hx | rfl
    · exact lst_mem n (fun i hi => h i (by omega)) x hx
    · exact h n (by omega)
theorem lst_congr {f g : Nat → Int} : ∀ n, (∀ i, i < n → f i = g i) → lst f n = lst g n
  | 0, _ => rfl
  | n + 1, h => by simp only [lst]; rw [lst_congr n (fun i hi => h i (by omega)), h n (by omega)]
/-- The row's cells, while it grows. -/
theorem row_ints {w : World} {base n : Nat} {g c : Nat} {f : Nat → Int} (h : w.ownsRow base 2 1 (.slice (some ⟨g, 0, none⟩) n c) n ((lst f n).map (Value.int .i64))) (hf : ∀ i, i < n → inI64 (f i)) (hn : 0 < n) : IntsAt w (some ⟨g, 0, none⟩) n f := fun i hi => by
  have hc := h.cells (g := g) rfl i (.int .i64 (f i)) (by
    have := lst_get f n i hi
    rw [List.getElem?_map]
    rw [List.getElem?_eq_getElem (by rw [lst_length]; exact hi)] at this ⊢
    simp at this ⊢
    exact this)
  rw [add_at] at hc
  obtain ⟨_, cur, hb⟩ := ownsRow_block h (g := g) rfl
  exact ⟨g, 0, rfl, (Array.getElem?_eq_some_iff.1 hb).1, by rw [Nat.zero_add]; exact hc, hf i hi⟩
end Go.Proofs.YtjhndncmeedffaaDoor.ints
