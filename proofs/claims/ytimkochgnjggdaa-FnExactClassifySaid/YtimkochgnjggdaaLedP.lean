/-
  Proved: the difference of the two last numbers of a sorted list is the least one of the greatest number and any other.
  Conditions: none.
-/
import Derived.Test.YtimkochgnjggdaaBst
namespace Go.Proofs.Ytimkochgnjggdaa.led
open Go.Proofs.Ytimkochgnjggdaa.bst
set_option linter.unusedVariables false
set_option linter.unusedSimpArgs false
/-- The numbers in their order. -/
def srt (F : Nat → Int) (n : Nat) : List Int := ((List.range n).map F).mergeSort fun x y => decide (x ≤ y)
def srtAt (F : Nat → Int) (n i : Nat) : Int := (srt F n).getD i 0
theorem srt_perm (F : Nat → Int) (n : Nat) : (srt F n).Perm ((List.range n).map F) := List.mergeSort_perm _ _
theorem srt_len (F : Nat → Int) (n : Nat) : (srt F n).length = n := by rw [(srt_perm F n).length_eq]; simp
theorem srt_sorted (F : Nat → Int) (n : Nat) : (srt F n).Pairwise fun x y => x ≤ y := by
  have h := List.pairwise_mergeSort (le := fun x y : Int => decide (x ≤ y)) (fun a b c h1 h2 => by simp at *; omega) (fun a b => by simp; omega) ((List.range n).map F)
  exact h.imp fun h => by simpa using h
theorem srt_mono (F : Nat → Int) (n i j : Nat) (hij : i ≤ j) (hj : j < n) : srtAt F n i ≤ srtAt F n j := by
  have hl := srt_len F n
  unfold srtAt
  rcases Nat.lt_or_ge i j with h | h
  · have := List.pairwise_iff_getElem.1 (srt_sorted F n) i j (by omega) (by omega) h
    rw [List.getD_eq_getElem?_getD, List.getD_eq_getElem?_getD, List.getElem?_eq_getElem (by omega), List.getElem?_eq_getElem (by omega)]
    exact this
  · obtain rfl : i = j := by omega
    exact Int.le_refl _
theorem srt_mem (F : Nat → Int) (n i : Nat) (hi : i < n) : ∃ c, c < n ∧ srtAt F n i = F c := by
  have hl := srt_len F n
  have hm : srtAt F n i ∈ srt F n := by
    unfold srtAt
    rw [List.getD_eq_getElem?_getD, List.getElem?_eq_getElem (by omega)]
    exact List.getElem_mem _
  have := (srt_perm F n).mem_iff.1 hm
  simp at this
  obtain ⟨c, hc, e⟩ := this
  exact ⟨c, hc, e.symm⟩
theorem srt_has (F : Nat → Int) (n c : Nat) (hc : c < n) : ∃ i, i < n ∧ srtAt F n i = F c := by
  have hl := srt_len F n
  have hm : F c ∈ srt F n := (srt_perm F n).mem_iff.2 (List.mem_map.2 ⟨c, List.mem_range.2 hc, rfl⟩)
  obtain ⟨i, hi, e⟩ := List.getElem_of_mem hm
  refine ⟨i, by omega, ?_⟩
  unfold srtAt
  rw [List.getD_eq_getElem?_getD, List.getElem?_eq_getElem hi]
  exact e
theorem srt_last (F : Nat → Int) (M : Nat) : srtAt F (M + 1) M = F (bst F M) := by
  obtain ⟨c, hc, e⟩ := srt_mem F (M + 1) M (by omega)
  obtain ⟨i, hi, e'⟩ := srt_has F (M + 1) (bst F M) (by have := bst_le F M; omega)
  have h1 := bst_max F M c (by omega)
  have h2 := srt_mono F (M + 1) i M (by omega) (by omega)
  omega
/-- The rest of the sorted list is the rest of the list. -/
theorem srt_rest (F : Nat → Int) (M : Nat) : ((srt F (M + 1)).dropLast).Perm (((List.range (M + 1)).erase (bst F M)).map F) := by
  have hl := srt_len F (M + 1)
  have hne : srt F (M + 1) ≠ [] := fun e => by rw [e] at hl; cases hl
  have hlast : (srt F (M + 1)).getLast hne = F (bst F M) := by
    rw [← srt_last F M]
    unfold srtAt
    rw [List.getD_eq_getElem?_getD, List.getElem?_eq_getElem (by omega), List.getLast_eq_getElem]
    simp [hl]
  have h1 : (srt F (M + 1)).Perm (F (bst F M) :: (srt F (M + 1)).dropLast) := by
    have := List.dropLast_concat_getLast hne
    rw [hlast] at this
    have h2 : (srt F (M + 1)).Perm ((srt F (M + 1)).dropLast ++ [F (bst F M)]) := by rw [this]
    exact h2.trans (List.perm_append_singleton _ _)
  have hb : bst F M ∈ List.range (M + 1) := List.mem_range.2 (by have := bst_le F M; omega)
  have h3 : ((List.range (M + 1)).map F).Perm (F (bst F M) :: ((List.range (M + 1)).erase (bst F M)).map F) := (List.perm_cons_erase hb).map F
  exact (h1.symm.trans ((srt_perm F (M + 1)).trans h3)).cons_inv
theorem drop_at (F : Nat → Int) (M i : Nat) (hi : i < M) : (srt F (M + 1)).dropLast[i]? = some (srtAt F (M + 1) i) := by
  have hl := srt_len F (M + 1)
  unfold srtAt
  rw [List.getD_eq_getElem?_getD, List.getElem?_dropLast, if_pos (by omega), List.getElem?_eq_getElem (by omega)]
  rfl
theorem srt_prev (F : Nat → Int) (M : Nat) (hM : 0 < M) : (∃ c, c ≤ M ∧ c ≠ bst F M ∧ srtAt F (M + 1) (M - 1) = F c) ∧ ∀ c, c ≤ M → c ≠ bst F M → F c ≤ srtAt F (M + 1) (M - 1) := by
  have hl := srt_len F (M + 1)
  have hp := srt_rest F M
  have hmem : ∀ c, c ∈ (List.range (M + 1)).erase (bst F M) ↔ c ≠ bst F M ∧ c < M + 1 := fun c => by
    rw [List.nodup_range.mem_erase_iff, List.mem_range]
  constructor
  · have h1 : srtAt F (M + 1) (M - 1) ∈ (srt F (M + 1)).dropLast := List.mem_of_getElem? (drop_at F M (M - 1) (by omega))
    obtain ⟨c, hc, e⟩ := List.mem_map.1 (hp.mem_iff.1 h1)
    obtain ⟨a, b⟩ := (hmem c).1 hc
    exact ⟨c, by omega, a, e.symm⟩
  · intro c hc hne
    have h1 : F c ∈ (srt F (M + 1)).dropLast := hp.mem_iff.2 (List.mem_map.2 ⟨c, (hmem c).2 ⟨hne, by omega⟩, rfl⟩)
    obtain ⟨i, hi, e⟩ := List.getElem_of_mem h1
    rw [List.length_dropLast, hl] at hi
    have h2 := drop_at F M i (by omega)
    rw [List.getElem?_eq_getElem (by rw [List.length_dropLast, hl]; omega), e] at h2
    injection h2 with h2
    rw [h2]
    exact srt_mono F (M + 1) i (M - 1) (by omega) (by omega)
/-- The least difference among the first k numbers; -1 if there is none. -/
def mg (F : Nat → Int) (b : Nat) : Nat → Int
  | 0 => -1
  | k + 1 => if k ≠ b ∧ (mg F b k < 0 ∨ F b - F k < mg F b k) then F b - F k else mg F b k
theorem mg_spec (F : Nat → Int) (b M : Nat) (hb : ∀ c, c ≤ M → F c ≤ F b) : ∀ k, k ≤ M + 1 →
    (mg F b k = -1 ∧ ∀ c, c < k → c = b) ∨ (0 ≤ mg F b k ∧ (∃ c, c < k ∧ c ≠ b ∧ mg F b k = F b - F c) ∧ ∀ c, c < k → c ≠ b → mg F b k ≤ F b - F c)
  | 0, _ => .inl ⟨rfl, fun c h => absurd h (by omega)⟩
  | k + 1, hk => by
    have ih := mg_spec F b M hb k (by omega)
    have hk' := hb k (by omega)
    unfold mg
    by_cases hkb : k = b
    · rw [if_neg (fun h => h.1 hkb)]
      rcases ih with ⟨h1, h2⟩ | ⟨h1, ⟨c, h2, h3, h4⟩, h5⟩
      · exact .inl ⟨h1, fun c hc => by rcases Nat.lt_or_ge c k with h | h; exact h2 c h; omega⟩
      · exact .inr ⟨h1, ⟨c, by omega, h3, h4⟩, fun d hd hne => h5 d (by omega) hne⟩
    · rcases ih with ⟨h1, h2⟩ | ⟨h1, ⟨c, h2, h3, h4⟩, h5⟩
      · rw [if_pos ⟨hkb, .inl (by omega)⟩]
        refine .inr ⟨by omega, ⟨k, by omega, hkb, rfl⟩, fun d hd hne => ?_⟩
        rcases Nat.lt_or_ge d k with h | h
        · exact absurd (h2 d h) hne
        · obtain rfl : d = k := by omega
          exact Int.le_refl _
      · by_cases hlt : F b - F k < mg F b k
        · rw [if_pos ⟨hkb, .inr hlt⟩]
          refine .inr ⟨by omega, ⟨k, by omega, hkb, rfl⟩, fun d hd hne => ?_⟩
          rcases Nat.lt_or_ge d k with h | h
          · have := h5 d h hne; omega
          · obtain rfl : d = k := by omega
            exact Int.le_refl _
        · rw [if_neg (fun h => by rcases h.2 with h | h <;> omega)]
          refine .inr ⟨h1, ⟨c, by omega, h3, h4⟩, fun d hd hne => ?_⟩
          rcases Nat.lt_or_ge d k with h | h
          · exact h5 d h hne
          · obtain rfl : d = k := by omega
            omega
theorem lead_eq (F : Nat → Int) (M : Nat) : srtAt F (M + 1) M - srtAt F (M + 1) (M - 1) = max (mg F (bst F M) (M + 1)) 0 := by
  have hb := bst_le F M
  have hs := mg_spec F (bst F M) M (fun c hc => bst_max F M c hc) (M + 1) (Nat.le_refl _)
  rcases Nat.eq_zero_or_pos M with rfl | hM
  · rcases hs with ⟨h1, -⟩ | ⟨-, ⟨c, h2, h3, -⟩, -⟩
    · rw [h1]; simp only [Nat.zero_sub, Int.sub_self]; omega
    · exact absurd (show c = bst F 0 by omega) h3
  · rw [srt_last]
    obtain ⟨⟨c, hc, hne, e⟩, hmax⟩ := srt_prev F M hM
    rcases hs with ⟨-, h2⟩ | ⟨h1, ⟨d, h2, h3, h4⟩, h5⟩
    · exact absurd (h2 c (by omega)) hne
    · have := h5 c (by omega) hne
      have := hmax d (by omega) h3
      omega
theorem srt_in (F : Nat → Int) (n : Nat) {B : Int} (h : ∀ c, c < n → -B ≤ F c ∧ F c ≤ B) (i : Nat) (hi : i < n) : -B ≤ srtAt F n i ∧ srtAt F n i ≤ B := by
  obtain ⟨c, hc, e⟩ := srt_mem F n i hi
  rw [e]
  exact h c hc
end Go.Proofs.Ytimkochgnjggdaa.led
