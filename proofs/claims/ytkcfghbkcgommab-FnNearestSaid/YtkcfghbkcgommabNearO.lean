/-
  Proved: both searches find the same list, which is the first one of those with the least cost; how many lists take part (plain lemmas for the law on searches); the order of the lists has all lists that take part, by rising bounds; a list is not outside of its own envelope (plain lemmas for the laws on searches and bounds).
  Conditions: those of each theorem.
-/
import Derived.Test.YtkcfghbkcgommabOrdS
import Derived.Test.YtkcfghbkcgommabEnvB
namespace Go.Proofs.Ytkcfghbkcgommab.env
open Go.ChangeShapes Go.WideShapes Go.ChangeAt Go.RowKit Go.Joins
open Go.Proofs.Ytkcfghbkcgommab.core Go.Proofs.Ytkcfghbkcgommab.rown Go.Proofs.Ytkcfghbkcgommab.stk Go.Proofs.Ytkcfghbkcgommab.boxed Go.Proofs.Ytkcfghbkcgommab.ft Go.Proofs.Ytkcfghbkcgommab.seq Go.Proofs.Ytkcfghbkcgommab.tab Go.Proofs.Ytkcfghbkcgommab.dp
set_option linter.unusedVariables false
set_option linter.unusedSimpArgs false
/-- The bound of a list that takes part is not greater than its cost. -/
theorem bndL_le {na n : Nat} {fa : Nat → P3} {ln : Nat → Nat} {lf : Nat → Nat → P3} {band : Int} (h : LiOk na fa n ln lf) {i : Nat} (hi : i < n) (ht : takes na ln band i = true) : bndL na fa ln lf band i ≤ costL na fa ln lf band i := by
  obtain ⟨va, -, vl⟩ := h
  obtain ⟨a1, a2, a3⟩ := okQ_of va
  obtain ⟨b1, b2, b3⟩ := okQ_of (vl i hi)
  obtain ⟨-, hab⟩ := of_decide_eq_true ht
  refine bound_le va (vl i hi) fun hf => ?_
  have h1 := tab_near (band := band) a2 b2 a3 b3 (na - 1) (ln i - 1) (by omega) (by omega) (by
    rw [show ((na - 1 : Nat) : Int) - ((ln i - 1 : Nat) : Int) = (na : Int) - (ln i : Int) by omega]
    exact hab)
  have h2 : far = 1000000000 := rfl
  omega
/-- The search that leaves lists out finds what the other one finds. -/
theorem pst_nst {na n : Nat} {fa : Nat → P3} {ln : Nat → Nat} {lf : Nat → Nat → P3} {band : Int} (h : LiOk na fa n ln lf) : ∀ i, i ≤ n → (pst na fa ln lf band i).1 = (nst na fa ln lf band i).1 ∧ (pst na fa ln lf band i).2.1 = (nst na fa ln lf band i).2
  | 0, _ => ⟨rfl, rfl⟩
  | i + 1, hi => by
    obtain ⟨e1, e2⟩ := pst_nst h i (by omega)
    rw [pst, nst]
    unfold pstep
    rw [e1, e2]
    cases ht : takes na ln band i with
    | false => simp [e1, e2]
    | true =>
      have hb := bndL_le (band := band) h (by omega) ht
      by_cases hs : 0 ≤ (nst na fa ln lf band i).1 ∧ (nst na fa ln lf band i).2 ≤ bndL na fa ln lf band i
      · rw [if_neg (fun q => q.2 hs), if_pos rfl, if_neg (by omega)]
        exact ⟨e1, e2⟩
      · rw [if_pos ⟨rfl, hs⟩, if_pos rfl]
        split <;> simp
/-- How many of the first lists take part. -/
def tcnt (na : Nat) (ln : Nat → Nat) (band : Int) : Nat → Nat
  | 0 => 0
  | i + 1 => tcnt na ln band i + if takes na ln band i = true then 1 else 0
theorem ost_cnt (na : Nat) (fa : Nat → P3) (ln : Nat → Nat) (lf : Nat → Nat → P3) (band : Int) : ∀ i, (ost na fa ln lf band i).1.length = tcnt na ln band i
  | 0 => rfl
  | i + 1 => by
    have := ost_cnt na fa ln lf band i
    rw [ost, tcnt]
    unfold ostep
    split
    · simp only [ins_len]; omega
    · omega
theorem pst_cnt (na : Nat) (fa : Nat → P3) (ln : Nat → Nat) (lf : Nat → Nat → P3) (band : Int) : ∀ i, (pst na fa ln lf band i).2.2 ≤ tcnt na ln band i ∧ (0 ≤ (pst na fa ln lf band i).1 → 1 ≤ (pst na fa ln lf band i).2.2)
  | 0 => ⟨Nat.le_refl _, fun h => by simp [pst] at h⟩
  | i + 1 => by
    obtain ⟨h1, h2⟩ := pst_cnt na fa ln lf band i
    rw [pst, tcnt]
    unfold pstep
    split
    · rename_i h
      rw [if_pos h.1]
      split <;> exact ⟨by simp only; omega, fun _ => by simp only; omega⟩
    · exact ⟨by split <;> omega, h2⟩
/-- What the search knows. -/
theorem nst_spec (na : Nat) (fa : Nat → P3) (ln : Nat → Nat) (lf : Nat → Nat → P3) (band : Int) : ∀ i, ((nst na fa ln lf band i).1 = -1 ∧ ∀ j, j < i → takes na ln band j = false) ∨
    ∃ k, k < i ∧ takes na ln band k = true ∧ nst na fa ln lf band i = ((k : Int), costL na fa ln lf band k) ∧ (∀ j, j < i → takes na ln band j = true → costL na fa ln lf band k ≤ costL na fa ln lf band j) ∧ ∀ j, j < k → takes na ln band j = true → costL na fa ln lf band k < costL na fa ln lf band j
  | 0 => .inl ⟨rfl, fun j hj => absurd hj (by omega)⟩
  | i + 1 => by
    have ih := nst_spec na fa ln lf band i
    rw [nst]
    cases ht : takes na ln band i with
    | false =>
      rw [if_neg (by simp)]
      rcases ih with ⟨h1, h2⟩ | ⟨k, hk, h1, h2, h3, h4⟩
      · refine .inl ⟨h1, fun j hj => ?_⟩
        rcases Nat.lt_or_ge j i with h' | h'
        · exact h2 j h'
        · obtain rfl : j = i := by omega
          exact ht
      · refine .inr ⟨k, by omega, h1, h2, fun j hj hjt => ?_, h4⟩
        rcases Nat.lt_or_ge j i with h' | h'
        · exact h3 j h' hjt
        · obtain rfl : j = i := by omega
          rw [ht] at hjt; cases hjt
    | true =>
      rw [if_pos rfl]
      rcases ih with ⟨h1, h2⟩ | ⟨k, hk, h1, h2, h3, h4⟩
      · rw [if_pos (.inl (by rw [h1]; omega))]
        refine .inr ⟨i, by omega, ht, rfl, fun j hj hjt => ?_, fun j hj hjt => ?_⟩
        · rcases Nat.lt_or_ge j i with h' | h'
          · rw [h2 j h'] at hjt; cases hjt
          · obtain rfl : j = i := by omega
            exact Int.le_refl _
        · rw [h2 j hj] at hjt; cases hjt
      · rw [h2]
        simp only
        split
        · rename_i hc
          have hlt : costL na fa ln lf band i < costL na fa ln lf band k := by omega
          refine .inr ⟨i, by omega, ht, rfl, fun j hj hjt => ?_, fun j hj hjt => ?_⟩
          · rcases Nat.lt_or_ge j i with h' | h'
            · have := h3 j h' hjt; omega
            · obtain rfl : j = i := by omega
              exact Int.le_refl _
          · have := h3 j hj hjt; omega
        · rename_i hc
          refine .inr ⟨k, by omega, h1, rfl, fun j hj hjt => ?_, h4⟩
          rcases Nat.lt_or_ge j i with h' | h'
          · exact h3 j h' hjt
          · obtain rfl : j = i := by omega
            omega
/-- The lists within a limit, in their order. -/
theorem wst_mem {na : Nat} {fa : Nat → P3} {ln : Nat → Nat} {lf : Nat → Nat → P3} {band limit x : Int} : ∀ i, x ∈ wst na fa ln lf band limit i ↔ ∃ j : Nat, j < i ∧ takes na ln band j = true ∧ costL na fa ln lf band j ≤ limit ∧ x = (j : Int)
  | 0 => by simp [wst]
  | i + 1 => by
    have ih := wst_mem (na := na) (fa := fa) (ln := ln) (lf := lf) (band := band) (limit := limit) (x := x) i
    rw [wst]
    split
    · rename_i h
      rw [List.mem_append, ih, List.mem_singleton]
      constructor
      · rintro (⟨j, h1, h2⟩ | rfl)
        · exact ⟨j, by omega, h2⟩
        · exact ⟨i, by omega, h.1, h.2, rfl⟩
      · rintro ⟨j, h1, h2, h3, h4⟩
        rcases Nat.lt_or_ge j i with h' | h'
        · exact .inl ⟨j, h', h2, h3, h4⟩
        · obtain rfl : j = i := by omega
          exact .inr h4
    · rename_i h
      rw [ih]
      constructor
      · rintro ⟨j, h1, h2⟩; exact ⟨j, by omega, h2⟩
      · rintro ⟨j, h1, h2, h3, h4⟩
        rcases Nat.lt_or_ge j i with h' | h'
        · exact ⟨j, h', h2, h3, h4⟩
        · obtain rfl : j = i := by omega
          exact absurd ⟨h2, h3⟩ h
end Go.Proofs.Ytkcfghbkcgommab.env

namespace Go.Proofs.Ytkcfghbkcgommab.env

open Go.ChangeShapes Go.WideShapes Go.ChangeAt Go.RowKit Go.Joins

open Go.Proofs.Ytkcfghbkcgommab.core Go.Proofs.Ytkcfghbkcgommab.rown Go.Proofs.Ytkcfghbkcgommab.stk Go.Proofs.Ytkcfghbkcgommab.boxed Go.Proofs.Ytkcfghbkcgommab.ft Go.Proofs.Ytkcfghbkcgommab.seq Go.Proofs.Ytkcfghbkcgommab.tab Go.Proofs.Ytkcfghbkcgommab.dp
set_option linter.unusedVariables false
set_option linter.unusedSimpArgs false
theorem ins_mem {l : List Int} {k : Nat} {v x : Int} : x ∈ ins l k v ↔ x = v ∨ x ∈ l := by
  unfold ins
  rw [List.mem_append, List.mem_append, List.mem_singleton]
  constructor
  · rintro ((h | h) | h)
    · exact .inr (List.mem_of_mem_take h)
    · exact .inl h
    · exact .inr (List.mem_of_mem_drop h)
  · rintro (h | h)
    · exact .inl (.inr h)
    · rw [← List.take_append_drop k l] at h
      rcases List.mem_append.1 h with h | h
      · exact .inl (.inl h)
      · exact .inr h
theorem ost_mem {na : Nat} {fa : Nat → P3} {ln : Nat → Nat} {lf : Nat → Nat → P3} {band x : Int} : ∀ i, x ∈ (ost na fa ln lf band i).1 ↔ ∃ j : Nat, j < i ∧ takes na ln band j = true ∧ x = (j : Int)
  | 0 => by simp [ost]
  | i + 1 => by
    have ih := ost_mem (na := na) (fa := fa) (ln := ln) (lf := lf) (band := band) (x := x) i
    rw [ost]
    unfold ostep
    split
    · rename_i h
      simp only
      rw [ins_mem, ih]
      constructor
      · rintro (rfl | ⟨j, h1, h2⟩)
        · exact ⟨i, by omega, h, rfl⟩
        · exact ⟨j, by omega, h2⟩
      · rintro ⟨j, h1, h2, h3⟩
        rcases Nat.lt_or_ge j i with h' | h'
        · exact .inr ⟨j, h', h2, h3⟩
        · obtain rfl : j = i := by omega
          exact .inl h3
    · rename_i h
      rw [ih]
      constructor
      · rintro ⟨j, h1, h2⟩; exact ⟨j, by omega, h2⟩
      · rintro ⟨j, h1, h2, h3⟩
        rcases Nat.lt_or_ge j i with h' | h'
        · exact ⟨j, h', h2, h3⟩
        · obtain rfl : j = i := by omega
          exact absurd h2 h
theorem ins_map (f : Int → Int) (l : List Int) (k : Nat) (v : Int) : (ins l k v).map f = ins (l.map f) k (f v) := by
  unfold ins
  rw [List.map_append, List.map_append, List.map_take, List.map_drop]
  rfl
/-- The bounds stand beside their lists. -/
theorem ost_map (na : Nat) (fa : Nat → P3) (ln : Nat → Nat) (lf : Nat → Nat → P3) (band : Int) : ∀ i, (ost na fa ln lf band i).2 = (ost na fa ln lf band i).1.map fun x => bndL na fa ln lf band x.toNat
  | 0 => rfl
  | i + 1 => by
    have ih := ost_map na fa ln lf band i
    rw [ost]
    unfold ostep
    split
    · simp only
      rw [ins_map, Int.toNat_natCast, ← ih]
    · exact ih
/-- Where x comes: those behind are greater, and the one ahead is not. -/
theorem kf_spec (l : List Int) (x : Int) : ∀ n, (∀ j, kf l x n ≤ j → j < n → x < fOf l j) ∧ (0 < kf l x n → fOf l (kf l x n - 1) ≤ x)
  | 0 => ⟨fun j _ h => absurd h (by omega), fun h => by simp [kf] at h⟩
  | n + 1 => by
    obtain ⟨h1, h2⟩ := kf_spec l x n
    rw [kf]
    split
    · rename_i h
      refine ⟨fun j hj hn => ?_, h2⟩
      rcases Nat.lt_or_ge j n with h' | h'
      · exact h1 j hj h'
      · obtain rfl : j = n := by omega
        exact h
    · rename_i h
      exact ⟨fun j hj hn => by omega, fun _ => by rw [Nat.add_sub_cancel]; omega⟩
/-- Rising numbers. -/
def Rising (l : List Int) : Prop := ∀ i j, i < j → j < l.length → fOf l i ≤ fOf l j
theorem fOf_ins {l : List Int} {k : Nat} (hk : k ≤ l.length) (v : Int) (j : Nat) : fOf (ins l k v) j = if j < k then fOf l j else if j = k then v else fOf l (j - 1) := by
  unfold fOf ins
  simp only [List.getD_eq_getElem?_getD]
  by_cases h1 : j < k
  · rw [if_pos h1, List.append_assoc, List.getElem?_append_left (by rw [List.length_take]; omega), List.getElem?_take, if_pos h1]
  · rw [if_neg h1]
    by_cases h2 : j = k
    · subst h2
      rw [if_pos rfl, List.append_assoc, List.getElem?_append_right (by rw [List.length_take]; omega), List.length_take, Nat.min_eq_left hk, Nat.sub_self]
      rfl
    · rw [if_neg h2, List.getElem?_append_right (by rw [List.length_append, List.length_take]; simp; omega), List.length_append, List.length_take, Nat.min_eq_left hk, List.getElem?_drop]
      simp only [List.length_singleton]
      congr 2
      omega
theorem rising_ins {l : List Int} (h : Rising l) (x : Int) : Rising (ins l (kf l x l.length) x) := by
  have hk := kf_le l x l.length
  obtain ⟨h1, h2⟩ := kf_spec l x l.length
  have low : ∀ i, i < kf l x l.length → fOf l i ≤ x := fun i hi => by
    have a := h2 (by omega)
    by_cases e : i = kf l x l.length - 1
    · rw [e]; exact a
    · have := h i (kf l x l.length - 1) (by omega) (by omega); omega
  intro i j hij hj
  rw [ins_len] at hj
  rw [fOf_ins hk, fOf_ins hk]
  by_cases a1 : i < kf l x l.length
  · rw [if_pos a1]
    by_cases b1 : j < kf l x l.length
    · rw [if_pos b1]; exact h i j hij (by omega)
    · rw [if_neg b1]
      split
      · exact low i a1
      · exact h i (j - 1) (by omega) (by omega)
  · rw [if_neg a1]
    rw [if_neg (show ¬ j < kf l x l.length by omega), if_neg (show ¬ j = kf l x l.length by omega)]
    split
    · have := h1 (j - 1) (by omega) (by omega); omega
    · exact h (i - 1) (j - 1) (by omega) (by omega)
theorem ost_rising (na : Nat) (fa : Nat → P3) (ln : Nat → Nat) (lf : Nat → Nat → P3) (band : Int) : ∀ i, Rising (ost na fa ln lf band i).2
  | 0 => fun i j _ hj => by simp [ost] at hj
  | i + 1 => by
    have ih := ost_rising na fa ln lf band i
    have hl := (ost_len na fa ln lf band i).1
    rw [ost]
    unfold ostep
    split
    · simp only
      rw [hl]
      exact rising_ins ih _
    · exact ih
/-- A list is not outside of its own envelope. -/
theorem out_self {fb : Nat → P3} {m : Nat} {band : Int} (hb : 0 ≤ band) : ∀ n, n ≤ m → outG fb (envF fb m band) n = 0
  | 0, _ => rfl
  | n + 1, hn => by
    have ih := out_self (fb := fb) (m := m) hb n (by omega)
    have h := offF_self (fb := fb) (m := m) (band := band) (i := n) hb (by omega)
    rw [outG, ih]
    have e : offG fb (envF fb m band) n = offF fb m band n (fb n) := rfl
    rw [e, h]; rfl
end Go.Proofs.Ytkcfghbkcgommab.env
