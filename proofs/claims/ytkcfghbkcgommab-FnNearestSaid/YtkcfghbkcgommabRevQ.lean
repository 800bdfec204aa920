/-
  Proved: what the library's function that turns a list of pairs round leaves behind.
  Conditions: the list lies in memory of one's own, and has at most 1000 pairs.
-/
import Derived.Test.YtkcfghbkcgommabPut
import Derived.Test.YtkcfghbkcgommabFt
import Derived.BigRegion
namespace Go.Proofs.Ytkcfghbkcgommab.revQ
open Go.ChangeShapes Go.WideShapes Go.ChangeAt Go.RowKit Go.Joins
open Go.Proofs.Ytkcfghbkcgommab.core Go.Proofs.Ytkcfghbkcgommab.rown Go.Proofs.Ytkcfghbkcgommab.stk Go.Proofs.Ytkcfghbkcgommab.boxed Go.Proofs.Ytkcfghbkcgommab.put3 Go.Proofs.Ytkcfghbkcgommab.ft
set_option linter.unusedVariables false
set_option linter.unusedSimpArgs false
def put2 (f : Nat → P2) (i : Nat) (p : P2) : Nat → P2 := fun j => if j = i then p else f j
theorem set2 (f : Nat → P2) (n i : Nat) (hi : i < n) (p : P2) : ((rws (sp2 f) n).set (i * 2) (.int .i64 p.1)).set (i * 2 + 1) (.int .i64 p.2) = rws (sp2 (put2 f i p)) n := by
  have hl := rws_len (sp2_len f) n
  have hl2 := rws_len (sp2_len (put2 f i p)) n
  apply List.ext_getElem?
  intro j
  rcases Nat.lt_or_ge j (n * 2) with h | h
  · obtain ⟨a, r, hr, rfl⟩ : ∃ a r, r < 2 ∧ j = a * 2 + r := ⟨j / 2, j % 2, by omega, by omega⟩
    have ha : a < n := by omega
    rw [rws_get (sp2_len (put2 f i p)) a r hr n ha]
    simp only [List.getElem?_set, List.length_set, hl]
    rw [rws_get (sp2_len f) a r hr n ha]
    by_cases e : a = i
    · subst e
      have e1 : sp2 (put2 f a p) a = [.int .i64 p.1, .int .i64 p.2] := by unfold sp2 put2; rw [if_pos rfl]
      rw [e1]
      rcases (by omega : r = 0 ∨ r = 1) with rfl | rfl
      · rw [if_neg (by omega), if_pos (by omega), if_pos (by omega)]; rfl
      · rw [if_pos (by omega), if_pos (by omega)]; rfl
    · have e1 : sp2 (put2 f i p) a = sp2 f a := by unfold sp2 put2; rw [if_neg e]
      rw [e1, if_neg (by omega), if_neg (by omega)]
  · rw [List.getElem?_eq_none (by simp only [List.length_set]; omega), List.getElem?_eq_none (by omega)]
theorem own_put2 {w : World} {base E n g c i : Nat} {f : Nat → P2} (h : w.ownsRow base E 2 (.slice (some ⟨g, 0, none⟩) n c) n (rws (sp2 f) n)) (hi : i < n) (p : P2) :
    ((w.setCell ⟨g, i * 2, none⟩ (.int .i64 p.1)).setCell ⟨g, i * 2 + 1, none⟩ (.int .i64 p.2)).ownsRow base E 2 (.slice (some ⟨g, 0, none⟩) n c) n (rws (sp2 (put2 f i p)) n) := by
  have hl := rws_len (sp2_len f) n
  have := own_set1 (own_set1 h (.int .i64 p.1) (p := i * 2) (by omega)) (.int .i64 p.2) (p := i * 2 + 1) (by simp only [List.length_set]; omega)
  rwa [set2 f n i hi p] at this
theorem own_cast2 {w : World} {base E n : Nat} {v : Value} {f f' : Nat → P2} (h : w.ownsRow base E 2 v n (rws (sp2 f) n)) (he : ∀ j, j < n → f j = f' j) : w.ownsRow base E 2 v n (rws (sp2 f') n) := by
  rw [← rws_congr (r := sp2 f) (r' := sp2 f') n fun i hi => by unfold sp2; rw [he i hi]]
  exact h
/-- The list of which the first k features and the last k ones are exchanged. -/
def SW (N : Nat) (f : Nat → P2) (k : Nat) (j : Nat) : P2 := if j ≤ N ∧ (j < k ∨ N < j + k) then f (N - j) else f j
theorem SW_zero (N : Nat) (f : Nat → P2) (j : Nat) : f j = SW N f 0 j := by unfold SW; rw [if_neg (by omega)]
theorem SW_lo {N : Nat} {f : Nat → P2} {k m : Nat} (h : k + m = N) (hk : k < m) : SW N f k k = f k := by unfold SW; rw [if_neg (by omega)]
theorem SW_hi {N : Nat} {f : Nat → P2} {k m : Nat} (h : k + m = N) (hk : k < m) : SW N f k m = f m := by unfold SW; rw [if_neg (by omega)]
theorem SW_step {N : Nat} {f : Nat → P2} {k m : Nat} (h : k + m = N) (hk : k < m) (j : Nat) : put2 (put2 (SW N f k) k (f m)) m (f k) j = SW N f (k + 1) j := by
  unfold put2 SW
  by_cases e : j = m
  · rw [if_pos e, if_pos (by omega)]
    congr 1; omega
  · rw [if_neg e]
    by_cases e2 : j = k
    · rw [if_pos e2, if_pos (by omega)]
      congr 1; omega
    · rw [if_neg e2]
      by_cases h3 : j ≤ N ∧ (j < k ∨ N < j + k)
      · rw [if_pos h3, if_pos (by omega)]
      · rw [if_neg h3, if_neg (by omega)]
theorem SW_end {N : Nat} {f : Nat → P2} {k m : Nat} (h : k + m = N) (hk : ¬ k < m) (j : Nat) (hj : j < N + 1) : SW N f k j = f (N - j) := by
  unfold SW
  by_cases h3 : j ≤ N ∧ (j < k ∨ N < j + k)
  · rw [if_pos h3]
  · rw [if_neg h3]; congr 1; omega
end Go.Proofs.Ytkcfghbkcgommab.revQ
