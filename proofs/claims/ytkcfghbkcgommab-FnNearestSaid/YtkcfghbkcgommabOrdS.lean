/-
  Proved: what the document's search that leaves lists out returns; what the document's function that orders lists by their bounds returns.
  Conditions: those of each theorem.
-/
import Derived.Test.YtkcfghbkcgommabNearS
import Derived.Test.YtkcfghbkcgommabOwnS
namespace Go.Proofs.Ytkcfghbkcgommab.env
open Go.ChangeShapes Go.WideShapes Go.ChangeAt Go.RowKit Go.Joins
open Go.Proofs.Ytkcfghbkcgommab.core Go.Proofs.Ytkcfghbkcgommab.rown Go.Proofs.Ytkcfghbkcgommab.stk Go.Proofs.Ytkcfghbkcgommab.boxed Go.Proofs.Ytkcfghbkcgommab.ft Go.Proofs.Ytkcfghbkcgommab.seq Go.Proofs.Ytkcfghbkcgommab.tab
set_option linter.unusedVariables false
set_option linter.unusedSimpArgs false
def bndL (na : Nat) (fa : Nat → P3) (ln : Nat → Nat) (lf : Nat → Nat → P3) (band : Int) (i : Nat) : Int := boundE na (ln i) fa (lf i) band
/-- One list more: t says whether it takes part, b is its bound, v its cost. -/
def pstep (t : Bool) (b v : Int) (i : Nat) (s : Int × Int × Nat) : Int × Int × Nat :=
  if t = true ∧ ¬ (0 ≤ s.1 ∧ s.2.1 ≤ b) then (if s.1 < 0 ∨ v < s.2.1 then ((i : Int), v, s.2.2 + 1) else (s.1, s.2.1, s.2.2 + 1)) else s
/-- The search so far: which list is the nearest one, its cost, and how many have been matched. -/
def pst (na : Nat) (fa : Nat → P3) (ln : Nat → Nat) (lf : Nat → Nat → P3) (band : Int) : Nat → Int × Int × Nat
  | 0 => (-1, 0, 0)
  | i + 1 => pstep (takes na ln band i) (bndL na fa ln lf band i) (costL na fa ln lf band i) i (pst na fa ln lf band i)
theorem pst_le (na : Nat) (fa : Nat → P3) (ln : Nat → Nat) (lf : Nat → Nat → P3) (band : Int) : ∀ i, (pst na fa ln lf band i).2.2 ≤ i
  | 0 => Nat.le_refl _
  | i + 1 => by
    have := pst_le na fa ln lf band i
    unfold pst pstep
    split
    · split <;> (simp only; omega)
    · omega
noncomputable def prunR (na : Nat) (fa : Nat → P3) (n : Nat) (ln : Nat → Nat) (lf : Nat → Nat → P3) (band : Int) : Int × Int × Int × Int :=
  if liC na fa n ln lf band = 0 then (if (pst na fa ln lf band n).1 < 0 then (0, 0, 0, 3) else ((pst na fa ln lf band n).1, (pst na fa ln lf band n).2.1, ((pst na fa ln lf band n).2.2 : Int), 0)) else (0, 0, 0, liC na fa n ln lf band)
end Go.Proofs.Ytkcfghbkcgommab.env

namespace Go.Proofs.Ytkcfghbkcgommab.env

open Go.ChangeShapes Go.WideShapes Go.ChangeAt Go.RowKit Go.Joins

open Go.Proofs.Ytkcfghbkcgommab.core Go.Proofs.Ytkcfghbkcgommab.rown Go.Proofs.Ytkcfghbkcgommab.stk Go.Proofs.Ytkcfghbkcgommab.boxed Go.Proofs.Ytkcfghbkcgommab.ft Go.Proofs.Ytkcfghbkcgommab.seq Go.Proofs.Ytkcfghbkcgommab.tab
set_option linter.unusedVariables false
set_option linter.unusedSimpArgs false
/-- The numbers of a list as a function. -/
def fOf (l : List Int) (j : Nat) : Int := l.getD j 0
/-- Behind how many of the first k numbers x comes. -/
def kf (l : List Int) (x : Int) : Nat → Nat
  | 0 => 0
  | k + 1 => if x < fOf l k then kf l x k else k + 1
theorem kf_le (l : List Int) (x : Int) : ∀ k, kf l x k ≤ k
  | 0 => Nat.le_refl _
  | k + 1 => by
    have := kf_le l x k
    unfold kf; split <;> omega
def ins (l : List Int) (k : Nat) (v : Int) : List Int := l.take k ++ [v] ++ l.drop k
theorem ins_len {l : List Int} {k : Nat} {v : Int} : (ins l k v).length = l.length + 1 := by
  unfold ins
  rw [List.length_append, List.length_append, List.length_take, List.length_drop]
  simp; omega
/-- The order so far: the lists' indices, and their bounds. -/
def ostep (t : Bool) (b : Int) (i : Nat) (s : List Int × List Int) : List Int × List Int :=
  if t = true then (ins s.1 (kf s.2 b s.1.length) (i : Int), ins s.2 (kf s.2 b s.1.length) b) else s
def ost (na : Nat) (fa : Nat → P3) (ln : Nat → Nat) (lf : Nat → Nat → P3) (band : Int) : Nat → List Int × List Int
  | 0 => ([], [])
  | i + 1 => ostep (takes na ln band i) (bndL na fa ln lf band i) i (ost na fa ln lf band i)
theorem ost_len (na : Nat) (fa : Nat → P3) (ln : Nat → Nat) (lf : Nat → Nat → P3) (band : Int) : ∀ i, (ost na fa ln lf band i).1.length = (ost na fa ln lf band i).2.length ∧ (ost na fa ln lf band i).1.length ≤ i
  | 0 => ⟨rfl, Nat.le_refl _⟩
  | i + 1 => by
    obtain ⟨h1, h2⟩ := ost_len na fa ln lf band i
    unfold ost ostep
    split
    · simp only [ins_len]; omega
    · omega
theorem rws_take (l : List Int) {k : Nat} (hk : k ≤ l.length) : rws (one (fOf l)) k = vals (l.take k) := by
  rw [vals_rws, List.length_take, Nat.min_eq_left hk]
  refine rws_congr k fun j hj => ?_
  unfold one fOf
  dsimp only
  rw [List.getD_eq_getElem?_getD, List.getD_eq_getElem?_getD, List.getElem?_take, if_pos hj]
theorem rws_drop (l : List Int) (k : Nat) : rws (one fun j => fOf l (k + j)) (l.length - k) = vals (l.drop k) := by
  rw [vals_rws, List.length_drop]
  refine rws_congr _ fun j hj => ?_
  unfold one fOf
  dsimp only
  rw [List.getD_eq_getElem?_getD, List.getD_eq_getElem?_getD, List.getElem?_drop]
theorem rows_ins (l : List Int) {k : Nat} (hk : k ≤ l.length) (v : Int) : rws (one (fOf l)) k ++ [.int .i64 v] ++ rws (one fun j => fOf l (k + j)) (l.length - k) = vals (ins l k v) := by
  rw [rws_take l hk, rws_drop l k]
  unfold ins vals
  rw [List.map_append, List.map_append]
  rfl
theorem num_vals {w : World} {base E g L d : Nat} {l : List Int} (h : w.ownsRow base E 1 (.slice (some ⟨g, 0, none⟩) L d) L (vals l)) (hl : l.length = L) : NumAt w (some ⟨g, 0, none⟩) L (fOf l) := by
  subst hl
  rw [vals_rws] at h
  exact num_row h
theorem num_take {w : World} {A : Option Addr} {L k : Nat} {F : Nat → Int} (h : NumAt w A L F) (hk : k ≤ L) : NumAt w A k F := fun i hi => h i (by omega)
theorem num_drop {w : World} {g L k : Nat} {F : Nat → Int} (h : NumAt w (some ⟨g, 0, none⟩) L F) : NumAt w (some ⟨g, k, none⟩) (L - k) (fun j => F (k + j)) := fun i hi => by
  obtain ⟨b, o, e, h1, h2⟩ := h (k + i) (by omega)
  injection e with e
  injection e with e1 e2
  subst e1 e2
  rw [Nat.zero_add] at h2
  exact ⟨g, k, rfl, h1, h2⟩
theorem row_room {w : World} {base E k g n c : Nat} {xs : List Value} (h : w.ownsRow base E k (.slice (some ⟨g, 0, none⟩) n c) n xs) : n ≤ c := by
  obtain ⟨-, h⟩ := h
  rcases h with ⟨h, _⟩ | ⟨g', cap, cur, e, h1, h2, h3, h4⟩
  · cases h
  · cases e; exact h3
end Go.Proofs.Ytkcfghbkcgommab.env
