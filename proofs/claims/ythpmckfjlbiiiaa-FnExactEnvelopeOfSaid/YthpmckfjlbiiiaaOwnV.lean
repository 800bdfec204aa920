/-
  Proved: rows of numbers, and four of them, as memory of one's own (for the laws whose results hold numbers).
  Conditions: the numbers are those of 64 bits.
-/
import Derived.Test.YthpmckfjlbiiiaaEnvEx
import Derived.Test.YthpmckfjlbiiiaaOrdS
import Derived.Test.YthpmckfjlbiiiaaRec
namespace Go.Proofs.Ythpmckfjlbiiiaa.env
open Go.ChangeShapes Go.WideShapes Go.ChangeAt Go.RowKit Go.Joins
open Go.Proofs.Ythpmckfjlbiiiaa.core Go.Proofs.Ythpmckfjlbiiiaa.rown Go.Proofs.Ythpmckfjlbiiiaa.stk Go.Proofs.Ythpmckfjlbiiiaa.boxed Go.Proofs.Ythpmckfjlbiiiaa.ft Go.Proofs.Ythpmckfjlbiiiaa.seq Go.Proofs.Ythpmckfjlbiiiaa.tab
set_option linter.unusedVariables false
set_option linter.unusedSimpArgs false
/-- A row of numbers as a datum. -/
def datN (n : Nat) (F : Nat → Int) : Dat := .sl n 1 fun i _ => .int (F i)
theorem own_num {w : World} {base E n : Nat} {v : Value} {F : Nat → Int} (h : w.ownsRow base E 1 v n (rws (one F) n)) (hF : ∀ i, i < n → inI64 (F i)) :
    Own w v (datN n F) (fun x => v.ownBlock = some x ∧ base ≤ x ∧ x < w.heap.size) := by
  obtain ⟨hn, h⟩ := h
  rcases h with ⟨rfl, rfl⟩ | ⟨g, cap, cur, rfl, h1, h2, h3, h4, h5, h6⟩
  · exact .nil _ _ _ _ _
  · have hlt := (Array.getElem?_eq_some_iff.1 h2).1
    refine .sl g n cap 1 E _ (fun i _ => .int .i64 (F i)) (fun _ _ _ => False) cur _ h2 ⟨rfl, h1, hlt⟩ ⟨Nat.le_trans h3 h4, h3⟩ ?_ ?_ (fun _ _ _ _ _ hx => hx.elim) (fun _ _ _ _ _ _ _ _ _ hx => hx.elim)
    · intro i j hi hj
      obtain rfl : j = 0 := by omega
      have e := rws_get (one_len F) i 0 (by omega) n hi
      rw [← h6, List.getElem?_take, if_pos (by omega)] at e
      simpa [one] using e
    · intro i j hi hj
      exact .int _ _ (hF i hi)
/-- Numbers that are returned. -/
theorem own_vals {w : World} {base E : Nat} {v : Value} {l : List Int} (h : w.ownsRow base E 1 v l.length (vals l)) (hl : ∀ x ∈ l, inI64 x) : OwnRec w 1 (fun _ => v) (fun _ => datN l.length (fOf l)) (iv base w.heap.size) := by
  rw [vals_rws] at h
  refine ownRec_one (g := fun _ => datN l.length (fOf l)) ((own_num h fun i hi => ?_).mono fun x hx => hx.2) (Nat.le_refl _)
  have : fOf l i = l[i] := by unfold fOf; rw [List.getD_eq_getElem?_getD, List.getElem?_eq_getElem hi]; rfl
  show inI64 (fOf l i)
  rw [this]
  exact hl _ (List.getElem_mem _)
/-- An envelope that is returned. -/
theorem own_four {w : World} {base n : Nat} {s : Nat → Value} {F : Nat → Nat → Int} (h : Four w base (fun _ => n) s F) (hF : ∀ k i, k < 4 → i < n → inI64 (F k i)) : OwnRec w 4 s (fun k => datN n (F k)) (iv base w.heap.size) :=
  ⟨fun k => fun x => (s k).ownBlock = some x ∧ base ≤ x ∧ x < w.heap.size, fun k hk => own_num (h.own k hk) fun i hi => hF k i hk hi, fun k x hk hx => ⟨hx.2, hx.2.2⟩, fun i j x hi hj hx hy => by
    rcases Nat.lt_trichotomy i j with e | e | e
    · exact absurd hy.1 (h.apart i j x hi hj (by omega) hx.1)
    · exact e
    · exact absurd hy.1 (h.apart i j x hi hj (by omega) hx.1)⟩
end Go.Proofs.Ythpmckfjlbiiiaa.env
