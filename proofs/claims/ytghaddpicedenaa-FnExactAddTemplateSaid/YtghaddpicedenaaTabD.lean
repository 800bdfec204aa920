/-
  Proved: the document's function that tells whether pairs are a path answers as the document's definition; what the document's functions that test paths and both lists return; what the document's function that tells the cost of a path returns; the table of least costs as a function, its steps and its bounds; rows of one number.
  Conditions: those of each theorem.
-/
import Derived.Test.YtghaddpicedenaaSeq
namespace Go.Proofs.Ytghaddpicedenaa.path
open Go.ChangeShapes Go.WideShapes Go.ChangeAt Go.RowKit Go.Joins
open Go.Proofs.Ytghaddpicedenaa.core Go.Proofs.Ytghaddpicedenaa.rown Go.Proofs.Ytghaddpicedenaa.stk Go.Proofs.Ytghaddpicedenaa.boxed Go.Proofs.Ytghaddpicedenaa.ft Go.Proofs.Ytghaddpicedenaa.seq
set_option linter.unusedVariables false
set_option linter.unusedSimpArgs false
/-- One pair lies within the lists and the band. -/
def inP (n m band : Int) (p : P2) : Prop := (0 ≤ p.1 ∧ p.1 ≤ n - 1) ∧ (0 ≤ p.2 ∧ p.2 ≤ m - 1) ∧ absv (p.1 - p.2) ≤ band
/-- One pair follows another one. -/
def stepP (q p : P2) : Prop := (0 ≤ p.1 - q.1 ∧ p.1 - q.1 ≤ 1) ∧ (0 ≤ p.2 - q.2 ∧ p.2 - q.2 ≤ 1) ∧ ¬ (p.1 = q.1 ∧ p.2 = q.2)
def okAt (f : Nat → P2) (n m band : Int) (x : Nat) : Prop := inP n m band (f x) ∧ (0 < x → stepP (f (x - 1)) (f x))
/-- The k pairs are a path for n and m elements, within the band. -/
noncomputable def okPath (k : Nat) (f : Nat → P2) (n m band : Int) : Bool := @decide (0 < k ∧ ((f 0).1 = 0 ∧ (f 0).2 = 0) ∧ ((f (k - 1)).1 = n - 1 ∧ (f (k - 1)).2 = m - 1) ∧ ∀ x, x < k → okAt f n m band x) (Classical.propDecidable _)
theorem okPath_true {k : Nat} {f : Nat → P2} {n m band : Int} (h : 0 < k ∧ ((f 0).1 = 0 ∧ (f 0).2 = 0) ∧ ((f (k - 1)).1 = n - 1 ∧ (f (k - 1)).2 = m - 1) ∧ ∀ x, x < k → okAt f n m band x) : okPath k f n m band = true := by
  unfold okPath; exact @decide_eq_true _ (Classical.propDecidable _) h
theorem okPath_of {k : Nat} {f : Nat → P2} {n m band : Int} (h : okPath k f n m band = true) : 0 < k ∧ ((f 0).1 = 0 ∧ (f 0).2 = 0) ∧ ((f (k - 1)).1 = n - 1 ∧ (f (k - 1)).2 = m - 1) ∧ ∀ x, x < k → okAt f n m band x := by
  unfold okPath at h; exact @of_decide_eq_true _ (Classical.propDecidable _) h
theorem okPath_no {k : Nat} {f : Nat → P2} {n m band : Int} (h : ¬ (0 < k ∧ ((f 0).1 = 0 ∧ (f 0).2 = 0) ∧ ((f (k - 1)).1 = n - 1 ∧ (f (k - 1)).2 = m - 1) ∧ ∀ x, x < k → okAt f n m band x)) : okPath k f n m band = false := by
  unfold okPath; exact @decide_eq_false _ (Classical.propDecidable _) h
theorem okPath_at {k : Nat} {f : Nat → P2} {n m band : Int} (x : Nat) (hx : x < k) (h : ¬ okAt f n m band x) : okPath k f n m band = false := okPath_no fun ⟨_, _, _, c⟩ => h (c x hx)
end Go.Proofs.Ytghaddpicedenaa.path

namespace Go.Proofs.Ytghaddpicedenaa.path

open Go.ChangeShapes Go.WideShapes Go.ChangeAt Go.RowKit Go.Joins

open Go.Proofs.Ytghaddpicedenaa.core Go.Proofs.Ytghaddpicedenaa.rown Go.Proofs.Ytghaddpicedenaa.stk Go.Proofs.Ytghaddpicedenaa.boxed Go.Proofs.Ytghaddpicedenaa.ft Go.Proofs.Ytghaddpicedenaa.seq
set_option linter.unusedVariables false
set_option linter.unusedSimpArgs false
noncomputable def vP (k : Nat) (f : Nat → P2) (n m band : Int) : Bool := if 1 ≤ n ∧ 1 ≤ m then okPath k f n m band else false
/-- The code of two lists and a path. -/
noncomputable def fitC (na nb k : Nat) (fa fb : Nat → P3) (f : Nat → P2) : Int := if okQ na fa = true ∧ okQ nb fb = true then (if okPath k f na nb 72 = true then 0 else 2) else 1
end Go.Proofs.Ytghaddpicedenaa.path

namespace Go.Proofs.Ytghaddpicedenaa.path

open Go.ChangeShapes Go.WideShapes Go.ChangeAt Go.RowKit Go.Joins

open Go.Proofs.Ytghaddpicedenaa.core Go.Proofs.Ytghaddpicedenaa.rown Go.Proofs.Ytghaddpicedenaa.stk Go.Proofs.Ytghaddpicedenaa.boxed Go.Proofs.Ytghaddpicedenaa.ft Go.Proofs.Ytghaddpicedenaa.seq
set_option linter.unusedVariables false
set_option linter.unusedSimpArgs false
def sumZ (g : Nat → Int) : Nat → Int
  | 0 => 0
  | n + 1 => sumZ g n + g n
theorem sumZ_in {g : Nat → Int} {B : Int} : ∀ {n : Nat}, (∀ j, j < n → 0 ≤ g j ∧ g j ≤ B) → 0 ≤ sumZ g n ∧ sumZ g n ≤ (n : Int) * B
  | 0, _ => by simp [sumZ]
  | n + 1, h => by
    have h1 := sumZ_in (n := n) fun j hj => h j (by omega)
    have h2 := h n (by omega)
    have h3 : ((n + 1 : Nat) : Int) * B = (n : Int) * B + B := by push_cast; rw [Int.add_mul, Int.one_mul]
    rw [h3]; unfold sumZ; omega
/-- The cost of one pair of a path. -/
def pcAt (fa fb : Nat → P3) (f : Nat → P2) (x : Nat) : Int := cst (fa (f x).1.toNat) (fb (f x).2.toNat)
noncomputable def pcR (na nb k : Nat) (fa fb : Nat → P3) (f : Nat → P2) : Int := if fitC na nb k fa fb f = 0 then sumZ (pcAt fa fb f) k else 0
theorem fit_of {na nb k : Nat} {fa fb : Nat → P3} {f : Nat → P2} (h : fitC na nb k fa fb f = 0) : okQ na fa = true ∧ okQ nb fb = true ∧ okPath k f na nb 72 = true := by
  unfold fitC at h
  split at h
  · rename_i h1
    split at h
    · rename_i h2; exact ⟨h1.1, h1.2, h2⟩
    · cases h
  · cases h
theorem fit_any (na nb k : Nat) (fa fb : Nat → P3) (f : Nat → P2) : fitC na nb k fa fb f = 0 ∨ fitC na nb k fa fb f = 1 ∨ fitC na nb k fa fb f = 2 := by
  unfold fitC; split <;> (try split) <;> simp
/-- What a pair of a path points at. -/
theorem fit_at {na nb k : Nat} {fa fb : Nat → P3} {f : Nat → P2} (h : fitC na nb k fa fb f = 0) (x : Nat) (hx : x < k) : ∃ i j, i < na ∧ j < nb ∧ f x = ((i : Int), (j : Int)) ∧ inF (fa i) = true ∧ inF (fb j) = true ∧ pcAt fa fb f x = cst (fa i) (fb j) := by
  obtain ⟨h1, h2, h3⟩ := fit_of h
  obtain ⟨⟨⟨a1, a2⟩, ⟨b1, b2⟩, -⟩, -⟩ := (okPath_of h3).2.2.2 x hx
  refine ⟨(f x).1.toNat, (f x).2.toNat, by omega, by omega, ?_, (okQ_of h1).2.2 _ (by omega), (okQ_of h2).2.2 _ (by omega), rfl⟩
  rw [Prod.ext_iff]
  exact ⟨by simp only; omega, by simp only; omega⟩
end Go.Proofs.Ytghaddpicedenaa.path

namespace Go.Proofs.Ytghaddpicedenaa.tab

open Go.ChangeShapes Go.WideShapes Go.ChangeAt Go.RowKit Go.Joins

open Go.Proofs.Ytghaddpicedenaa.core Go.Proofs.Ytghaddpicedenaa.rown Go.Proofs.Ytghaddpicedenaa.stk Go.Proofs.Ytghaddpicedenaa.boxed Go.Proofs.Ytghaddpicedenaa.ft Go.Proofs.Ytghaddpicedenaa.seq
set_option linter.unusedVariables false
set_option linter.unusedSimpArgs false
def one (F : Nat → Int) (i : Nat) : List Value := [.int .i64 (F i)]
theorem one_len (F : Nat → Int) : ∀ i, (one F i).length = 1 := fun i => rfl
theorem one_get (F : Nat → Int) : ∀ i j, j < 1 → (one F i)[j]? = some (.int .i64 (F i)) := fun i j hj => by
  obtain rfl : j = 0 := by omega
  rfl
theorem set1 (F F' : Nat → Int) (n d : Nat) (hd : d < n) (v : Int) (h : ∀ j, F' j = if j = d then v else F j) : (rws (one F) n).set d (.int .i64 v) = rws (one F') n := by
  have hl := rws_len (one_len F) n
  have hl2 := rws_len (one_len F') n
  apply List.ext_getElem?
  intro j
  rcases Nat.lt_or_ge j n with hj | hj
  · have e1 := rws_get (one_len F) j 0 (by omega) n hj
    have e2 := rws_get (one_len F') j 0 (by omega) n hj
    rw [Nat.mul_one, Nat.add_zero] at e1 e2
    rw [e2, List.getElem?_set, hl]
    by_cases e : d = j
    · subst e
      rw [if_pos rfl, if_pos (by omega)]
      unfold one
      rw [h, if_pos rfl]
      rfl
    · rw [if_neg e, e1]
      unfold one
      rw [h, if_neg (by omega)]
  · rw [List.getElem?_eq_none (by simp only [List.length_set]; omega), List.getElem?_eq_none (by omega)]
theorem infoI : (Try.prog.info? 2).map (fun i => (i.zero, i.size, i.bytes)) = some (some (.int .i64 0), 1, 8) := by kernel_rfl
theorem one_cell {w : World} {base n E g c : Nat} {F : Nat → Int} (h : w.ownsRow base E 1 (.slice (some ⟨g, 0, none⟩) n c) n (rws (one F) n)) {q : Nat} (hq : q < n) : w.cell? ⟨g, q, none⟩ = some (.int .i64 (F q)) := by
  have := row_cell h (one_len _) hq (show 0 < 1 by omega) rfl
  rw [Nat.mul_one, Nat.add_zero] at this
  exact this
/-- A cost that no path has. -/
def far : Int := 1000000000
def cellT (fa fb : Nat → P3) (band : Int) (i j : Nat) (b : Int) : Int := if b = far ∨ band < absv ((i : Int) - (j : Int)) then far else b + cst (fa i) (fb j)
def row0 (fa fb : Nat → P3) (band : Int) : Nat → Int
  | 0 => cellT fa fb band 0 0 0
  | j + 1 => cellT fa fb band 0 (j + 1) (min far (row0 fa fb band j))
def rowS (fa fb : Nat → P3) (band : Int) (i : Nat) (r : Nat → Int) : Nat → Int
  | 0 => cellT fa fb band (i + 1) 0 (min far (r 0))
  | j + 1 => cellT fa fb band (i + 1) (j + 1) (min (min (min far (r j)) (r (j + 1))) (rowS fa fb band i r j))
/-- The least cost of a path to the pair of i and j. -/
def tab (fa fb : Nat → P3) (band : Int) : Nat → Nat → Int
  | 0 => row0 fa fb band
  | i + 1 => rowS fa fb band i (tab fa fb band i)
theorem tab_yy {fa fb : Nat → P3} {band : Int} {i j : Nat} (hi : i ≠ 0) (hj : j ≠ 0) : tab fa fb band i j = cellT fa fb band i j (min (min (min far (tab fa fb band (i - 1) (j - 1))) (tab fa fb band (i - 1) j)) (tab fa fb band i (j - 1))) := by
  obtain ⟨i, rfl⟩ : ∃ x, i = x + 1 := ⟨i - 1, by omega⟩
  obtain ⟨j, rfl⟩ : ∃ x, j = x + 1 := ⟨j - 1, by omega⟩
  rfl
theorem tab_yn {fa fb : Nat → P3} {band : Int} {i : Nat} (hi : i ≠ 0) : tab fa fb band i 0 = cellT fa fb band i 0 (min far (tab fa fb band (i - 1) 0)) := by
  obtain ⟨i, rfl⟩ : ∃ x, i = x + 1 := ⟨i - 1, by omega⟩
  rfl
theorem tab_ny {fa fb : Nat → P3} {band : Int} {j : Nat} (hj : j ≠ 0) : tab fa fb band 0 j = cellT fa fb band 0 j (min far (tab fa fb band 0 (j - 1))) := by
  obtain ⟨j, rfl⟩ : ∃ x, j = x + 1 := ⟨j - 1, by omega⟩
  rfl
theorem tab_nn {fa fb : Nat → P3} {band : Int} : tab fa fb band 0 0 = cellT fa fb band 0 0 0 := rfl
theorem cellT_in {fa fb : Nat → P3} {band : Int} {i j : Nat} {b : Int} (hi : inF (fa i) = true) (hj : inF (fb j) = true) (hb : 0 ≤ b ∧ b ≤ far) : 0 ≤ cellT fa fb band i j b ∧ cellT fa fb band i j b ≤ 1000000574 := by
  have h := cst_in hi hj
  unfold far at hb
  unfold cellT
  split
  · unfold far; omega
  · omega
theorem tab_in {fa fb : Nat → P3} {band : Int} {n m : Nat} (ha : ∀ i, i < n → inF (fa i) = true) (hb : ∀ j, j < m → inF (fb j) = true) : ∀ i j, i < n → j < m → 0 ≤ tab fa fb band i j ∧ tab fa fb band i j ≤ 1000000574 := by
  have hf : (0 : Int) ≤ far := by unfold far; omega
  intro i
  induction i with
  | zero =>
    intro j
    induction j with
    | zero => intro h1 h2; exact cellT_in (ha 0 h1) (hb 0 h2) ⟨by omega, hf⟩
    | succ j ih =>
      intro h1 h2
      have h := ih h1 (by omega)
      rw [tab_ny (by omega), Nat.add_sub_cancel]
      exact cellT_in (ha 0 h1) (hb _ h2) ⟨by omega, by omega⟩
  | succ i ihi =>
    intro j
    induction j with
    | zero =>
      intro h1 h2
      have h := ihi 0 (by omega) h2
      rw [tab_yn (by omega), Nat.add_sub_cancel]
      exact cellT_in (ha _ h1) (hb _ h2) ⟨by omega, by omega⟩
    | succ j ih =>
      intro h1 h2
      have h := ih h1 (by omega)
      have h' := ihi j (by omega) (by omega)
      have h'' := ihi (j + 1) (by omega) h2
      rw [tab_yy (by omega) (by omega), Nat.add_sub_cancel, Nat.add_sub_cancel]
      exact cellT_in (ha _ h1) (hb _ h2) ⟨by omega, by omega⟩
theorem cellT_far {fa fb : Nat → P3} {band : Int} {i j : Nat} {b : Int} (h : b = far ∨ band < absv ((i : Int) - (j : Int))) : cellT fa fb band i j b = far := by unfold cellT; rw [if_pos h]
theorem cellT_sum {fa fb : Nat → P3} {band : Int} {i j : Nat} {b : Int} (h : b ≠ far) (h2 : ¬ band < absv ((i : Int) - (j : Int))) : cellT fa fb band i j b = b + cst (fa i) (fb j) := by
  unfold cellT; rw [if_neg (fun h' => h'.elim h h2)]
/-- The table as one row of numbers. -/
def tabQ (fa fb : Nat → P3) (band : Int) (m : Nat) (q : Nat) : Int := tab fa fb band (q / m) (q % m)
theorem tabQ_at (fa fb : Nat → P3) (band : Int) {m i j : Nat} (hj : j < m) : tabQ fa fb band m (i * m + j) = tab fa fb band i j := by
  unfold tabQ
  rw [Nat.add_comm (i * m) j, Nat.add_mul_div_right _ _ (by omega : 0 < m), Nat.add_mul_mod_self_right, Nat.div_eq_of_lt hj, Nat.mod_eq_of_lt hj, Nat.zero_add]
end Go.Proofs.Ytghaddpicedenaa.tab
