/-
  Proved: the least cost of lists that go back, and of a list within another one (plain lemmas for the laws of chapter 9).
  Conditions: both lists are sequences.
-/
import Derived.Test.YthpmckfjlbiiiabFnP
import Derived.Test.YthpmckfjlbiiiabMBackFeats
import Derived.Test.YthpmckfjlbiiiabElas
import Derived.Test.YthpmckfjlbiiiabTrcD
namespace Go.Proofs.Ythpmckfjlbiiiab.dp
open Go.ChangeShapes Go.WideShapes Go.ChangeAt Go.RowKit Go.Joins
open Go.Proofs.Ythpmckfjlbiiiab.core Go.Proofs.Ythpmckfjlbiiiab.rown Go.Proofs.Ythpmckfjlbiiiab.stk Go.Proofs.Ythpmckfjlbiiiab.boxed Go.Proofs.Ythpmckfjlbiiiab.ft Go.Proofs.Ythpmckfjlbiiiab.seq Go.Proofs.Ythpmckfjlbiiiab.tab Go.Proofs.Ythpmckfjlbiiiab.path
open Go.Proofs.Ythpmckfjlbiiiab.wBackFeats (bck)
set_option linter.unusedVariables false
set_option linter.unusedSimpArgs false
theorem cellT_cst {fa fb fa' fb' : Nat → P3} {band : Int} {i j : Nat} {b b' : Int} (h : cst (fa i) (fb j) = cst (fa' i) (fb' j)) (e : b = b') : cellT fa fb band i j b = cellT fa' fb' band i j b' := by
  unfold cellT; rw [h, e]
/-- The table speaks of costs only. -/
theorem tab_cst {fa fb fa' fb' : Nat → P3} {band : Int} {n m : Nat} (h : ∀ i j, i < n → j < m → cst (fa i) (fb j) = cst (fa' i) (fb' j)) : ∀ i j, i < n → j < m → tab fa fb band i j = tab fa' fb' band i j := by
  intro i
  induction i with
  | zero =>
    intro j
    induction j with
    | zero => intro h1 h2; rw [tab_nn, tab_nn]; exact cellT_cst (h 0 0 h1 h2) rfl
    | succ j ih => intro h1 h2; rw [tab_ny (j := j + 1) (by omega), tab_ny (j := j + 1) (by omega), Nat.add_sub_cancel, ih h1 (by omega)]; exact cellT_cst (h _ _ h1 h2) rfl
  | succ i ihi =>
    intro j
    induction j with
    | zero => intro h1 h2; rw [tab_yn (i := i + 1) (by omega), tab_yn (i := i + 1) (by omega), Nat.add_sub_cancel, ihi 0 (by omega) h2]; exact cellT_cst (h _ _ h1 h2) rfl
    | succ j ih =>
      intro h1 h2
      rw [tab_yy (i := i + 1) (j := j + 1) (by omega) (by omega), tab_yy (i := i + 1) (j := j + 1) (by omega) (by omega), Nat.add_sub_cancel, Nat.add_sub_cancel, ihi j (by omega) (by omega), ihi (j + 1) (by omega) h2, ih h1 (by omega)]
      exact cellT_cst (h _ _ h1 h2) rfl
theorem bck_in {p : P3} (h : inF p = true) : inF (bck p) = true := by
  have h := inF_of h
  unfold bck
  exact decide_eq_true ⟨by simp only; omega, by simp only; omega, by simp only; omega, by simp only; omega⟩
theorem bck_cst {p q : P3} (hp : inF p = true) (hq : inF q = true) : cst (bck p) (bck q) = cst p q := by
  have h1 := inF_of hp
  have h2 := inF_of hq
  obtain ⟨x, y, d⟩ := p
  obtain ⟨x', y', d'⟩ := q
  simp only at h1 h2
  unfold cst bck
  simp only
  obtain ⟨e, he⟩ : ∃ e, (d + 4) % 8 = e := ⟨_, rfl⟩
  obtain ⟨e', he'⟩ : ∃ e', (d' + 4) % 8 = e' := ⟨_, rfl⟩
  rw [he, he']
  have k1 : (e = d + 4 ∧ d ≤ 3) ∨ (e = d - 4 ∧ 4 ≤ d) := by omega
  have k2 : (e' = d' + 4 ∧ d' ≤ 3) ∨ (e' = d' - 4 ∧ 4 ≤ d') := by omega
  clear he he'
  congr 2
  rcases k1 with ⟨rfl, k1⟩ | ⟨rfl, k1⟩ <;> rcases k2 with ⟨rfl, k2⟩ | ⟨rfl, k2⟩ <;> (unfold absv; split <;> split <;> omega)
/-- The lists that go back cost as much. -/
theorem least_back {na nb : Nat} {fa fb : Nat → P3} (va : okQ na fa = true) (vb : okQ nb fb = true) : leastE na nb (fun j => bck (fa (na - 1 - j))) (fun j => bck (fb (nb - 1 - j))) 72 = leastE na nb fa fb 72 := by
  obtain ⟨a1, a2, a3⟩ := okQ_of va
  obtain ⟨b1, b2, b3⟩ := okQ_of vb
  unfold leastE
  have h := tab_rev (fa := fun j => bck (fa j)) (fb := fun j => bck (fb j)) (fa' := fun j => bck (fa (na - 1 - j))) (fb' := fun j => bck (fb (nb - 1 - j))) (N := na - 1) (M := nb - 1) (by omega) (by omega) (fun i hi => bck_in (a3 i (by omega))) (fun i hi => bck_in (b3 i (by omega)))
    (fun x hx => by rw [show na - 1 - (na - 1 - x) = x by omega]) (fun x hx => by rw [show nb - 1 - (nb - 1 - x) = x by omega])
  rw [h]
  exact tab_cst (n := na) (m := nb) (fun i j hi hj => bck_cst (a3 i hi) (b3 j hj)) _ _ (by omega) (by omega)
theorem back_ok {n : Nat} {f : Nat → P3} (v : okQ n f = true) : okQ n (fun j => bck (f (n - 1 - j))) = true := by
  obtain ⟨a1, a2, a3⟩ := okQ_of v
  exact okQ_true a1 a2 fun i hi => bck_in (a3 _ (by omega))
theorem okF_ofQ {n : Nat} {f : Nat → P3} (v : okQ n f = true) : okF n f = true := by
  obtain ⟨a1, a2, a3⟩ := okQ_of v
  exact okF_true (by omega) (by omega) a3
theorem pos_len (fa fb : Nat → P3) (bd : Int) (na nb : Nat) (hf : tab fa fb bd (na - 1) (nb - 1) ≠ far) : True := trivial
/-- The cost within a band that both lists fit in. -/
theorem least_facts {na nb r : Nat} {fa fb : Nat → P3} {bd : Int} (hr : r < 4) (va : okQ na fa = true) (ha : na ≤ 8) (vb : okQ nb fb = true) (hb : nb ≤ 8) (hbd : bd = absv ((na : Int) - (nb : Int)) + (r : Int)) :
    elC na nb fa fb bd = 0 ∧ elC nb na fb fa bd = 0 ∧ elC na na fa fa 0 = 0 ∧ elC na nb fa fb 72 = 0 ∧ leastE nb na fb fa bd = leastE na nb fa fb bd ∧ leastE na na fa fa 0 = 0 ∧ leastE na nb fa fb 72 ≤ leastE na nb fa fb bd := by
  obtain ⟨a1, a2, a3⟩ := okQ_of va
  obtain ⟨b1, b2, b3⟩ := okQ_of vb
  have hab := absv_in (n := (na : Int) - (nb : Int)) (B := 8) (by omega) (by omega)
  have hz : absv ((na : Int) - (na : Int)) = 0 := by rw [Int.sub_self]; rfl
  have ho : okB bd (na - 1) (nb - 1) := by
    unfold okB
    rw [show ((na - 1 : Nat) : Int) - ((nb - 1 : Nat) : Int) = (na : Int) - (nb : Int) by omega]
    omega
  have hf : tab fa fb bd (na - 1) (nb - 1) ≠ far := by
    have h1 := tab_near (band := bd) a2 b2 a3 b3 (na - 1) (nb - 1) (by omega) (by omega) ho
    have h2 : far = 1000000000 := rfl
    omega
  have el : ∀ {n m : Nat} {f g : Nat → P3} {b : Int}, okQ n f = true → okQ m g = true → (0 ≤ b ∧ b ≤ 72) → absv ((n : Int) - (m : Int)) ≤ b → elC n m f g b = 0 := fun v v' h1 h2 => by unfold elC; rw [if_pos ⟨v, v'⟩, if_pos ⟨h1, h2⟩]
  refine ⟨el va vb (by omega) (by omega), el vb va (by omega) (by rw [absv_sym]; omega), el va va (by omega) (by omega), el va vb (by omega) (by omega), ?_, ?_, ?_⟩
  · unfold leastE; rw [tab_sym]
  · unfold leastE; exact tab_same (n := na) (Int.le_refl _) a3 _ (by omega)
  · unfold leastE; exact tab_wide a2 b2 a3 b3 (by omega) (by omega) (by omega) hf
end Go.Proofs.Ythpmckfjlbiiiab.dp
