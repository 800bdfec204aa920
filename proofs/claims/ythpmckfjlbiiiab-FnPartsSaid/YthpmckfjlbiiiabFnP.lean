/-
  Proved: the least cost under exchanged lists, of equal lists, and with a wider band; a valid path's cost is one of a path of the table; (plain lemmas for the laws of chapter 9).
  Conditions: both lists are sequences.
-/
import Derived.Test.YthpmckfjlbiiiabPth
import Derived.Test.YthpmckfjlbiiiabTabD
namespace Go.Proofs.Ythpmckfjlbiiiab.dp
open Go.ChangeShapes Go.WideShapes Go.ChangeAt Go.RowKit Go.Joins
open Go.Proofs.Ythpmckfjlbiiiab.core Go.Proofs.Ythpmckfjlbiiiab.rown Go.Proofs.Ythpmckfjlbiiiab.stk Go.Proofs.Ythpmckfjlbiiiab.boxed Go.Proofs.Ythpmckfjlbiiiab.ft Go.Proofs.Ythpmckfjlbiiiab.seq Go.Proofs.Ythpmckfjlbiiiab.tab Go.Proofs.Ythpmckfjlbiiiab.path
set_option linter.unusedVariables false
set_option linter.unusedSimpArgs false
theorem absv_sym (x y : Int) : absv (x - y) = absv (y - x) := by unfold absv; split <;> split <;> omega
theorem absv_iff {x B : Int} : absv x ≤ B ↔ -B ≤ x ∧ x ≤ B := by unfold absv; split <;> omega
theorem cst_sym (p q : P3) : cst p q = cst q p := by unfold cst; rw [absv_sym p.1, absv_sym p.2.1, absv_sym p.2.2]
theorem cst_self (p : P3) : cst p p = 0 := by
  unfold cst
  rw [Int.sub_self, Int.sub_self, Int.sub_self]
  have h : absv 0 = 0 := rfl
  rw [h]; omega
theorem cellT_sym (fa fb : Nat → P3) (band : Int) (i j : Nat) (b : Int) : cellT fa fb band i j b = cellT fb fa band j i b := by
  unfold cellT
  rw [absv_sym (i : Int), cst_sym (fa i)]
/-- Exchanged lists cost as much. -/
theorem tab_sym (fa fb : Nat → P3) (band : Int) : ∀ i j, tab fa fb band i j = tab fb fa band j i := by
  intro i
  induction i with
  | zero =>
    intro j
    induction j with
    | zero => rw [tab_nn, tab_nn]; exact cellT_sym ..
    | succ j ih => rw [tab_ny (by omega), tab_yn (by omega), Nat.add_sub_cancel, ih]; exact cellT_sym ..
  | succ i ihi =>
    intro j
    induction j with
    | zero => rw [tab_yn (by omega), tab_ny (by omega), Nat.add_sub_cancel, ihi]; exact cellT_sym ..
    | succ j ih =>
      rw [tab_yy (i := i + 1) (j := j + 1) (by omega) (by omega), tab_yy (i := j + 1) (j := i + 1) (by omega) (by omega)]
      simp only [Nat.add_sub_cancel]
      rw [ih, ihi, ihi, cellT_sym]
      congr 1
      omega
/-- A list costs nothing against itself. -/
theorem tab_same {f : Nat → P3} {band : Int} {n : Nat} (h0 : 0 ≤ band) (ha : ∀ i, i < n → inF (f i) = true) : ∀ i, i < n → tab f f band i i = 0 := by
  have hf : far = 1000000000 := rfl
  have hz : absv 0 = 0 := rfl
  intro i
  induction i with
  | zero => intro hi; rw [tab_nn, cellT_sum (by omega) (by rw [Int.sub_self, hz]; omega), cst_self]; rfl
  | succ i ih =>
    intro hi
    have h1 := ih (by omega)
    have h2 := (tab_in (band := band) ha ha i (i + 1) (by omega) hi).1
    have h3 := (tab_in (band := band) ha ha (i + 1) i hi (by omega)).1
    rw [tab_yy (by omega) (by omega), Nat.add_sub_cancel, h1, cellT_sum (by omega) (by rw [Int.sub_self, hz]; omega), cst_self]
    omega
theorem Pt.mono {ok ok' : Nat → Nat → Prop} {g : Nat → Nat → Int} {i0 j0 i j : Nat} {c : Int} (h : ∀ x y, ok x y → ok' x y) (p : Pt ok g i0 j0 i j c) : Pt ok' g i0 j0 i j c := by
  induction p with
  | here h' => exact .here (h _ _ h')
  | diag _ h' ih => exact .diag ih (h _ _ h')
  | down _ h' ih => exact .down ih (h _ _ h')
  | right _ h' ih => exact .right ih (h _ _ h')
/-- A wider band costs no more. -/
theorem tab_wide {fa fb : Nat → P3} {band band' : Int} {n m : Nat} (hn : n ≤ 72) (hm : m ≤ 72) (ha : ∀ i, i < n → inF (fa i) = true) (hb : ∀ j, j < m → inF (fb j) = true) (hw : band ≤ band') {i j : Nat} (hi : i < n) (hj : j < m) (hf : tab fa fb band i j ≠ far) : tab fa fb band' i j ≤ tab fa fb band i j :=
  tab_le hn hm ha hb ((tab_path (i + j) i j rfl hf).mono fun x y h => by unfold okB at h ⊢; omega) hi hj
/-- A valid path is one of the table's. -/
theorem path_pt {fa fb : Nat → P3} {band n m : Int} {k : Nat} {f : Nat → P2} (h : okPath k f n m band = true) : ∀ x, x < k → ∃ i j : Nat, f x = ((i : Int), (j : Int)) ∧ Pt (okB band) (gC fa fb) 0 0 i j (sumZ (pcAt fa fb f) (x + 1)) := by
  obtain ⟨hk, h0, -, hx⟩ := okPath_of h
  have at_of : ∀ x, x < k → ∃ i j : Nat, f x = ((i : Int), (j : Int)) ∧ okB band i j ∧ pcAt fa fb f x = gC fa fb i j := fun x hxk => by
    obtain ⟨⟨⟨a1, a2⟩, ⟨b1, b2⟩, c⟩, -⟩ := hx x hxk
    refine ⟨(f x).1.toNat, (f x).2.toNat, ?_, ?_, rfl⟩
    · rw [Prod.ext_iff]; exact ⟨by simp only; omega, by simp only; omega⟩
    · unfold okB; rw [Int.toNat_of_nonneg a1, Int.toNat_of_nonneg b1]; exact c
  intro x
  induction x with
  | zero =>
    intro hxk
    obtain ⟨i, j, e, ho, ec⟩ := at_of 0 hxk
    have e1 : (f 0).1 = (i : Int) := by rw [e]
    have e2 : (f 0).2 = (j : Int) := by rw [e]
    obtain rfl : i = 0 := by omega
    obtain rfl : j = 0 := by omega
    refine ⟨0, 0, e, ?_⟩
    unfold sumZ sumZ
    rw [ec, Int.zero_add]
    exact .here ho
  | succ x ih =>
    intro hxk
    obtain ⟨i, j, e, p⟩ := ih (by omega)
    obtain ⟨i', j', e', ho, ec⟩ := at_of (x + 1) hxk
    have hs := (hx (x + 1) hxk).2 (by omega)
    rw [Nat.add_sub_cancel] at hs
    unfold stepP at hs
    rw [e, e'] at hs
    simp only at hs
    refine ⟨i', j', e', ?_⟩
    unfold sumZ
    rw [ec]
    have hc : (i' = i + 1 ∧ j' = j + 1) ∨ (i' = i + 1 ∧ j' = j) ∨ (i' = i ∧ j' = j + 1) := by omega
    rcases hc with ⟨rfl, rfl⟩ | ⟨rfl, rfl⟩ | ⟨rfl, rfl⟩
    · exact .diag p ho
    · exact .down p ho
    · exact .right p ho
/-- No valid path costs less than the table tells. -/
theorem path_le {fa fb : Nat → P3} {band : Int} {n m k : Nat} {f : Nat → P2} (va : okQ n fa = true) (vb : okQ m fb = true) (h : okPath k f n m band = true) : tab fa fb band (n - 1) (m - 1) ≤ sumZ (pcAt fa fb f) k := by
  obtain ⟨a1, a2, a3⟩ := okQ_of va
  obtain ⟨b1, b2, b3⟩ := okQ_of vb
  obtain ⟨hk, -, hl, -⟩ := okPath_of h
  obtain ⟨i, j, e, p⟩ := path_pt (fa := fa) (fb := fb) h (k - 1) (by omega)
  rw [e] at hl
  simp only at hl
  obtain rfl : i = n - 1 := by omega
  obtain rfl : j = m - 1 := by omega
  rw [Nat.sub_add_cancel hk] at p
  exact tab_le a2 b2 a3 b3 p (by omega) (by omega)
end Go.Proofs.Ythpmckfjlbiiiab.dp
