/-
  Proved: a path that may begin anywhere costs the least of all parts; which part the document's search tells (plain lemmas).
  Conditions: both lists are sequences.
-/
import Derived.Test.YthpmckfjlbiiiabPth
import Derived.Test.YthpmckfjlbiiiabPart
import Derived.Test.YthpmckfjlbiiiabRevI
namespace Go.Proofs.Ythpmckfjlbiiiab.dp
open Go.ChangeShapes Go.WideShapes Go.ChangeAt Go.RowKit Go.Joins
open Go.Proofs.Ythpmckfjlbiiiab.core Go.Proofs.Ythpmckfjlbiiiab.rown Go.Proofs.Ythpmckfjlbiiiab.stk Go.Proofs.Ythpmckfjlbiiiab.boxed Go.Proofs.Ythpmckfjlbiiiab.ft Go.Proofs.Ythpmckfjlbiiiab.seq Go.Proofs.Ythpmckfjlbiiiab.tab Go.Proofs.Ythpmckfjlbiiiab.put3
set_option linter.unusedVariables false
set_option linter.unusedSimpArgs false
theorem wide_abs {i j : Nat} (hi : i < 72) (hj : j < 72) : absv ((i : Int) - (j : Int)) ≤ 72 := wide hi hj
/-- The steps of the table without a band. -/
theorem tab_rec {fa fb : Nat → P3} {n m : Nat} (hn : n ≤ 72) (hm : m ≤ 72) (ha : ∀ i, i < n → inF (fa i) = true) (hb : ∀ j, j < m → inF (fb j) = true) :
    (0 < n → 0 < m → tab fa fb 72 0 0 = cst (fa 0) (fb 0)) ∧ (∀ j, 0 < n → j + 1 < m → tab fa fb 72 0 (j + 1) = tab fa fb 72 0 j + cst (fa 0) (fb (j + 1))) ∧
    (∀ i, i + 1 < n → 0 < m → tab fa fb 72 (i + 1) 0 = tab fa fb 72 i 0 + cst (fa (i + 1)) (fb 0)) ∧
    (∀ i j, i + 1 < n → j + 1 < m → tab fa fb 72 (i + 1) (j + 1) = min (min (tab fa fb 72 i j) (tab fa fb 72 i (j + 1))) (tab fa fb 72 (i + 1) j) + cst (fa (i + 1)) (fb (j + 1))) := by
  have hf : far = 1000000000 := rfl
  have fin := fun i j (hi : i < n) (hj : j < m) => tab_fin hn hm ha hb hi hj
  refine ⟨fun h1 h2 => ?_, fun j h1 h2 => ?_, fun i h1 h2 => ?_, fun i j h1 h2 => ?_⟩
  · rw [tab_nn, cellT_sum (by omega) (by have := wide_abs (i := 0) (j := 0) (by omega) (by omega); omega)]; omega
  · have q := fin 0 j h1 (by omega)
    have q2 := wide_abs (i := 0) (j := j + 1) (by omega) (by omega)
    rw [tab_ny (by omega), Nat.add_sub_cancel, cellT_sum (by omega) (by omega)]; omega
  · have q := fin i 0 (by omega) h2
    have q2 := wide_abs (i := i + 1) (j := 0) (by omega) (by omega)
    rw [tab_yn (by omega), Nat.add_sub_cancel, cellT_sum (by omega) (by omega)]; omega
  · have q := fin i j (by omega) (by omega)
    have q' := fin i (j + 1) (by omega) (by omega)
    have q'' := fin (i + 1) j (by omega) (by omega)
    have q2 := wide_abs (i := i + 1) (j := j + 1) (by omega) (by omega)
    rw [tab_yy (by omega) (by omega), Nat.add_sub_cancel, Nat.add_sub_cancel, cellT_sum (by omega) (by omega)]; omega
/-- v is the least cost of the parts that end at j. -/
def Mn (fa fb : Nat → P3) (v : Int) (i j : Nat) : Prop := (∃ x, x ≤ j ∧ v = tab fa (shift fb x) 72 i (j - x)) ∧ ∀ x, x ≤ j → v ≤ tab fa (shift fb x) 72 i (j - x)
theorem free_min {fa fb : Nat → P3} {n m : Nat} (hn : n ≤ 72) (hm : m ≤ 72) (ha : ∀ i, i < n → inF (fa i) = true) (hb : ∀ j, j < m → inF (fb j) = true) :
    ∀ i j, i < n → j < m → Mn fa fb (lrow fa fb 72 (fun _ => 0) (i + 1) (j + 1)) i j := by
  have hbar : bar = 1099511627776 := rfl
  have Zin : ∀ i, i ≤ n → ∀ q, q ≤ m → 0 ≤ lrow fa fb 72 (fun _ => 0) i q := fun i hi q hq => (lrow_in (band := 72) (r0 := fun _ => 0) ha hb (fun q _ => ⟨Int.le_refl _, by omega⟩) i hi q hq).1
  have Zs : ∀ i j, i < n → j < m → lrow fa fb 72 (fun _ => 0) (i + 1) (j + 1) = cst (fa i) (fb j) + min (min (lrow fa fb 72 (fun _ => 0) i j) (lrow fa fb 72 (fun _ => 0) i (j + 1))) (lrow fa fb 72 (fun _ => 0) (i + 1) j) := fun i j hi hj => by
    show nxt fa fb 72 i (lrow fa fb 72 (fun _ => 0) i) (j + 1) = _
    rw [nxt, if_pos (wide_abs (by omega) (by omega))]
    rfl
  have Z0 : ∀ i, lrow fa fb 72 (fun _ => 0) (i + 1) 0 = bar := fun i => rfl
  have Z00 : ∀ q, lrow fa fb 72 (fun _ => 0) 0 q = 0 := fun q => rfl
  obtain ⟨Z, hZ⟩ : ∃ Z, lrow fa fb 72 (fun _ => 0) = Z := ⟨_, rfl⟩
  rw [hZ] at Zin Zs Z0 Z00 ⊢
  have sh : ∀ x y, shift fb x y = fb (x + y) := fun _ _ => rfl
  have shv : ∀ x, ∀ y, y < m - x → inF (shift fb x y) = true := fun x y hy => hb _ (by omega)
  have R := fun x => tab_rec (fa := fa) (fb := shift fb x) (n := n) (m := m - x) hn (by omega) ha (shv x)
  have fin := fun x i y (hi : i < n) (hy : y < m - x) => tab_fin (fa := fa) (fb := shift fb x) (n := n) (m := m - x) hn (by omega) ha (shv x) hi hy
  have c0 : ∀ i j, i < n → j < m → 0 ≤ cst (fa i) (fb j) := fun i j hi hj => (cst_in (ha i hi) (hb j hj)).1
  intro i
  induction i with
  | zero =>
    intro j h1 h2
    have e : Z 1 (j + 1) = cst (fa 0) (fb j) := by
      have := Zs 0 j h1 h2
      have z1 := Zin 1 (by omega) j (by omega)
      rw [Z00, Z00] at this
      show Z (0 + 1) (j + 1) = _
      have z1' : 0 ≤ Z (0 + 1) j := z1
      omega
    show Mn fa fb (Z 1 (j + 1)) 0 j
    rw [e]
    refine ⟨⟨j, Nat.le_refl _, ?_⟩, fun x hx => ?_⟩
    · rw [Nat.sub_self, (R j).1 h1 (by omega), sh, Nat.add_zero]
    · by_cases hxj : x = j
      · subst hxj
        rw [Nat.sub_self, (R x).1 h1 (by omega), sh, Nat.add_zero]
        exact Int.le_refl _
      · obtain ⟨y, hy⟩ : ∃ y, j - x = y + 1 := ⟨j - x - 1, by omega⟩
        rw [hy, (R x).2.1 y h1 (by omega), sh, show x + (y + 1) = j by omega]
        have := (fin x 0 y h1 (by omega)).2.2
        omega
  | succ i ihi =>
    intro j
    induction j with
    | zero =>
      intro h1 h2
      obtain ⟨⟨x, hx, hv⟩, hmin⟩ := ihi 0 (by omega) h2
      obtain rfl : x = 0 := by omega
      rw [Nat.sub_self] at hv
      have f1 := (fin 0 i 0 (by omega) (by omega)).1
      have e := Zs (i + 1) 0 h1 h2
      rw [Z0 i, Z0 (i + 1)] at e
      have hr : tab fa (shift fb 0) 72 (i + 1) 0 = tab fa (shift fb 0) 72 i 0 + cst (fa (i + 1)) (fb 0) := (R 0).2.2.1 i h1 (by omega)
      have e2 : Z (i + 1 + 1) (0 + 1) = tab fa (shift fb 0) 72 (i + 1) 0 := by rw [hr]; omega
      refine ⟨⟨0, Nat.le_refl _, e2⟩, fun x hx => ?_⟩
      obtain rfl : x = 0 := by omega
      rw [Nat.sub_self, ← e2]
      exact Int.le_refl _
    | succ j ihj =>
      intro h1 h2
      have m1 := ihi j (by omega) (by omega)
      have m2 := ihi (j + 1) (by omega) h2
      have m3 := ihj h1 (by omega)
      have e := Zs (i + 1) (j + 1) h1 h2
      have hlow : ∀ x, x ≤ j + 1 → Z (i + 1 + 1) (j + 1 + 1) ≤ tab fa (shift fb x) 72 (i + 1) (j + 1 - x) := fun x hx => by
        by_cases hxj : x = j + 1
        · subst hxj
          have q := m2.2 (j + 1) (Nat.le_refl _)
          have hr := (R (j + 1)).2.2.1 i h1 (by omega)
          rw [sh, Nat.add_zero] at hr
          rw [Nat.sub_self] at q ⊢
          omega
        · obtain ⟨y, hy⟩ : ∃ y, j - x = y := ⟨_, rfl⟩
          have q1 := m1.2 x (by omega)
          have q2 := m2.2 x (by omega)
          have q3 := m3.2 x (by omega)
          have hr := (R x).2.2.2 i y h1 (by omega)
          rw [sh, show x + (y + 1) = j + 1 by omega] at hr
          rw [hy] at q1 q3
          rw [show j + 1 - x = y + 1 by omega] at q2 ⊢
          omega
      refine ⟨?_, hlow⟩
      have key : ∀ x, x ≤ j + 1 → tab fa (shift fb x) 72 (i + 1) (j + 1 - x) ≤ Z (i + 1 + 1) (j + 1 + 1) → ∃ x, x ≤ j + 1 ∧ Z (i + 1 + 1) (j + 1 + 1) = tab fa (shift fb x) 72 (i + 1) (j + 1 - x) := fun x hx h => ⟨x, hx, by have := hlow x hx; omega⟩
      obtain ⟨⟨x1, hx1, v1⟩, -⟩ := m1
      obtain ⟨⟨x2, hx2, v2⟩, -⟩ := m2
      obtain ⟨⟨x3, hx3, v3⟩, -⟩ := m3
      have s1 : tab fa (shift fb x1) 72 (i + 1) (j + 1 - x1) ≤ Z (i + 1) (j + 1) + cst (fa (i + 1)) (fb (j + 1)) := by
        obtain ⟨y, hy⟩ : ∃ y, j - x1 = y := ⟨_, rfl⟩
        have hr := (R x1).2.2.2 i y h1 (by omega)
        rw [sh, show x1 + (y + 1) = j + 1 by omega] at hr
        rw [hy] at v1
        rw [show j + 1 - x1 = y + 1 by omega, hr]
        omega
      have s3 : tab fa (shift fb x3) 72 (i + 1) (j + 1 - x3) ≤ Z (i + 1 + 1) (j + 1) + cst (fa (i + 1)) (fb (j + 1)) := by
        obtain ⟨y, hy⟩ : ∃ y, j - x3 = y := ⟨_, rfl⟩
        have hr := (R x3).2.2.2 i y h1 (by omega)
        rw [sh, show x3 + (y + 1) = j + 1 by omega] at hr
        rw [hy] at v3
        rw [show j + 1 - x3 = y + 1 by omega, hr]
        omega
      have s2 : tab fa (shift fb x2) 72 (i + 1) (j + 1 - x2) ≤ Z (i + 1) (j + 1 + 1) + cst (fa (i + 1)) (fb (j + 1)) := by
        by_cases hxj : x2 = j + 1
        · subst hxj
          have hr := (R (j + 1)).2.2.1 i h1 (by omega)
          rw [sh, Nat.add_zero] at hr
          rw [Nat.sub_self] at v2 ⊢
          omega
        · obtain ⟨y, hy⟩ : ∃ y, j - x2 = y := ⟨_, rfl⟩
          have hr := (R x2).2.2.2 i y h1 (by omega)
          rw [sh, show x2 + (y + 1) = j + 1 by omega] at hr
          rw [show j + 1 - x2 = y + 1 by omega] at v2 ⊢
          rw [hr]
          omega
      by_cases t1 : Z (i + 1) (j + 1) ≤ Z (i + 1) (j + 1 + 1) ∧ Z (i + 1) (j + 1) ≤ Z (i + 1 + 1) (j + 1)
      · exact key x1 (by omega) (by omega)
      · by_cases t2 : Z (i + 1) (j + 1 + 1) ≤ Z (i + 1 + 1) (j + 1)
        · exact key x2 hx2 (by omega)
        · exact key x3 (by omega) (by omega)
/-- What the document's search finds among the parts with one end. -/
theorem pin_spec (na : Nat) (fa fb : Nat → P3) (e : Nat) (s : Int × Nat × Nat) : ∀ c, (pin na fa fb e s c = s ∧ ∀ c', c' < c → s.1 ≤ partC na fa fb (e - 1 - c') e) ∨
    (∃ c0, c0 < c ∧ pin na fa fb e s c = (partC na fa fb (e - 1 - c0) e, e - 1 - c0, e) ∧ partC na fa fb (e - 1 - c0) e < s.1 ∧ (∀ c', c' < c → partC na fa fb (e - 1 - c0) e ≤ partC na fa fb (e - 1 - c') e) ∧ ∀ c', c' < c0 → partC na fa fb (e - 1 - c0) e < partC na fa fb (e - 1 - c') e) := by
  intro c
  induction c with
  | zero => exact .inl ⟨rfl, fun c' h => absurd h (by omega)⟩
  | succ c ih =>
    unfold pin
    rcases ih with ⟨h1, h2⟩ | ⟨c0, h0, h1, h2, h3, h4⟩
    · rw [h1]
      by_cases h : partC na fa fb (e - 1 - c) e < s.1
      · rw [if_pos h]
        refine .inr ⟨c, by omega, rfl, h, fun c' hc' => ?_, fun c' hc' => ?_⟩
        · by_cases e' : c' = c
          · subst e'; exact Int.le_refl _
          · have := h2 c' (by omega); omega
        · have := h2 c' hc'; omega
      · rw [if_neg h]
        refine .inl ⟨rfl, fun c' hc' => ?_⟩
        by_cases e' : c' = c
        · subst e'; omega
        · exact h2 c' (by omega)
    · rw [h1]
      simp only
      by_cases h : partC na fa fb (e - 1 - c) e < partC na fa fb (e - 1 - c0) e
      · rw [if_pos h]
        refine .inr ⟨c, by omega, rfl, by omega, fun c' hc' => ?_, fun c' hc' => ?_⟩
        · by_cases e' : c' = c
          · subst e'; exact Int.le_refl _
          · have := h3 c' (by omega); omega
        · have := h3 c' hc'; omega
      · rw [if_neg h]
        refine .inr ⟨c0, by omega, rfl, h2, fun c' hc' => ?_, h4⟩
        by_cases e' : c' = c
        · subst e'; omega
        · exact h3 c' (by omega)
/-- The part from x to e is the one that the search finds among the first nb ends. -/
def Best (na : Nat) (fa fb : Nat → P3) (nb x e : Nat) : Prop := x < e ∧ e ≤ nb ∧ (∀ e' x', x' < e' → e' ≤ nb → partC na fa fb x e ≤ partC na fa fb x' e') ∧ (∀ e' x', x' < e' → e' < e → partC na fa fb x e < partC na fa fb x' e') ∧ ∀ x', x < x' → x' < e → partC na fa fb x e < partC na fa fb x' e
theorem pout_spec (na : Nat) (fa fb : Nat → P3) (N : Nat) (hf : ∀ x e, x < e → e ≤ N → partC na fa fb x e < far) : ∀ nb, nb ≤ N → (nb = 0 ∧ pout na fa fb nb = (far, 0, 0)) ∨ ∃ x e, pout na fa fb nb = (partC na fa fb x e, x, e) ∧ Best na fa fb nb x e := by
  intro nb
  induction nb with
  | zero => exact fun _ => .inl ⟨rfl, rfl⟩
  | succ k ih =>
    intro hk
    right
    unfold pout
    have hp := pin_spec na fa fb (k + 1) (pout na fa fb k) (k + 1)
    have ends : ∀ x', x' < k + 1 → ∃ c', c' < k + 1 ∧ k + 1 - 1 - c' = x' := fun x' h => ⟨k - x', by omega, by omega⟩
    rcases ih (by omega) with ⟨rfl, h0⟩ | ⟨x, e, h0, b1, b2, b3, b4, b5⟩
    · rw [h0] at hp ⊢
      rcases hp with ⟨-, h2⟩ | ⟨c0, q0, q1, q2, q3, q4⟩
      · have := h2 0 (by omega)
        have := hf 0 1 (by omega) hk
        simp only [Nat.zero_add, Nat.sub_self] at *
        omega
      · obtain rfl : c0 = 0 := by omega
        refine ⟨_, _, q1, by omega, by omega, fun e' x' h1 h2 => ?_, fun e' x' h1 h2 => absurd h2 (by omega), fun x' h1 h2 => absurd h2 (by omega)⟩
        obtain rfl : e' = 0 + 1 := by omega
        obtain rfl : x' = 0 := by omega
        exact Int.le_refl _
    · rw [h0] at hp ⊢
      rcases hp with ⟨q1, q2⟩ | ⟨c0, q0, q1, q2, q3, q4⟩
      · refine ⟨x, e, q1, b1, by omega, fun e' x' h1 h2 => ?_, b4, b5⟩
        by_cases he : e' = k + 1
        · subst he
          obtain ⟨c', hc', ex⟩ := ends x' h1
          have := q2 c' hc'
          rw [ex] at this
          exact this
        · exact b3 e' x' h1 (by omega)
      · refine ⟨_, _, q1, by omega, by omega, fun e' x' h1 h2 => ?_, fun e' x' h1 h2 => ?_, fun x' h1 h2 => ?_⟩
        · by_cases he : e' = k + 1
          · subst he
            obtain ⟨c', hc', ex⟩ := ends x' h1
            have := q3 c' hc'
            rw [ex] at this
            exact this
          · have := b3 e' x' h1 (by omega)
            simp only at q2
            omega
        · have := b3 e' x' h1 (by omega)
          simp only at q2
          omega
        · obtain ⟨c', hc', ex⟩ := ends x' h2
          have := q4 c' (by omega)
          rw [ex] at this
          exact this
end Go.Proofs.Ythpmckfjlbiiiab.dp
