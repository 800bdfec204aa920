/-
  Proved: the table has the least costs of paths; paths may be read from their end on; the least cost of a path that begins anywhere (plain lemmas).
  Conditions: both lists are sequences.
-/
import Derived.Test.YtkcfghbkcgommabDp
namespace Go.Proofs.Ytkcfghbkcgommab.dp
open Go.ChangeShapes Go.WideShapes Go.ChangeAt Go.RowKit Go.Joins
open Go.Proofs.Ytkcfghbkcgommab.core Go.Proofs.Ytkcfghbkcgommab.rown Go.Proofs.Ytkcfghbkcgommab.stk Go.Proofs.Ytkcfghbkcgommab.boxed Go.Proofs.Ytkcfghbkcgommab.ft Go.Proofs.Ytkcfghbkcgommab.seq Go.Proofs.Ytkcfghbkcgommab.tab
set_option linter.unusedVariables false
set_option linter.unusedSimpArgs false
/-- A path from one place to another one, all places of which are allowed, and its cost. -/
inductive Pt (ok : Nat → Nat → Prop) (g : Nat → Nat → Int) (i0 j0 : Nat) : Nat → Nat → Int → Prop
  | here (h : ok i0 j0) : Pt ok g i0 j0 i0 j0 (g i0 j0)
  | diag {i j : Nat} {c : Int} (p : Pt ok g i0 j0 i j c) (h : ok (i + 1) (j + 1)) : Pt ok g i0 j0 (i + 1) (j + 1) (c + g (i + 1) (j + 1))
  | down {i j : Nat} {c : Int} (p : Pt ok g i0 j0 i j c) (h : ok (i + 1) j) : Pt ok g i0 j0 (i + 1) j (c + g (i + 1) j)
  | right {i j : Nat} {c : Int} (p : Pt ok g i0 j0 i j c) (h : ok i (j + 1)) : Pt ok g i0 j0 i (j + 1) (c + g i (j + 1))
theorem Pt.cons {ok : Nat → Nat → Prop} {g : Nat → Nat → Int} {a b i0 j0 i j : Nat} {c : Int} (p : Pt ok g i0 j0 i j c) (h : ok a b) (hs : (i0 = a + 1 ∧ j0 = b + 1) ∨ (i0 = a + 1 ∧ j0 = b) ∨ (i0 = a ∧ j0 = b + 1)) : Pt ok g a b i j (g a b + c) := by
  induction p with
  | here h' =>
    rcases hs with ⟨rfl, rfl⟩ | ⟨rfl, rfl⟩ | ⟨rfl, rfl⟩
    · exact .diag (.here h) h'
    · exact .down (.here h) h'
    · exact .right (.here h) h'
  | diag _ h' ih => have := Pt.diag ih h'; rw [Int.add_assoc] at this; exact this
  | down _ h' ih => have := Pt.down ih h'; rw [Int.add_assoc] at this; exact this
  | right _ h' ih => have := Pt.right ih h'; rw [Int.add_assoc] at this; exact this
theorem Pt.rev {ok ok' : Nat → Nat → Prop} {g g' : Nat → Nat → Int} {N M i0 j0 i j : Nat} {c : Int} (p : Pt ok g i0 j0 i j c) (ho : ∀ x y, x ≤ N → y ≤ M → ok' x y) (hg : ∀ x y, x ≤ N → y ≤ M → g' (N - x) (M - y) = g x y) (hi : i ≤ N) (hj : j ≤ M) : Pt ok' g' (N - i) (M - j) (N - i0) (M - j0) c := by
  induction p with
  | here h' => rw [← hg i0 j0 hi hj]; exact .here (ho _ _ (by omega) (by omega))
  | @diag i j c p h' ih =>
    have := (ih (by omega) (by omega)).cons (a := N - (i + 1)) (b := M - (j + 1)) (ho _ _ (by omega) (by omega)) (by omega)
    rw [hg (i + 1) (j + 1) hi hj, Int.add_comm] at this
    exact this
  | @down i j c p h' ih =>
    have := (ih (by omega) (by omega)).cons (a := N - (i + 1)) (b := M - j) (ho _ _ (by omega) (by omega)) (by omega)
    rw [hg (i + 1) j hi hj, Int.add_comm] at this
    exact this
  | @right i j c p h' ih =>
    have := (ih (by omega) (by omega)).cons (a := N - i) (b := M - (j + 1)) (ho _ _ (by omega) (by omega)) (by omega)
    rw [hg i (j + 1) hi hj, Int.add_comm] at this
    exact this
def okB (band : Int) (i j : Nat) : Prop := absv ((i : Int) - (j : Int)) ≤ band
def gC (fa fb : Nat → P3) (i j : Nat) : Int := cst (fa i) (fb j)
theorem tab_bef {fa fb : Nat → P3} {band : Int} {i j : Nat} : tab fa fb band i j = bef fa fb band i j + gC fa fb i j := by unfold bef gC; omega
theorem near_of {fa fb : Nat → P3} {band : Int} {i j : Nat} (h : tab fa fb band i j ≠ far) : okB band i j := by
  unfold okB
  refine Classical.byContradiction fun hx => h ?_
  cases i with
  | zero => cases j with
    | zero => rw [tab_nn]; exact cellT_far (.inr (by omega))
    | succ j => rw [tab_ny (by omega)]; exact cellT_far (.inr (by omega))
  | succ i => cases j with
    | zero => rw [tab_yn (by omega)]; exact cellT_far (.inr (by omega))
    | succ j => rw [tab_yy (by omega) (by omega)]; exact cellT_far (.inr (by omega))
/-- A cost of the table is that of a path. -/
theorem tab_path {fa fb : Nat → P3} {band : Int} : ∀ s i j, i + j = s → tab fa fb band i j ≠ far → Pt (okB band) (gC fa fb) 0 0 i j (tab fa fb band i j) := by
  intro s
  induction s using Nat.strongRecOn with
  | ind s ih =>
    intro i j hs hf
    have ho := near_of hf
    by_cases h0 : i = 0 ∧ j = 0
    · obtain ⟨rfl, rfl⟩ := h0
      have e : tab fa fb band 0 0 = gC fa fb 0 0 := by
        unfold okB at ho
        rw [tab_nn, cellT_sum (by decide) (by omega)]
        unfold gC; omega
      rw [e]
      exact .here ho
    · obtain ⟨h1, h2⟩ := bef_of (fa := fa) (fb := fb) (band := band) (i := i) (j := j) (by omega) hf
      rw [tab_bef]
      rcases h2 with ⟨hi, hj, e⟩ | ⟨hi, e⟩ | ⟨hj, e⟩
      · obtain ⟨i, rfl⟩ : ∃ x, i = x + 1 := ⟨i - 1, by omega⟩
        obtain ⟨j, rfl⟩ : ∃ x, j = x + 1 := ⟨j - 1, by omega⟩
        rw [Nat.add_sub_cancel, Nat.add_sub_cancel] at e
        rw [← e] at h1 ⊢
        exact .diag (ih (i + j) (by omega) i j rfl h1) ho
      · obtain ⟨i, rfl⟩ : ∃ x, i = x + 1 := ⟨i - 1, by omega⟩
        rw [Nat.add_sub_cancel] at e
        rw [← e] at h1 ⊢
        exact .down (ih (i + j) (by omega) i j rfl h1) ho
      · obtain ⟨j, rfl⟩ : ∃ x, j = x + 1 := ⟨j - 1, by omega⟩
        rw [Nat.add_sub_cancel] at e
        rw [← e] at h1 ⊢
        exact .right (ih (i + j) (by omega) i j rfl h1) ho
theorem cellT_le {fa fb : Nat → P3} {band : Int} {i j : Nat} {b c : Int} (hb : b ≤ c) (hc : c < far) (ho : okB band i j) : cellT fa fb band i j b ≤ c + gC fa fb i j := by
  unfold okB at ho
  rw [cellT_sum (by omega) (by omega)]
  unfold gC; omega
/-- No path costs less than the table tells. -/
theorem tab_le {fa fb : Nat → P3} {band : Int} {n m : Nat} (hn : n ≤ 72) (hm : m ≤ 72) (ha : ∀ i, i < n → inF (fa i) = true) (hb : ∀ j, j < m → inF (fb j) = true) {i j : Nat} {c : Int} (p : Pt (okB band) (gC fa fb) 0 0 i j c) (hi : i < n) (hj : j < m) : tab fa fb band i j ≤ c := by
  have hf : far = 1000000000 := rfl
  have near := tab_near (band := band) hn hm ha hb
  have hg : ∀ i j, i < n → j < m → 0 ≤ gC fa fb i j := fun i j h1 h2 => (cst_in (ha i h1) (hb j h2)).1
  have key : ∀ i j, i < n → j < m → okB band i j → tab fa fb band i j < far := fun i j h1 h2 h => by
    have := near i j h1 h2 h
    omega
  have pok : ∀ {i j : Nat} {c : Int}, Pt (okB band) (gC fa fb) 0 0 i j c → okB band i j := fun p => by cases p <;> assumption
  induction p with
  | here h => 
    unfold okB at h
    rw [tab_nn, cellT_sum (by omega) (by omega)]; unfold gC; omega
  | @diag i j c p h ih =>
    have h1 := ih (by omega) (by omega)
    have h2 := key i j (by omega) (by omega) (pok p)
    rw [tab_yy (by omega) (by omega), Nat.add_sub_cancel, Nat.add_sub_cancel]
    have := cellT_le (fa := fa) (fb := fb) (i := i + 1) (j := j + 1) (b := min (min (min far (tab fa fb band i j)) (tab fa fb band i (j + 1))) (tab fa fb band (i + 1) j)) (c := tab fa fb band i j) (by omega) h2 h
    omega
  | @down i j c p h ih =>
    have h1 := ih (by omega) (by omega)
    have h2 := key i j (by omega) (by omega) (pok p)
    by_cases h0 : j = 0
    · subst h0
      rw [tab_yn (by omega), Nat.add_sub_cancel]
      have := cellT_le (fa := fa) (fb := fb) (i := i + 1) (j := 0) (b := min far (tab fa fb band i 0)) (c := tab fa fb band i 0) (by omega) h2 h
      omega
    · rw [tab_yy (by omega) h0, Nat.add_sub_cancel]
      have := cellT_le (fa := fa) (fb := fb) (i := i + 1) (j := j) (b := min (min (min far (tab fa fb band i (j - 1))) (tab fa fb band i j)) (tab fa fb band (i + 1) (j - 1))) (c := tab fa fb band i j) (by omega) h2 h
      omega
  | @right i j c p h ih =>
    have h1 := ih (by omega) (by omega)
    have h2 := key i j (by omega) (by omega) (pok p)
    by_cases h0 : i = 0
    · subst h0
      rw [tab_ny (by omega), Nat.add_sub_cancel]
      have := cellT_le (fa := fa) (fb := fb) (i := 0) (j := j + 1) (b := min far (tab fa fb band 0 j)) (c := tab fa fb band 0 j) (by omega) h2 h
      omega
    · rw [tab_yy h0 (by omega), Nat.add_sub_cancel]
      have := cellT_le (fa := fa) (fb := fb) (i := i) (j := j + 1) (b := min (min (min far (tab fa fb band (i - 1) j)) (tab fa fb band (i - 1) (j + 1))) (tab fa fb band i j)) (c := tab fa fb band i j) (by omega) h2 h
      omega
theorem wide {i j : Nat} (hi : i < 72) (hj : j < 72) : okB 72 i j := by
  unfold okB absv; split <;> omega
theorem tab_fin {fa fb : Nat → P3} {n m : Nat} (hn : n ≤ 72) (hm : m ≤ 72) (ha : ∀ i, i < n → inF (fa i) = true) (hb : ∀ j, j < m → inF (fb j) = true) {i j : Nat} (hi : i < n) (hj : j < m) : tab fa fb 72 i j < 100000 ∧ tab fa fb 72 i j ≠ far ∧ 0 ≤ tab fa fb 72 i j := by
  have hf : far = 1000000000 := rfl
  have h1 := tab_near hn hm ha hb i j hi hj (wide (by omega) (by omega))
  have h2 := tab_in (band := 72) ha hb i j hi hj
  omega
/-- Lists that are read from their ends on cost as much. -/
theorem tab_rev {fa fb fa' fb' : Nat → P3} {N M : Nat} (hN : N < 72) (hM : M < 72) (ha : ∀ i, i ≤ N → inF (fa i) = true) (hb : ∀ j, j ≤ M → inF (fb j) = true) (e1 : ∀ x, x ≤ N → fa' (N - x) = fa x) (e2 : ∀ x, x ≤ M → fb' (M - x) = fb x) : tab fa' fb' 72 N M = tab fa fb 72 N M := by
  have ha' : ∀ i, i ≤ N → inF (fa' i) = true := fun i hi => by
    have := e1 (N - i) (by omega)
    rw [show N - (N - i) = i by omega] at this
    rw [this]; exact ha _ (by omega)
  have hb' : ∀ i, i ≤ M → inF (fb' i) = true := fun i hi => by
    have := e2 (M - i) (by omega)
    rw [show M - (M - i) = i by omega] at this
    rw [this]; exact hb _ (by omega)
  have t1 := tab_fin (n := N + 1) (m := M + 1) (by omega) (by omega) (fun i hi => ha i (by omega)) (fun i hi => hb i (by omega)) (show N < N + 1 by omega) (show M < M + 1 by omega)
  have t2 := tab_fin (n := N + 1) (m := M + 1) (by omega) (by omega) (fun i hi => ha' i (by omega)) (fun i hi => hb' i (by omega)) (show N < N + 1 by omega) (show M < M + 1 by omega)
  have p1 := (tab_path (N + M) N M rfl t1.2.1).rev (ok' := okB 72) (g' := gC fa' fb') (N := N) (M := M) (fun x y hx hy => wide (by omega) (by omega)) (fun x y hx hy => by unfold gC; rw [e1 x hx, e2 y hy]) (Nat.le_refl _) (Nat.le_refl _)
  have p2 := (tab_path (N + M) N M rfl t2.2.1).rev (ok' := okB 72) (g' := gC fa fb) (N := N) (M := M) (fun x y hx hy => wide (by omega) (by omega)) (fun x y hx hy => by
    unfold gC
    have q1 := e1 (N - x) (by omega)
    have q2 := e2 (M - y) (by omega)
    rw [show N - (N - x) = x by omega] at q1
    rw [show M - (M - y) = y by omega] at q2
    rw [q1, q2]) (Nat.le_refl _) (Nat.le_refl _)
  rw [Nat.sub_self, Nat.sub_self, Nat.sub_zero, Nat.sub_zero] at p1 p2
  have l1 := tab_le (n := N + 1) (m := M + 1) (by omega) (by omega) (fun i hi => ha' i (by omega)) (fun i hi => hb' i (by omega)) p1 (by omega) (by omega)
  have l2 := tab_le (n := N + 1) (m := M + 1) (by omega) (by omega) (fun i hi => ha i (by omega)) (fun i hi => hb i (by omega)) p2 (by omega) (by omega)
  omega
end Go.Proofs.Ytkcfghbkcgommab.dp
