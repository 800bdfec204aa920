/-
  Proved: what the program's functions that find the nearest list, and all lists within a limit, return.
  Conditions: those of each theorem.
-/
import Derived.Test.YtkcfghbkcgommabMin
import Derived.Test.YtkcfghbkcgommabOwnS
namespace Go.Proofs.Ytkcfghbkcgommab.env
open Go.ChangeShapes Go.WideShapes Go.ChangeAt Go.RowKit Go.Joins
open Go.Proofs.Ytkcfghbkcgommab.core Go.Proofs.Ytkcfghbkcgommab.rown Go.Proofs.Ytkcfghbkcgommab.stk Go.Proofs.Ytkcfghbkcgommab.boxed Go.Proofs.Ytkcfghbkcgommab.ft Go.Proofs.Ytkcfghbkcgommab.seq Go.Proofs.Ytkcfghbkcgommab.tab Go.Proofs.Ytkcfghbkcgommab.dp
set_option linter.unusedVariables false
set_option linter.unusedSimpArgs false
theorem mn_congr {m m' : Nat → P2} : ∀ k, (∀ j, j ≤ k → m j = m' j) → mn m k = mn m' k
  | 0, h => h 0 (Nat.le_refl _)
  | k + 1, h => by
    show (if (m (k + 1)).2 < (mn m k).2 then m (k + 1) else mn m k) = (if (m' (k + 1)).2 < (mn m' k).2 then m' (k + 1) else mn m' k)
    rw [mn_congr k (fun j hj => h j (by omega)), h (k + 1) (Nat.le_refl _)]
theorem mP_at (num : Nat → Int) (pre : List Nat) (x : Nat) : mP num (pre ++ [x]) pre.length = ((x : Int), num x) := by
  unfold mP; simp
theorem mP_lt (num : Nat → Int) (pre : List Nat) (x : Nat) {j : Nat} (hj : j < pre.length) : mP num (pre ++ [x]) j = mP num pre j := by
  unfold mP; rw [List.getElem?_append_left hj]
/-- The least of those that take part is the nearest one. -/
theorem nst_mn (na : Nat) (fa : Nat → P3) (ln : Nat → Nat) (lf : Nat → Nat → P3) (band : Int) : ∀ k, (tks na ln band k = [] ∧ nst na fa ln lf band k = (-1, 0)) ∨
    (∃ L, (tks na ln band k).length = L + 1 ∧ mn (mP (costL na fa ln lf band) (tks na ln band k)) L = nst na fa ln lf band k ∧ 0 ≤ (nst na fa ln lf band k).1)
  | 0 => .inl ⟨rfl, rfl⟩
  | k + 1 => by
    have ih := nst_mn na fa ln lf band k
    have hs : nst na fa ln lf band (k + 1) = if takes na ln band k = true then (if (nst na fa ln lf band k).1 < 0 ∨ costL na fa ln lf band k < (nst na fa ln lf band k).2 then ((k : Int), costL na fa ln lf band k) else nst na fa ln lf band k) else nst na fa ln lf band k := rfl
    cases ht : takes na ln band k with
    | false =>
      rw [hs, ht, tks_no ht]
      exact ih
    | true =>
      rw [hs, ht, tks_yes ht, if_pos rfl]
      rcases ih with ⟨h1, h2⟩ | ⟨L, h1, h2, h3⟩
      · rw [h1, h2]
        refine .inr ⟨0, rfl, ?_, ?_⟩
        · rfl
        · simp
      · refine .inr ⟨L + 1, by simp [h1], ?_, ?_⟩
        · have e1 : mP (costL na fa ln lf band) (tks na ln band k ++ [k]) (L + 1) = ((k : Int), costL na fa ln lf band k) := by rw [← h1]; exact mP_at _ _ _
          have e2 : mn (mP (costL na fa ln lf band) (tks na ln band k ++ [k])) L = nst na fa ln lf band k := by
            rw [← h2]
            exact mn_congr L fun j hj => mP_lt _ _ _ (by omega)
          show (if (mP (costL na fa ln lf band) (tks na ln band k ++ [k]) (L + 1)).2 < (mn (mP (costL na fa ln lf band) (tks na ln band k ++ [k])) L).2 then mP (costL na fa ln lf band) (tks na ln band k ++ [k]) (L + 1) else mn (mP (costL na fa ln lf band) (tks na ln band k ++ [k])) L) = _
          rw [e1, e2]
          have h3' : ¬ (nst na fa ln lf band k).1 < 0 := by omega
          simp only [h3', false_or]
        · split
          · show (0 : Int) ≤ (k : Int); omega
          · exact h3
theorem mP_rows {w : World} {base E L : Nat} {v : Value} {m : Nat → P2} (h : w.ownsRow base E 2 v L (rws (sp2 m) L)) : ∃ A c, v = .slice A L c ∧ SpAt w A L m := by
  obtain ⟨A, c, rfl⟩ := own_sl h (by decide)
  exact ⟨A, c, rfl, sp_row h⟩
/-- All lists that take part have a cost. -/
theorem costs_all {na n : Nat} {fa : Nat → P3} {ln : Nat → Nat} {lf : Nat → Nat → P3} {bd : Nat} {ca cb : Nat} {A : Option Addr} (h0 : liC na fa n ln lf (bd : Int) = 0) (W : World) (Ai : Option Addr) (ci x : Nat) (hx : x < n) (ht : takes na ln (bd : Int) x = true) (pa : PtsAt W A na fa) (pb : PtsAt W Ai (ln x) (lf x)) :
    Calls Try.prog 17 #[mtv A Ai na (ln x) ca ci bd] W fun e W' => e = .returned (.int .i64 (costL na fa ln lf (bd : Int) x)) ∧ Below W.heap.size W W' := by
  obtain ⟨⟨va, -, vl⟩, hbd⟩ := liC_of h0
  exact costMI A Ai na (ln x) fa (lf x) bd W pa pb va (vl x hx) hbd (of_decide_eq_true ht).2
theorem bounds_all {na n : Nat} {fa : Nat → P3} {ln : Nat → Nat} {lf : Nat → Nat → P3} {bd : Nat} {ca cb : Nat} {A : Option Addr} (h0 : liC na fa n ln lf (bd : Int) = 0) (W : World) (Ai : Option Addr) (ci x : Nat) (hx : x < n) (ht : takes na ln (bd : Int) x = true) (pa : PtsAt W A na fa) (pb : PtsAt W Ai (ln x) (lf x)) :
    Calls Try.prog 21 #[mtv A Ai na (ln x) ca ci bd] W fun e W' => e = .returned (.int .i64 (boundE na (ln x) fa (lf x) (bd : Int))) ∧ Below W.heap.size W W' := by
  obtain ⟨⟨va, -, vl⟩, hbd⟩ := liC_of h0
  exact boundMI A Ai na (ln x) fa (lf x) bd W pa pb va (vl x hx) hbd (of_decide_eq_true ht).2
set_option maxRecDepth 100000 in
set_option maxHeartbeats 4000000 in
theorem nearI {ca cb : Nat} (A B : Option Addr) (na n : Nat) (fa : Nat → P3) (ln : Nat → Nat) (lf : Nat → Nat → P3) (band : Int) (w : World) (ha : na ≤ 1048576) (hn : n ≤ 1048576) (hl : ∀ i, i < n → ln i ≤ 1048576) (pa : PtsAt w A na fa) (pb : LsAt w B n ln lf) :
    Calls Try.prog 6 #[.slice A na ca, .slice B n cb, .int .i64 band] w fun e w' => e = .returned (.tuple #[.int .i64 (nearR na fa n ln lf band).1, .int .i64 (nearR na fa n ln lf band).2.1, .int .i64 (nearR na fa n ln lf band).2.2]) ∧ Below w.heap.size w w' := by
  by_cases h0 : liC na fa n ln lf band = 0
  rotate_left
  · have HC := Lib.hid (measC_no (ca := ca) (cb := cb) A B na n fa ln lf band w ha hn hl pa pb h0)
    have HR := Lib.hid (show nearR na fa n ln lf band = (0, 0, liC na fa n ln lf band) by unfold nearR; rw [if_neg h0])
    have h12 : liC na fa n ln lf band = 1 ∨ liC na fa n ln lf band = 2 := by have := liC_any na fa n ln lf band; omega
    rw [HR.out]
    clear h0 HR pa pb hl
    rcases h12 with h | h
    all_goals
      rw [h] at HC ⊢
      clear h
      go_enter Try.func6, Try.ntmps6
      go_wp2_with fail
      refine HC.out.mono ?_
      rintro e w1 ⟨rfl, hb1⟩
      have B1 := Lib.hid hb1
      clear hb1
      go_wp2
      go_ret3
      exact ⟨rfl, B1.out⟩
  obtain ⟨⟨va, hn40, vl⟩, hbd⟩ := liC_of h0
  obtain ⟨bd, rfl⟩ : ∃ bd : Nat, band = (bd : Int) := ⟨band.toNat, by omega⟩
  have HC := Lib.hid (measC_yes (ca := ca) (cb := cb) A B na n fa ln lf bd (costL na fa ln lf (bd : Int)) w ha hl pa pb h0 (costs_all (ca := ca) (cb := cb) h0))
  have HR := Lib.hid (show nearR na fa n ln lf (bd : Int) = if (nst na fa ln lf (bd : Int) n).1 < 0 then (0, 0, 3) else ((nst na fa ln lf (bd : Int) n).1, (nst na fa ln lf (bd : Int) n).2, 0) by unfold nearR; rw [if_pos h0])
  have HL := Lib.hid (tks_len na ln (bd : Int) n)
  have HN := Lib.hid (nst_mn na fa ln lf (bd : Int) n)
  generalize nst na fa ln lf (bd : Int) n = p at *
  generalize mP (costL na fa ln lf (bd : Int)) (tks na ln (bd : Int) n) = m at *
  generalize nearR na fa n ln lf (bd : Int) = R at *
  generalize hts : tks na ln (bd : Int) n = ts at *
  clear hts va vl hbd h0 pa pb hl ha hn
  rcases HN.out with ⟨rfl, rfl⟩ | ⟨L, hL, hm, hp⟩
  · have HR2 := Lib.hid (show R = (0, 0, 3) by rw [HR.out]; rfl)
    rw [HR2.out]
    clear HR HN
    go_enter Try.func6, Try.ntmps6
    go_wp2_with fail
    refine HC.out.mono ?_
    rintro e w1 ⟨v, rfl, hrow, hb1⟩
    obtain ⟨AM, cM, rfl, hsp⟩ := mP_rows hrow
    have B1 := Lib.hid hb1
    clear hb1 hrow hsp HC
    simp only [List.length_nil]
    go_wp2
    go_ret3
    exact ⟨rfl, B1.out⟩
  · have HR2 := Lib.hid (show R = (p.1, p.2, 0) by rw [HR.out, if_neg (by omega)])
    rw [HR2.out]
    rw [hL] at HC HL
    obtain ⟨p1, p2⟩ := p
    have HM := Lib.hid hm
    clear HR HR2 HN hp hm
    have hL1 : L + 1 ≤ 1048576 := by have := HL.out; omega
    have hne : ¬ ((L : Int) + 1 = 0) := by omega
    go_enter Try.func6, Try.ntmps6
    go_wp2_with fail
    refine HC.out.mono ?_
    rintro e w1 ⟨v, rfl, hrow, hb1⟩
    obtain ⟨AM, cM, rfl, hsp⟩ := mP_rows hrow
    have B1 := Lib.hid hb1
    have HI := Lib.hid (minI (c := cM) AM L m w1 hL1 hsp)
    rw [HM.out] at HI
    clear hb1 hrow hsp HC HM
    go_wp2_with fail
    refine HI.out.mono ?_
    rintro e w2 ⟨rfl, hb2⟩
    have B2 := Lib.hid (B1.out.trans (hb2.mono B1.out.size))
    have B3 := Lib.hid (B2.out.alloc B2.out.size (.cells #[.int .i64 p1, .int .i64 p2] 55))
    clear hb2 HI
    go_wp2
    go_region
    all_goals
      go_wp2
      go_ret3
      exact ⟨rfl, B3.out.drew⟩
end Go.Proofs.Ytkcfghbkcgommab.env
