/-
  Proved: what the program's functions that find all lists within a limit return.
  Conditions: those of each theorem.
-/
import Derived.Test.YtkcfghbkcgommabNearI
namespace Go.Proofs.Ytkcfghbkcgommab.env
open Go.ChangeShapes Go.WideShapes Go.ChangeAt Go.RowKit Go.Joins
open Go.Proofs.Ytkcfghbkcgommab.core Go.Proofs.Ytkcfghbkcgommab.rown Go.Proofs.Ytkcfghbkcgommab.stk Go.Proofs.Ytkcfghbkcgommab.boxed Go.Proofs.Ytkcfghbkcgommab.ft Go.Proofs.Ytkcfghbkcgommab.seq Go.Proofs.Ytkcfghbkcgommab.tab Go.Proofs.Ytkcfghbkcgommab.dp
set_option linter.unusedVariables false
set_option linter.unusedSimpArgs false
/-- What is within a limit, among the first of measured lists. -/
def wfl (m : Nat → P2) (limit : Int) : Nat → List Int
  | 0 => []
  | j + 1 => if (m j).2 ≤ limit then wfl m limit j ++ [(m j).1] else wfl m limit j
theorem wfl_congr {m m' : Nat → P2} (limit : Int) : ∀ k, (∀ j, j < k → m j = m' j) → wfl m limit k = wfl m' limit k
  | 0, _ => rfl
  | k + 1, h => by
    unfold wfl
    rw [wfl_congr limit k (fun j hj => h j (by omega)), h k (by omega)]
theorem wfl_le (m : Nat → P2) (limit : Int) : ∀ k, (wfl m limit k).length ≤ k
  | 0 => Nat.le_refl _
  | k + 1 => by
    have := wfl_le m limit k
    unfold wfl
    split
    · rw [List.length_append]; simp; omega
    · omega
theorem wst_wfl (na : Nat) (fa : Nat → P3) (ln : Nat → Nat) (lf : Nat → Nat → P3) (band limit : Int) : ∀ k, wfl (mP (costL na fa ln lf band) (tks na ln band k)) limit (tks na ln band k).length = wst na fa ln lf band limit k
  | 0 => rfl
  | k + 1 => by
    have ih := wst_wfl na fa ln lf band limit k
    have hs : wst na fa ln lf band limit (k + 1) = if takes na ln band k = true ∧ costL na fa ln lf band k ≤ limit then wst na fa ln lf band limit k ++ [(k : Int)] else wst na fa ln lf band limit k := rfl
    cases ht : takes na ln band k with
    | false => rw [hs, ht, tks_no ht, ih]; simp
    | true =>
      rw [hs, ht, tks_yes ht, List.length_append]
      show (if (mP (costL na fa ln lf band) (tks na ln band k ++ [k]) (tks na ln band k).length).2 ≤ limit then wfl (mP (costL na fa ln lf band) (tks na ln band k ++ [k])) limit (tks na ln band k).length ++ [(mP (costL na fa ln lf band) (tks na ln band k ++ [k]) (tks na ln band k).length).1] else wfl (mP (costL na fa ln lf band) (tks na ln band k ++ [k])) limit (tks na ln band k).length) = _
      rw [mP_at, wfl_congr limit (tks na ln band k).length (fun j hj => mP_lt (costL na fa ln lf band) _ k hj), ih]
      simp
set_option maxRecDepth 100000 in
set_option maxHeartbeats 4000000 in
theorem withinI_no {ca cb : Nat} (A B : Option Addr) (na n : Nat) (fa : Nat → P3) (ln : Nat → Nat) (lf : Nat → Nat → P3) (band limit : Int) (w : World) (ha : na ≤ 1048576) (hn : n ≤ 1048576) (hl : ∀ i, i < n → ln i ≤ 1048576) (pa : PtsAt w A na fa) (pb : LsAt w B n ln lf) (h0 : liC na fa n ln lf band ≠ 0) :
    Calls Try.prog 11 #[.slice A na ca, .slice B n cb, .int .i64 band, .int .i64 limit] w fun e w' => e = .returned (.tuple #[.slice none 0 0, .int .i64 (liC na fa n ln lf band)]) ∧ Below w.heap.size w w' := by
  have HC := Lib.hid (measC_no (ca := ca) (cb := cb) A B na n fa ln lf band w ha hn hl pa pb h0)
  have h12 : liC na fa n ln lf band = 1 ∨ liC na fa n ln lf band = 2 := by have := liC_any na fa n ln lf band; omega
  clear h0 pa pb hl
  rcases h12 with h | h
  all_goals
    rw [h] at HC ⊢
    clear h
    go_enter Try.func11, Try.ntmps11
    go_wp2_with fail
    refine HC.out.mono ?_
    rintro e w1 ⟨rfl, hb1⟩
    have B1 := Lib.hid hb1
    clear hb1
    go_wp2
    go_ret2
    exact ⟨rfl, B1.out⟩
set_option maxRecDepth 100000 in
set_option maxHeartbeats 4000000 in
theorem withinI_yes {ca cb : Nat} (A B : Option Addr) (na n : Nat) (fa : Nat → P3) (ln : Nat → Nat) (lf : Nat → Nat → P3) (band limit : Int) (w : World) (ha : na ≤ 1048576) (hn : n ≤ 1048576) (hl : ∀ i, i < n → ln i ≤ 1048576) (pa : PtsAt w A na fa) (pb : LsAt w B n ln lf) (h0 : liC na fa n ln lf band = 0) :
    Calls Try.prog 11 #[.slice A na ca, .slice B n cb, .int .i64 band, .int .i64 limit] w fun e w' => ∃ v, e = .returned (.tuple #[v, .int .i64 0]) ∧ w'.ownsRow w.heap.size 2 1 v (wst na fa ln lf band limit n).length (vals (wst na fa ln lf band limit n)) ∧ Below w.heap.size w w' := by
  obtain ⟨i0, hi0, hz0, hz1, hz2⟩ := rown.info_get infoJ
  obtain ⟨⟨va, hn40, vl⟩, hbd⟩ := liC_of h0
  obtain ⟨bd, rfl⟩ : ∃ bd : Nat, band = (bd : Int) := ⟨band.toNat, by omega⟩
  have HC := Lib.hid (measC_yes (ca := ca) (cb := cb) A B na n fa ln lf bd (costL na fa ln lf (bd : Int)) w ha hl pa pb h0 (costs_all (ca := ca) (cb := cb) h0))
  have HW := Lib.hid (wst_wfl na fa ln lf (bd : Int) limit n)
  have HTL := Lib.hid (tks_len na ln (bd : Int) n)
  generalize wst na fa ln lf (bd : Int) limit n = R at *
  generalize mP (costL na fa ln lf (bd : Int)) (tks na ln (bd : Int) n) = m at *
  generalize hts : (tks na ln (bd : Int) n).length = K at *
  have HG := Lib.hid (show wfl m limit 0 = [] ∧ ∀ j, wfl m limit (j + 1) = if (m j).2 ≤ limit then wfl m limit j ++ [(m j).1] else wfl m limit j from ⟨rfl, fun _ => rfl⟩)
  have HPL := Lib.hid (wfl_le m limit)
  have hK : K ≤ 40 := by have := HTL.out; omega
  generalize wfl m limit = G at *
  clear hts va vl hbd h0 pa pb hl ha hn HTL hn40
  go_enter Try.func11, Try.ntmps11
  go_wp2_with fail
  refine HC.out.mono ?_
  rintro e w1 ⟨v0, rfl, hrow, hb1⟩
  obtain ⟨AM, cM, rfl, hsp⟩ := mP_rows hrow
  have B1 := Lib.hid hb1
  have HSP := Lib.hid hsp
  clear hb1 hrow hsp HC
  go_wp2
  go_loopw [12, 27] (fun o i w' => ∃ (x L : Nat) (D : Option Addr) (d : Nat), x ≤ K ∧ L ≤ x ∧ i = .int .i64 (x : Int) ∧ o = .slice D L d ∧ Hid ((G x).length = L) ∧ Hid (w'.ownsRow w1.heap.size 2 1 (.slice D L d) L (vals (G x))) ∧ Hid (Below w1.heap.size w1 w')) (fun _ i _ => K - (intOf i).toNat)
  case atStart => exact ⟨0, 0, _, _, Nat.zero_le _, Nat.le_refl _, rfl, rfl, Lib.hid (by rw [HG.out.1]; rfl), Lib.hid (by rw [HG.out.1]; exact World.ownsRow_nil _ _ _ _), Lib.hid (Below.refl _ _)⟩
  case round =>
    obtain ⟨x, L, D, d, hx, hLx, rfl, rfl, HLL, HO, HB⟩ := hrel
    by_cases hlt : x < K
    · have hli : (x : Int) < (K : Int) := by omega
      have hx1 : x + 1 ≤ K := by omega
      have hms : K - (x + 1) < K - x := by omega
      have hL60 : L ≤ 40 := by omega
      have hL1 : L ≤ x + 1 := by omega
      have hL2 : L + 1 ≤ x + 1 := by omega
      obtain ⟨g, o, rfl, hg, c0, c1⟩ := (HSP.out.kept HB.out) x hlt
      have HGX := Lib.hid (HG.out.2 x)
      obtain ⟨⟨u, v⟩, hm⟩ : ∃ p, m x = p := ⟨_, rfl⟩
      rw [hm] at HGX c0 c1
      simp only at c0 c1
      have BA := Lib.hid (below_alloc1 wr (.cells #[.int .i64 u, .int .i64 v] 55))
      have HB2 := Lib.hid (HB.out.trans (BA.out.mono HB.out.size))
      have HO2 := Lib.hid (rown.ownsRow_kept HO.out BA.out)
      clear hlt hLx
      by_cases hv : v ≤ limit
      · have HN := Lib.hid (show G (x + 1) = G x ++ [u] by rw [HGX.out, if_pos hv])
        have Z3 := Lib.hid (show L + 1 ≤ maxLen by simp only [maxLen]; omega)
        have Z4 := Lib.hid (show (L + 1) * 8 ≤ 140737488355328 by omega)
        clear HGX
        have hs2 : (wr.alloc (.cells #[.int .i64 u, .int .i64 v] 55)).heap.size = wr.heap.size + 1 := by simp
        have HS2 := Lib.hid hs2
        clear hs2
        go_wp2_with (first
          | (at_builtin
             have z0 := rown.ownsRow_kept HO2.out (below_alloc1 (wr.alloc (.cells #[.int .i64 u, .int .i64 v] 55)) (.cells #[.int .i64 u] 2))
             have z2 : ∀ q ∈ [Value.int .i64 u], q.oneCell' = true := (by simp [Value.oneCell'])
             have zb : w1.heap.size ≤ (wr.alloc (.cells #[.int .i64 u, .int .i64 v] 55)).heap.size := HB2.out.size
             have z5 : w1.heap.size ≤ ((wr.alloc (.cells #[.int .i64 u, .int .i64 v] 55)).alloc (.cells #[.int .i64 u] 2)).heap.size := (Nat.le_trans zb (by simp))
             refine wpList_append_lies ((wr.alloc (.cells #[.int .i64 u, .int .i64 v] 55)).alloc (.cells #[.int .i64 u] 2)) rfl _ _ 32 rfl w1.heap.size 2 i0 _ 1 8 Try.underlying32 hi0 hz0 hz1 hz2 rfl (by decide) (.slice D L d) L _ rfl z0 ⟨wr.heap.size + 1, 0, none⟩ 1 1 [.int .i64 u] rfl rfl (one_newW HS2.out) z2 (by decide) Z3.out Z4.out z5 _ rfl ?_
             intro g3 cap3 w5 hown hgr hat hlt3
             have HO5 := Lib.hid hown
             have HB5 := Lib.hid (HB2.out.trans (rown.under HO2.out zb hgr))
             clear hown hgr hat z0 z2 z5 zb HO2 HB2))
        go_wp2
        go_roundw
        case rel => exact ⟨x + 1, L + 1, some ⟨g3, 0, none⟩, cap3, hx1, hL2, by go_num, rfl, Lib.hid (by rw [HN.out, List.length_append, HLL.out]; rfl), Lib.hid (by rw [HN.out, vals_add]; exact HO5.out), HB5⟩
        case measure => simp [intOf]; omega
      · have HN := Lib.hid (show G (x + 1) = G x by rw [HGX.out, if_neg hv])
        clear HGX
        go_wp2
        go_roundw
        case rel => exact ⟨x + 1, L, D, d, hx1, hL1, by go_num, rfl, Lib.hid (by rw [HN.out]; exact HLL.out), Lib.hid (by rw [HN.out]; exact HO2.out), HB2⟩
        case measure => simp [intOf]; omega
    · have hxn : ¬ (x : Int) < (K : Int) := by omega
      have hxe := Lib.hid (show x = K by omega)
      have BB := Lib.hid (B1.out.trans (HB.out.mono B1.out.size))
      have HR := Lib.hid (show G x = R by rw [hxe.out]; exact HW.out)
      have HO2 := Lib.hid (row_low HO.out B1.out.size)
      clear hlt
      go_wp2
      go_ret2
      exact ⟨_, rfl, by rw [← HR.out, HLL.out]; exact HO2.out, BB.out⟩
end Go.Proofs.Ytkcfghbkcgommab.env
