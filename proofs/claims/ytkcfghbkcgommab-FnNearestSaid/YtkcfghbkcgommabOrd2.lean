/-
  Proved: a list sorted by bounds and indices is the order that the document asks for (plain lemmas); what the program's function that tells the order of the bounds returns.
  Conditions: those of each theorem.
-/
import Derived.Test.YtkcfghbkcgommabSort6
import Derived.Test.YtkcfghbkcgommabNearO
import Derived.Test.YtkcfghbkcgommabNearI
import Derived.Test.YtkcfghbkcgommabFirst
namespace Go.Proofs.Ytkcfghbkcgommab.srt
open Go.ChangeShapes Go.WideShapes Go.ChangeAt Go.RowKit Go.Joins
open Go.Proofs.Ytkcfghbkcgommab.core Go.Proofs.Ytkcfghbkcgommab.rown Go.Proofs.Ytkcfghbkcgommab.stk Go.Proofs.Ytkcfghbkcgommab.boxed Go.Proofs.Ytkcfghbkcgommab.put3 Go.Proofs.Ytkcfghbkcgommab.ft Go.Proofs.Ytkcfghbkcgommab.revQ Go.Proofs.Ytkcfghbkcgommab.env Go.Proofs.Ytkcfghbkcgommab.tab
set_option linter.unusedVariables false
set_option linter.unusedSimpArgs false
theorem asc_eq {d e : Nat → P2} {n : Nat} (hd : Asc d 0 n) (he : Asc e 0 n) (h1 : ∀ i, i < n → ∃ j, j < n ∧ d i = e j) (h2 : ∀ j, j < n → ∃ i, i < n ∧ e j = d i) : ∀ i, i < n → d i = e i := by
  intro i
  induction i using Nat.strongRecOn with
  | ind i ih =>
    intro hi
    obtain ⟨j, hj, e1⟩ := h1 i hi
    obtain ⟨k, hk, e2⟩ := h2 i hi
    by_cases c1 : j = i
    · rw [e1, c1]
    · by_cases c2 : j < i
      · have := ih j c2 hj
        exact (lt2_irr (p := d i) (by have h := hd j i (Nat.zero_le _) c2 hi; rwa [this, ← e1] at h)).elim
      · by_cases c3 : k < i
        · have := ih k c3 hk
          exact (lt2_irr (p := e i) (by have h := he k i (Nat.zero_le _) c3 hi; rwa [← this, ← e2] at h)).elim
        · have h3 : lt2 (e i) (d i) := by rw [e1]; exact he i j (Nat.zero_le _) (by omega) hj
          have h4 := hd.le (Nat.zero_le _) (show i ≤ k by omega) hk
          rw [← e2] at h4
          exact (lt2_irr (le2_lt h4 h3)).elim
/-- The document's order, as pairs. -/
def oP (na : Nat) (fa : Nat → P3) (ln : Nat → Nat) (lf : Nat → Nat → P3) (band : Int) (k j : Nat) : P2 := (fOf (ost na fa ln lf band k).1 j, fOf (ost na fa ln lf band k).2 j)
theorem oP_asc (na : Nat) (fa : Nat → P3) (ln : Nat → Nat) (lf : Nat → Nat → P3) (band : Int) : ∀ k, Asc (oP na fa ln lf band k) 0 (ost na fa ln lf band k).1.length
  | 0 => fun i j _ _ h => by simp [ost] at h
  | k + 1 => by
    have ih := oP_asc na fa ln lf band k
    have hr := ost_rising na fa ln lf band k
    have hl := (ost_len na fa ln lf band k).1
    have hm : ∀ j, j < (ost na fa ln lf band k).1.length → fOf (ost na fa ln lf band k).1 j < (k : Int) := fun j hj => by
      have : fOf (ost na fa ln lf band k).1 j ∈ (ost na fa ln lf band k).1 := by
        unfold fOf; rw [List.getD_eq_getElem?_getD, List.getElem?_eq_getElem hj]; exact List.getElem_mem _
      obtain ⟨j', h1, -, h2⟩ := (ost_mem k).1 this
      omega
    have hs : ost na fa ln lf band (k + 1) = ostep (takes na ln band k) (bndL na fa ln lf band k) k (ost na fa ln lf band k) := rfl
    cases ht : takes na ln band k with
    | false =>
      have e : ost na fa ln lf band (k + 1) = ost na fa ln lf band k := by rw [hs, ht]; rfl
      unfold oP at *
      rw [e]
      exact ih
    | true =>
      obtain ⟨y, hy⟩ : ∃ y, kf (ost na fa ln lf band k).2 (bndL na fa ln lf band k) (ost na fa ln lf band k).1.length = y := ⟨_, rfl⟩
      have hyl : y ≤ (ost na fa ln lf band k).1.length := by rw [← hy]; exact kf_le _ _ _
      have hk := kf_spec (ost na fa ln lf band k).2 (bndL na fa ln lf band k) (ost na fa ln lf band k).1.length
      rw [hy] at hk
      have e : ost na fa ln lf band (k + 1) = (ins (ost na fa ln lf band k).1 y (k : Int), ins (ost na fa ln lf band k).2 y (bndL na fa ln lf band k)) := by rw [hs, ht, ← hy]; rfl
      unfold oP at *
      rw [e]
      simp only
      generalize ost na fa ln lf band k = q at *
      obtain ⟨q1, q2⟩ := q
      simp only at ih hr hl hm hyl hk
      generalize bndL na fa ln lf band k = b at *
      have lo : ∀ x, x < y → lt2 (fOf q1 x, fOf q2 x) ((k : Int), b) := fun x hx => by
        have h1 := hm x (by omega)
        have h2 := hk.2 (by omega)
        have h3 : fOf q2 x ≤ fOf q2 (y - 1) := by
          by_cases c : x = y - 1
          · rw [c]; exact Int.le_refl _
          · exact hr x (y - 1) (by omega) (by omega)
        unfold lt2; simp only; omega
      have hi : ∀ x, y ≤ x → x < q2.length → lt2 ((k : Int), b) (fOf q1 x, fOf q2 x) := fun x h1 h2 => .inl (hk.1 x h1 (by omega))
      intro i j _ hij hj
      have hj : j < q1.length + 1 := by rw [← ins_len (l := q1) (k := y) (v := (k : Int))]; exact hj
      show lt2 (fOf (ins q1 y (k : Int)) i, fOf (ins q2 y b) i) (fOf (ins q1 y (k : Int)) j, fOf (ins q2 y b) j)
      rw [fOf_ins (by omega), fOf_ins (by omega), fOf_ins (by omega), fOf_ins (by omega)]
      by_cases c1 : i < y
      · rw [if_pos c1, if_pos c1]
        by_cases c2 : j < y
        · rw [if_pos c2, if_pos c2]; exact ih i j (Nat.zero_le _) hij (by omega)
        · rw [if_neg c2, if_neg c2]
          by_cases c3 : j = y
          · rw [if_pos c3, if_pos c3]; exact lo i c1
          · rw [if_neg c3, if_neg c3]; exact ih i (j - 1) (Nat.zero_le _) (by omega) (by omega)
      · rw [if_neg c1, if_neg c1, if_neg (show ¬ j < y by omega), if_neg (show ¬ j < y by omega), if_neg (show ¬ j = y by omega), if_neg (show ¬ j = y by omega)]
        by_cases c3 : i = y
        · rw [if_pos c3, if_pos c3]; exact hi (j - 1) (by omega) (by omega)
        · rw [if_neg c3, if_neg c3]; exact ih (i - 1) (j - 1) (Nat.zero_le _) (by omega) (by omega)
theorem tks_mem {na : Nat} {ln : Nat → Nat} {band : Int} {k x : Nat} : x ∈ tks na ln band k ↔ x < k ∧ takes na ln band x = true := by unfold tks; simp
theorem tks_up (na : Nat) (ln : Nat → Nat) (band : Int) (k : Nat) (num : Nat → Int) : Up (mP num (tks na ln band k)) 0 (tks na ln band k).length := by
  have hp : (tks na ln band k).Pairwise (· < ·) := List.pairwise_lt_range.filter _
  intro p q _ hpq hq
  have h := List.pairwise_iff_getElem.1 hp p q (by omega) hq hpq
  unfold mP
  simp only [List.getElem?_eq_getElem hq, List.getElem?_eq_getElem (show p < (tks na ln band k).length by omega), Option.getD_some]
  omega
theorem tks_tcnt (na : Nat) (ln : Nat → Nat) (band : Int) : ∀ k, (tks na ln band k).length = tcnt na ln band k
  | 0 => rfl
  | k + 1 => by
    have ih := tks_tcnt na ln band k
    cases h : takes na ln band k with
    | true => rw [tks_yes h, List.length_append, ih]; simp [tcnt, h]
    | false => rw [tks_no h, ih]; simp [tcnt, h]
/-- What is sorted is the document's order. -/
theorem sorted_ost {na : Nat} {fa : Nat → P3} {ln : Nat → Nat} {lf : Nat → Nat → P3} {band : Int} {k : Nat} {d : Nat → P2} (hA : Asc d 0 (tks na ln band k).length) (hS : Same 0 (tks na ln band k).length (mP (bndL na fa ln lf band) (tks na ln band k)) d) :
    (ost na fa ln lf band k).1.length = (tks na ln band k).length ∧ ∀ i, i < (tks na ln band k).length → (d i).1 = fOf (ost na fa ln lf band k).1 i := by
  have hlen : (ost na fa ln lf band k).1.length = (tks na ln band k).length := by rw [ost_cnt, tks_tcnt]
  have hoA := oP_asc na fa ln lf band k
  rw [hlen] at hoA
  have hmp : ∀ i, i < (tks na ln band k).length → ∃ x, x ∈ tks na ln band k ∧ mP (bndL na fa ln lf band) (tks na ln band k) i = ((x : Int), bndL na fa ln lf band x) := fun i hi => ⟨_, List.getElem_mem hi, by unfold mP; rw [List.getElem?_eq_getElem hi]; rfl⟩
  have hop : ∀ j, j < (tks na ln band k).length → ∃ x, x ∈ tks na ln band k ∧ oP na fa ln lf band k j = ((x : Int), bndL na fa ln lf band x) := fun j hj => by
    have hj' : j < (ost na fa ln lf band k).1.length := by omega
    have e0 : fOf (ost na fa ln lf band k).1 j = (ost na fa ln lf band k).1[j] := by unfold fOf; rw [List.getD_eq_getElem?_getD, List.getElem?_eq_getElem hj']; rfl
    obtain ⟨x, h1, h2, h3⟩ := (ost_mem k).1 (List.getElem_mem hj')
    refine ⟨x, tks_mem.2 ⟨h1, h2⟩, ?_⟩
    unfold oP
    rw [e0, h3, ost_map]
    congr 1
    unfold fOf
    rw [List.getD_eq_getElem?_getD, List.getElem?_map, List.getElem?_eq_getElem hj']
    simp [h3]
  have hmb : ∀ x, x ∈ tks na ln band k → ∃ i, i < (tks na ln band k).length ∧ mP (bndL na fa ln lf band) (tks na ln band k) i = ((x : Int), bndL na fa ln lf band x) := fun x hx => by
    obtain ⟨i, hi, e⟩ := List.mem_iff_getElem.1 hx
    exact ⟨i, hi, by unfold mP; rw [List.getElem?_eq_getElem hi, e]; rfl⟩
  have hob : ∀ x, x ∈ tks na ln band k → ∃ j, j < (tks na ln band k).length ∧ oP na fa ln lf band k j = ((x : Int), bndL na fa ln lf band x) := fun x hx => by
    obtain ⟨h1, h2⟩ := tks_mem.1 hx
    obtain ⟨j, hj, e⟩ := List.mem_iff_getElem.1 ((ost_mem (fa := fa) (lf := lf) k).2 ⟨x, h1, h2, rfl⟩)
    obtain ⟨y, hy, e2⟩ := hop j (by omega)
    have e0 : fOf (ost na fa ln lf band k).1 j = (ost na fa ln lf band k).1[j] := by unfold fOf; rw [List.getD_eq_getElem?_getD, List.getElem?_eq_getElem hj]; rfl
    have e3 : (y : Int) = (x : Int) := by rw [← e, ← e0]; exact (congrArg Prod.fst e2).symm
    have e4 : y = x := by omega
    subst e4
    exact ⟨j, by omega, e2⟩
  refine ⟨hlen, fun i hi => ?_⟩
  have := asc_eq hA hoA (fun i hi => by
    obtain ⟨i', -, h2, h3⟩ := hS.into i (Nat.zero_le _) hi
    obtain ⟨x, hx, e⟩ := hmp i' h2
    obtain ⟨j, hj, e2⟩ := hob x hx
    exact ⟨j, hj, by rw [h3, e, e2]⟩) (fun j hj => by
    obtain ⟨x, hx, e⟩ := hop j hj
    obtain ⟨i, hi, e2⟩ := hmb x hx
    obtain ⟨i', -, h2, h3⟩ := hS.back i (Nat.zero_le _) hi
    exact ⟨i', h2, by rw [e, h3, e2]⟩) i hi
  rw [this]; rfl
end Go.Proofs.Ytkcfghbkcgommab.srt

namespace Go.Proofs.Ytkcfghbkcgommab.srt

open Go.ChangeShapes Go.WideShapes Go.ChangeAt Go.RowKit Go.Joins

open Go.Proofs.Ytkcfghbkcgommab.core Go.Proofs.Ytkcfghbkcgommab.rown Go.Proofs.Ytkcfghbkcgommab.stk Go.Proofs.Ytkcfghbkcgommab.boxed Go.Proofs.Ytkcfghbkcgommab.put3 Go.Proofs.Ytkcfghbkcgommab.ft Go.Proofs.Ytkcfghbkcgommab.seq Go.Proofs.Ytkcfghbkcgommab.tab Go.Proofs.Ytkcfghbkcgommab.revQ Go.Proofs.Ytkcfghbkcgommab.env
set_option linter.unusedVariables false
set_option linter.unusedSimpArgs false
set_option maxRecDepth 100000 in
theorem ins0 {c : Nat} (A : Option Addr) (w : World) : Calls Try.prog 57 #[.slice A 0 c, .int .i64 0, .int .i64 0, .func (.func 19) #[] #[]] w fun e w' => e = .returned (.tuple #[]) ∧ w = w' := by
  go_enter Try.func57, Try.ntmps57
  go_wp2
  go_loopw [8] (fun i w' => i = .int .i64 1 ∧ w = w') (fun i _ => 0)
  case atStart => exact ⟨by go_num, rfl⟩
  case round =>
    obtain ⟨rfl, rfl⟩ := hrel
    go_wp2
    all_goals first | go_end0 | refine bodyPost_ret (results_none rfl _ _ _) rfl ?_
    exact ⟨rfl, rfl⟩
set_option maxRecDepth 100000 in
theorem stab0 {c : Nat} (A : Option Addr) (w : World) : Calls Try.prog 39 #[.slice A 0 c, .int .i64 0, .func (.func 19) #[] #[]] w fun e w' => e = .returned (.tuple #[]) ∧ w = w' := by
  have H := Lib.hid (ins0 (c := c) A w)
  go_enter Try.func39, Try.ntmps39
  go_wp2
  go_loopw [7, 8] (fun i j w' => i = .int .i64 0 ∧ j = .int .i64 20 ∧ w = w') (fun i _ _ => 0)
  case atStart => exact ⟨rfl, rfl, rfl⟩
  case round =>
    obtain ⟨rfl, rfl, rfl⟩ := hrel
    go_wp2_with fail
    refine H.out.mono ?_
    rintro _ V ⟨rfl, rfl⟩
    go_wp2
    go_loopw [6] (fun i w' => i = .int .i64 20 ∧ w = w') (fun i _ => 0)
    case atStart => exact ⟨rfl, rfl⟩
    case round =>
      obtain ⟨rfl, rfl⟩ := hrel
      go_wp2
      all_goals first | go_end0 | refine bodyPost_ret (results_none rfl _ _ _) rfl ?_
      exact ⟨rfl, rfl⟩
theorem sort0 {c : Nat} (A : Option Addr) (w : World) : Calls Try.prog 22 #[.slice A 0 c, .func (.func 19) #[] #[]] w fun e w' => e = .returned (.tuple #[]) ∧ w = w' := by
  have H := Lib.hid (stab0 (c := c) A w)
  go_enter Try.func22, Try.ntmps22
  go_wp2_with fail
  refine H.out.mono ?_
  rintro _ V ⟨rfl, rfl⟩
  go_wp2
  all_goals first | go_end0 | refine bodyPost_ret (results_none rfl _ _ _) rfl ?_
  exact ⟨rfl, rfl⟩
theorem sortV {base K : Nat} {v : Value} {m : Nat → P2} {w : World} (h : w.ownsRow base 55 2 v K (rws (sp2 m) K)) (hK : K ≤ 40) (hu : Up m 0 K) (hbw : base ≤ w.heap.size) :
    ∃ A c, v = .slice A K c ∧ Calls Try.prog 22 #[.slice A K c, .func (.func 19) #[] #[]] w fun e w' => e = .returned (.tuple #[]) ∧ ∃ d', Asc d' 0 K ∧ Same 0 K m d' ∧ SpAt w' A K d' ∧ Below base w w' := by
  by_cases h0 : K = 0
  · subst h0
    obtain ⟨A, c, rfl⟩ := own_sl h (by decide)
    refine ⟨A, c, rfl, (sort0 (c := c) A w).mono ?_⟩
    rintro _ w' ⟨rfl, rfl⟩
    exact ⟨rfl, m, fun i j h1 h2 h3 => absurd h3 (by omega), Same.refl _ _ _, fun i hi => absurd hi (by omega), Below.refl _ _⟩
  · have h' := h
    obtain ⟨-, hx⟩ := h
    rcases hx with ⟨-, e⟩ | ⟨g, cap, cur, rfl, hb, -⟩
    · exact absurd e (by
        have := rws_len (sp2_len m) K
        intro e2
        simp_all)
    · refine ⟨some ⟨g, 0, none⟩, cap, rfl, (sortR w hK hu h').mono ?_⟩
      rintro _ w' ⟨rfl, d', a1, a2, a3, a4⟩
      exact ⟨rfl, d', a1, a2, sp_row a3, a4.below (fun x hx => by rw [hx]; exact hb) hbw⟩
set_option maxRecDepth 100000 in
set_option maxHeartbeats 4000000 in
theorem orderI_no {ca cb : Nat} (A B : Option Addr) (na n : Nat) (fa : Nat → P3) (ln : Nat → Nat) (lf : Nat → Nat → P3) (band : Int) (w : World) (ha : na ≤ 1048576) (hn : n ≤ 1048576) (hl : ∀ i, i < n → ln i ≤ 1048576) (pa : PtsAt w A na fa) (pb : LsAt w B n ln lf) (h0 : liC na fa n ln lf band ≠ 0) :
    Calls Try.prog 8 #[.slice A na ca, .slice B n cb, .int .i64 band] w fun e w' => e = .returned (.tuple #[.slice none 0 0, .int .i64 (liC na fa n ln lf band)]) ∧ Below w.heap.size w w' := by
  have HC := Lib.hid (measB_no (ca := ca) (cb := cb) A B na n fa ln lf band w ha hn hl pa pb h0)
  have h12 : liC na fa n ln lf band = 1 ∨ liC na fa n ln lf band = 2 := by have := liC_any na fa n ln lf band; omega
  clear h0 pa pb hl
  rcases h12 with h | h
  all_goals
    rw [h] at HC ⊢
    clear h
    go_enter Try.func8, Try.ntmps8
    go_wp2_with fail
    refine HC.out.mono ?_
    rintro e w1 ⟨rfl, hb1⟩
    have B1 := Lib.hid hb1
    clear hb1
    go_wp2
    go_ret2
    exact ⟨rfl, B1.out⟩
set_option maxRecDepth 100000 in
set_option maxHeartbeats 4000000 in
theorem orderI_yes {ca cb : Nat} (A B : Option Addr) (na n : Nat) (fa : Nat → P3) (ln : Nat → Nat) (lf : Nat → Nat → P3) (band : Int) (w : World) (ha : na ≤ 1048576) (hn : n ≤ 1048576) (hl : ∀ i, i < n → ln i ≤ 1048576) (pa : PtsAt w A na fa) (pb : LsAt w B n ln lf) (h0 : liC na fa n ln lf band = 0) :
    Calls Try.prog 8 #[.slice A na ca, .slice B n cb, .int .i64 band] w fun e w' => ∃ v, e = .returned (.tuple #[v, .int .i64 0]) ∧ w'.ownsRow w.heap.size 2 1 v (ost na fa ln lf band n).1.length (vals (ost na fa ln lf band n).1) ∧ Below w.heap.size w w' := by
  obtain ⟨i0, hi0, hz0, hz1, hz2⟩ := rown.info_get infoJ
  obtain ⟨⟨va, hn40, vl⟩, hbd⟩ := liC_of h0
  obtain ⟨bd, rfl⟩ : ∃ bd : Nat, band = (bd : Int) := ⟨band.toNat, by omega⟩
  have HC := Lib.hid (measB_yes (ca := ca) (cb := cb) A B na n fa ln lf bd (bndL na fa ln lf (bd : Int)) w ha hl pa pb h0 (fun W Ai ci x hx ht hA hB => bounds_all (ca := ca) (cb := cb) h0 W Ai ci x hx ht hA hB))
  have HUP := Lib.hid (tks_up na ln (bd : Int) n (bndL na fa ln lf (bd : Int)))
  have HSO := Lib.hid (fun (d : Nat → P2) hA hS => sorted_ost (na := na) (fa := fa) (ln := ln) (lf := lf) (band := (bd : Int)) (k := n) (d := d) hA hS)
  have hTL := tks_len na ln (bd : Int) n
  generalize (ost na fa ln lf (bd : Int) n).1 = R at *
  generalize mP (bndL na fa ln lf (bd : Int)) (tks na ln (bd : Int) n) = m at *
  generalize hts : (tks na ln (bd : Int) n).length = K at *
  have hK : K ≤ 40 := by omega
  clear hts va vl hbd h0 pa pb hl ha hn hn40 hTL
  go_enter Try.func8, Try.ntmps8
  go_wp2_with fail
  refine HC.out.mono ?_
  rintro e w1 ⟨v0, rfl, hrow, hb1⟩
  obtain ⟨AM, cM, rfl, hsort⟩ := sortV hrow hK HUP.out hb1.size
  have B1 := Lib.hid hb1
  have HS := Lib.hid hsort
  clear hb1 hrow hsort HC
  go_wp2_with fail
  refine HS.out.mono ?_
  rintro e w2 ⟨rfl, d, hA, hS, hsp, hb2⟩
  obtain ⟨hRl, hRv⟩ := HSO.out d hA hS
  have HRL := Lib.hid hRl
  have HRV := Lib.hid hRv
  have HSP := Lib.hid hsp
  have B2 := Lib.hid (B1.out.trans hb2)
  obtain ⟨cur, hmk, hrow⟩ := makeN0 K (by omega) w2
  have BM := Lib.hid (below_alloc1 w2 (.cells cur 2))
  have HR0 := Lib.hid hrow
  clear hb2 hA hS hRl hRv hsp hrow HS HSO
  go_wp2
  go_loopw [10, 30] (fun o i w' => ∃ (x : Nat) (D : Option Addr) (d2 : Nat), x ≤ K ∧ i = .int .i64 (x : Int) ∧ o = .slice D x d2 ∧ Hid (w'.ownsRow w2.heap.size 2 1 (.slice D x d2) x (rws (one fun j => (d j).1) x)) ∧ Hid (Below w2.heap.size w2 w')) (fun _ i _ => K - (intOf i).toNat)
  case atStart => exact ⟨0, _, _, Nat.zero_le _, rfl, rfl, HR0, BM⟩
  case round =>
    obtain ⟨x, D, d2, hx, rfl, rfl, HO, HB⟩ := hrel
    by_cases hlt : x < K
    · have hli : (x : Int) < (K : Int) := by omega
      have hx1 : x + 1 ≤ K := by omega
      have hms : K - (x + 1) < K - x := by omega
      obtain ⟨g, o, rfl, hg, c0, c1⟩ := (HSP.out.kept HB.out) x hlt
      obtain ⟨⟨u, v⟩, hm⟩ : ∃ p, d x = p := ⟨_, rfl⟩
      rw [hm] at c0 c1
      simp only at c0 c1
      have HN := Lib.hid (show rws (one fun j => (d j).1) (x + 1) = rws (one fun j => (d j).1) x ++ [.int .i64 u] by rw [rws_succ]; show _ ++ [Value.int .i64 (d x).1] = _; rw [hm])
      have BA := Lib.hid (below_alloc1 wr (.cells #[.int .i64 u, .int .i64 v] 55))
      have HB2 := Lib.hid (HB.out.trans (BA.out.mono HB.out.size))
      have HO2 := Lib.hid (rown.ownsRow_kept HO.out BA.out)
      have Z3 := Lib.hid (show x + 1 ≤ maxLen by simp only [maxLen]; omega)
      have Z4 := Lib.hid (show (x + 1) * 8 ≤ 140737488355328 by omega)
      have hs2 : (wr.alloc (.cells #[.int .i64 u, .int .i64 v] 55)).heap.size = wr.heap.size + 1 := by simp
      have HS2 := Lib.hid hs2
      clear hs2 hlt hm
      go_wp2_with (first
        | (at_builtin
           have z0 := rown.ownsRow_kept HO2.out (below_alloc1 (wr.alloc (.cells #[.int .i64 u, .int .i64 v] 55)) (.cells #[.int .i64 u] 2))
           have z2 : ∀ q ∈ [Value.int .i64 u], q.oneCell' = true := (by simp [Value.oneCell'])
           have zb : w2.heap.size ≤ (wr.alloc (.cells #[.int .i64 u, .int .i64 v] 55)).heap.size := HB2.out.size
           have z5 : w2.heap.size ≤ ((wr.alloc (.cells #[.int .i64 u, .int .i64 v] 55)).alloc (.cells #[.int .i64 u] 2)).heap.size := (Nat.le_trans zb (by simp))
           refine wpList_append_lies ((wr.alloc (.cells #[.int .i64 u, .int .i64 v] 55)).alloc (.cells #[.int .i64 u] 2)) rfl _ _ 32 rfl w2.heap.size 2 i0 _ 1 8 Try.underlying32 hi0 hz0 hz1 hz2 rfl (by decide) (.slice D x d2) x _ rfl z0 ⟨wr.heap.size + 1, 0, none⟩ 1 1 [.int .i64 u] rfl rfl (one_newW HS2.out) z2 (by decide) Z3.out Z4.out z5 _ rfl ?_
           intro g3 cap3 w5 hown hgr hat hlt3
           have HO5 := Lib.hid hown
           have HB5 := Lib.hid (HB2.out.trans (rown.under HO2.out zb hgr))
           clear hown hgr hat z0 z2 z5 zb HO2 HB2))
      go_wp2
      go_roundw
      case rel => exact ⟨x + 1, some ⟨g3, 0, none⟩, cap3, hx1, by go_num, rfl, Lib.hid (by rw [HN.out]; exact HO5.out), HB5⟩
      case measure => simp [intOf]; omega
    · have hxn : ¬ (x : Int) < (K : Int) := by omega
      obtain rfl : x = K := by omega
      have BB := Lib.hid (B2.out.trans (HB.out.mono B2.out.size))
      have HO2 := Lib.hid (row_low HO.out B2.out.size)
      have HV := Lib.hid (show vals R = rws (one fun j => (d j).1) x by
        rw [vals_rws, HRL.out]
        exact rws_congr x fun i hi => by show [Value.int .i64 (R.getD i 0)] = [Value.int .i64 (d i).1]; rw [HRV.out i hi]; rfl)
      go_wp2
      go_ret2
      exact ⟨_, rfl, by rw [HV.out, HRL.out]; exact HO2.out, BB.out⟩
end Go.Proofs.Ytkcfghbkcgommab.srt
