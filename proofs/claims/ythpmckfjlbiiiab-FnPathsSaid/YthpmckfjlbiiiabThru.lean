/-
  Proved: what the program's function that goes back through the rows returns.
  Conditions: the rows are those of both sequences.
-/
import Derived.Test.YthpmckfjlbiiiabStep
import Derived.Test.YthpmckfjlbiiiabRevQ
import Derived.BigRegion
namespace Go.Proofs.Ythpmckfjlbiiiab.dp
open Go.ChangeShapes Go.WideShapes Go.ChangeAt Go.RowKit Go.Joins
open Go.Proofs.Ythpmckfjlbiiiab.core Go.Proofs.Ythpmckfjlbiiiab.rown Go.Proofs.Ythpmckfjlbiiiab.stk Go.Proofs.Ythpmckfjlbiiiab.boxed Go.Proofs.Ythpmckfjlbiiiab.ft Go.Proofs.Ythpmckfjlbiiiab.seq Go.Proofs.Ythpmckfjlbiiiab.tab Go.Proofs.Ythpmckfjlbiiiab.put3
set_option linter.unusedVariables false
set_option linter.unusedSimpArgs false
/-- The pairs of a path from its end on. -/
def prow (p : Nat → Nat × Nat) (x : Nat) : P2 := (((p x).1 : Int), ((p x).2 : Int))
theorem two_fresh {w : World} {a b : Value} {E H : Nat} (h : w.heap.size = H) : ∀ j u, [a, b][j]? = some u → (w.alloc (.cells #[a, b] E)).cell? ((⟨H, 0, none⟩ : Addr).add j) = some u := by
  subst h
  exact new_cells (l := [a, b])
/-- What the program reads of the rows. -/
abbrev RC (G a ga gb b m : Nat) (D U L : Int) (W : World) : Prop := W.cell? ⟨G, a, none⟩ = some (.slice (some ⟨ga, 0, none⟩) m m) ∧ W.cell? ⟨G, a + 1, none⟩ = some (.slice (some ⟨gb, 0, none⟩) m m) ∧ W.cell? ⟨ga, b, none⟩ = some (.int .i64 D) ∧ W.cell? ⟨ga, b + 1, none⟩ = some (.int .i64 U) ∧ W.cell? ⟨gb, b, none⟩ = some (.int .i64 L)
theorem infoPr2 : (Try.prog.info? 59).map (fun i => (i.zero, i.size, i.bytes)) = some (some (.agg #[.int .i64 0, .int .i64 0]), 2, 16) := by kernel_rfl
theorem under0 {W W' : World} {base n size : Nat} {v : Value} {xs : List Value} {E : TypeId} (hown : W.ownsRow base E size v n xs) (hbz : base ≤ W.heap.size) (hgr : W.grownBy W' v.ownBlock) : Below base W W' := by
  have hz := hgr.size
  refine ⟨hgr.os, hgr.tape, hgr.output, by omega, fun j hj => hgr.block j (by omega) ?_⟩
  intro e
  have := (ownsRow_block hown e.symm).1
  omega
set_option maxRecDepth 100000 in
set_option maxHeartbeats 16000000 in
theorem thruI (G d na nb : Nat) (gs : Nat → Nat) (fa fb : Nat → P3) (band : Int) (w : World) (h0 : 0 ≤ band) (va : okQ na fa = true) (vb : okQ nb fb = true) (hd : absv ((na : Int) - (nb : Int)) ≤ band)
    (hg : ∀ j, j ≤ na → w.cell? ⟨G, j, none⟩ = some (.slice (some ⟨gs j, 0, none⟩) (nb + 1) (nb + 1))) (hrow : ∀ j, j ≤ na → rowAt w (gs j) nb (lrow fa fb band st0 j)) :
    Calls Try.prog 64 #[.slice (some ⟨G, 0, none⟩) (na + 1) d] w fun e w' => ∃ s g dd, e = .returned (.slice (some ⟨g, 0, none⟩) (s + 1) dd) ∧ pos fa fb band (na - 1, nb - 1) s = (0, 0) ∧ (∀ t, t < s → pos fa fb band (na - 1, nb - 1) t ≠ (0, 0)) ∧ s ≤ 142 ∧ w'.ownsRow w.heap.size 59 2 (.slice (some ⟨g, 0, none⟩) (s + 1) dd) (s + 1) (rws (sp2 fun j => prow (pos fa fb band (na - 1, nb - 1)) (s - j)) (s + 1)) ∧ Below w.heap.size w w' := by
  obtain ⟨i0, hi0, hz0, hz1, hz2⟩ := rown.info_get infoPr2
  obtain ⟨a1, a2, a3⟩ := okQ_of va
  obtain ⟨b1, b2, b3⟩ := okQ_of vb
  have x0 := hg 0 (by omega)
  have hGz := World.block_lt_of_cell? w ⟨G, 0, none⟩ x0
  have hna0 : (0 : Int) < (na : Int) + 1 := by omega
  have hd' : absv (((na - 1 : Nat) : Int) - ((nb - 1 : Nat) : Int)) ≤ band := by
    rw [show ((na - 1 : Nat) : Int) - ((nb - 1 : Nat) : Int) = (na : Int) - (nb : Int) by omega]; exact hd
  have hst : tab fa fb band (na - 1) (nb - 1) ≠ far := by
    have := tab_near a2 b2 a3 b3 (na - 1) (nb - 1) (by omega) (by omega) hd'
    unfold far; omega
  have HSC := Lib.hid (fun (a b : Nat) (hi : a < na) (hj : b < nb) (hab : ¬ (a = 0 ∧ b = 0)) (hf : tab fa fb band a b ≠ far) (D U L M : Int) (hD : D = lrow fa fb band st0 a b) (hU : U = lrow fa fb band st0 a (b + 1)) (hL : L = lrow fa fb band st0 (a + 1) b) (hM : M = min (min D U) L) => step_cases h0 a2 b2 a3 b3 hi hj hab hf hD hU hL hM)
  have HG := Lib.hid hg
  have HRW := Lib.hid hrow
  obtain ⟨p, hp⟩ : ∃ p, pos fa fb band (na - 1, nb - 1) = p := ⟨_, rfl⟩
  have HP0 := Lib.hid (show p 0 = (na - 1, nb - 1) ∧ ∀ s, p (s + 1) = prv fa fb band (p s) by rw [← hp]; exact ⟨rfl, fun _ => rfl⟩)
  have HPV := Lib.hid (fun (a b : Nat) (hab : a ≠ 0 ∨ b ≠ 0) (hf : tab fa fb band a b ≠ far) => prv_ok (fa := fa) (fb := fb) (band := band) (p := (a, b)) hab hf)
  rw [hp]
  have HST := Lib.hid hst
  clear hst
  have M1 : wrap64 (na : Int) = (na : Int) := by rw [← IntWalk.i64_left]; exact IntWalk.i64_in _ (by omega)
  have M2 : wrap64 (nb : Int) = (nb : Int) := by rw [← IntWalk.i64_left]; exact IntWalk.i64_in _ (by omega)
  clear hg hrow va vb hd hd' hp
  go_enter Try.func64, Try.ntmps64
  go_wp2
  refine wp_scope_once 0 (fun a' w' => ∃ (s a b dd : Nat) (Bo : Option Addr), (∃ us : Nat → Value, a'.tmps = #[.slice (some ⟨G, 0, none⟩) (na + 1) d, undef, .slice none 0 0, .int .i64 ((a : Int) + 1), .int .i64 ((b : Int) + 1), .slice Bo s dd, .slice (some ⟨G, 0, none⟩) (na + 1) d, .int .i64 ((na : Int) + 1), .int .i64 (na : Int), .slice (some ⟨G, 0, none⟩) (na + 1) d, .pointer (some ⟨G, 0, none⟩), .slice (some ⟨gs 0, 0, none⟩) (nb + 1) (nb + 1), .int .i64 ((nb : Int) + 1), .int .i64 (nb : Int), us 14, us 15, us 16, us 17, us 18, us 19, us 20, us 21, us 22, us 23, us 24, us 25, us 26, us 27, us 28, us 29, us 30, us 31, us 32, us 33, us 34, us 35, us 36, us 37, us 38, us 39, us 40, us 41, us 42, us 43, us 44, us 45, us 46, us 47, us 48, us 49, us 50, us 51, us 52, us 53, us 54, us 55, us 56, us 57, us 58, us 59, us 60, us 61, us 62, us 63, us 64, us 65, us 66, us 67, us 68, us 69, us 70, us 71, us 72, us 73, us 74, us 75, us 76, us 77, us 78, us 79, us 80, us 81]) ∧ a'.defers = [] ∧ Hid (p s = (a, b) ∧ a < na ∧ b < nb ∧ tab fa fb band a b ≠ far ∧ (∀ t, t < s → p t ≠ (0, 0)) ∧ s + a + b ≤ 142) ∧ Hid (w'.ownsRow w.heap.size 59 2 (.slice Bo s dd) s (rws (sp2 (prow p)) s)) ∧ Hid (Below w.heap.size w w')) (fun a' _ => (intOf (a'.tmps.getD 3 undef)).toNat + (intOf (a'.tmps.getD 4 undef)).toNat) rfl ?_ ?_
  · rintro ⟨tm, df⟩ w0 ⟨s, a, b, dd, Bo, ⟨us, rfl⟩, rfl, HPP, HO, HB⟩
    obtain ⟨hps, ha, hb, -, hmin, hsum⟩ := HPP.out
    clear M1 M2
    have HE := Lib.hid (show (-9223372036854775808 ≤ (a : Int) ∧ (a : Int) ≤ 9223372036854775807) ∧ (-9223372036854775808 ≤ (b : Int) ∧ (b : Int) ≤ 9223372036854775807) by omega)
    have hz := HB.out.size
    have hmn : ∀ t, t < s + 1 → ¬ (a = 0 ∧ b = 0) → p t ≠ (0, 0) := fun t ht hab => by
      rcases Nat.lt_or_ge t s with h | h
      · exact hmin t h
      · obtain rfl : t = s := by omega
        rw [hps]; intro e; injection e with e1 e2; exact hab ⟨e1, e2⟩
    have HMN := Lib.hid hmn
    have HRN := Lib.hid (show rws (sp2 (prow p)) (s + 1) = rws (sp2 (prow p)) s ++ [.int .i64 (a : Int), .int .i64 (b : Int)] by rw [rws_succ]; congr 1; unfold sp2 prow; rw [hps])
    have hmx3 : s + 1 ≤ maxLen := (by simp only [maxLen]; omega)
    have hmx4 : (s + 1) * 16 ≤ 140737488355328 := (by omega)
    clear hmn hmin
    have E1 : wrap64 (a : Int) = (a : Int) := IntWalk.wrap64_in _ HE.out.1
    have E2 : wrap64 (b : Int) = (b : Int) := IntWalk.wrap64_in _ HE.out.2
    have G1 : IntKind.i64.wrap (a : Int) = (a : Int) := IntWalk.i64_in _ HE.out.1
    have G2 : IntKind.i64.wrap (b : Int) = (b : Int) := IntWalk.i64_in _ HE.out.2
    go_wp2_with (at_builtin
                 have z0 := rown.ownsRow_kept HO.out (below_alloc1 w0 (.cells #[.int .i64 (a : Int), .int .i64 (b : Int)] 59))
                 have z2 : ∀ u ∈ [Value.int .i64 (a : Int), Value.int .i64 (b : Int)], u.oneCell' = true := (by simp [Value.oneCell'])
                 have z3 := hmx3
                 have z4 := hmx4
                 have z5 : w.heap.size ≤ (w0.alloc (.cells #[.int .i64 (a : Int), .int .i64 (b : Int)] 59)).heap.size := (Nat.le_trans hz (by simp))
                 refine wpList_append_lies (w0.alloc (.cells #[.int .i64 (a : Int), .int .i64 (b : Int)] 59)) rfl _ _ 51 rfl w.heap.size 59 i0 _ 2 16 Try.underlying51 hi0 hz0 hz1 hz2 rfl (by decide) (.slice Bo s dd) s _ rfl z0 ⟨w0.heap.size, 0, none⟩ 1 1 [.int .i64 (a : Int), .int .i64 (b : Int)] rfl rfl (two_fresh rfl) z2 (by decide) z3 z4 z5 _ rfl ?_
                 intro g3 cap3 w5 hown hgr hat hlt3
                 have HO5 := Lib.hid hown
                 have HB5 := Lib.hid (HB.out.trans ((((below_alloc1 w0 (.cells #[.int .i64 (a : Int), .int .i64 (b : Int)] 59)).mono hz)).trans (under0 z0 z5 hgr)))
                 clear hown hgr hat z0 z2 z3 z4 z5)
    clear E1 E2 G1 G2
    have hw5 := HB5.out
    have hga := HG.out a (by omega)
    have hga1 := HG.out (a + 1) (by omega)
    have hGz5 := World.block_lt_of_cell? w ⟨G, a, none⟩ hga
    have c0 := (hw5.cell (p := ⟨G, a, none⟩) hGz5).trans hga
    have c1 := (hw5.cell (p := ⟨G, a + 1, none⟩) hGz5).trans hga1
    have qD := HRW.out a (by omega) b (by omega)
    have qU := HRW.out a (by omega) (b + 1) (by omega)
    have qL := HRW.out (a + 1) (by omega) b (by omega)
    have gz1 := World.block_lt_of_cell? w ⟨gs a, b, none⟩ qD
    have gz2 := World.block_lt_of_cell? w ⟨gs (a + 1), b, none⟩ qL
    have yD := (hw5.cell (p := ⟨gs a, b, none⟩) gz1).trans qD
    have yU := (hw5.cell (p := ⟨gs a, b + 1, none⟩) gz1).trans qU
    have yL := (hw5.cell (p := ⟨gs (a + 1), b, none⟩) gz2).trans qL
    have gz1' := Nat.lt_of_lt_of_le gz1 hw5.size
    have gz2' := Nat.lt_of_lt_of_le gz2 hw5.size
    have gzG := Nat.lt_of_lt_of_le hGz5 hw5.size
    obtain ⟨D, hD⟩ : ∃ D, D = lrow fa fb band st0 a b := ⟨_, rfl⟩
    obtain ⟨U, hU⟩ : ∃ D, D = lrow fa fb band st0 a (b + 1) := ⟨_, rfl⟩
    obtain ⟨L, hL⟩ : ∃ D, D = lrow fa fb band st0 (a + 1) b := ⟨_, rfl⟩
    obtain ⟨M, hM⟩ : ∃ M, M = min (min D U) L := ⟨_, rfl⟩
    rw [← hD] at yD
    rw [← hU] at yU
    rw [← hL] at yL
    have HDD := Lib.hid hD
    have HUU := Lib.hid hU
    have HLL := Lib.hid hL
    have HMM := Lib.hid hM
    have hmn : ∀ (W : World), (Builtin.min_ #[2, 2, 2] 2 #[.int .i64 D, .int .i64 U, .int .i64 L]).run Try.prog W = .ok (.int .i64 M) W := fun W => by rw [run_min3, hM]
    clear hD hU hL hM
    have i1 : (a : Int) < (na : Int) + 1 := by omega
    have i2 : (a : Int) + 1 < (na : Int) + 1 := by omega
    have i3 : (b : Int) < (nb : Int) + 1 := by omega
    have i4 : (b : Int) + 1 < (nb : Int) + 1 := by omega
    have i5 : (0 : Int) ≤ (a : Int) := by omega
    have i6 : (0 : Int) ≤ (a : Int) + 1 := by omega
    have i7 : (0 : Int) ≤ (b : Int) := by omega
    have i8 : (0 : Int) ≤ (b : Int) + 1 := by omega
    have n1 : a < na + 1 := by omega
    have n2 : a + 1 < na + 1 := by omega
    have n3 : b < nb + 1 := by omega
    have n4 : b + 1 < nb + 1 := by omega
    have i9 : (0 : Int) < (a : Int) + 1 := by omega
    have hor : (a = 0 ∧ b = 0) ∨ ((D = M ∧ a ≠ 0 ∧ b ≠ 0 ∧ prv fa fb band (a, b) = (a - 1, b - 1)) ∨ (D ≠ M ∧ U = M ∧ a ≠ 0 ∧ prv fa fb band (a, b) = (a - 1, b)) ∨ (D ≠ M ∧ U ≠ M ∧ b ≠ 0 ∧ prv fa fb band (a, b) = (a, b - 1))) := by
      by_cases hab : a = 0 ∧ b = 0
      · exact .inl hab
      · exact .inr (HSC.out a b ha hb hab HPP.out.2.2.2.1 D U L M HDD.out HUU.out HLL.out HMM.out)
    clear hga hga1 qD qU qL gz1 gz2 hGz5 hw5
    rcases hor with ⟨ha0, hb0⟩ | ⟨hDM, ha0, hb0, hpv⟩ | ⟨hDM, hUM, ha0, hpv⟩ | ⟨hDM, hUM, hb0, hpv⟩
    · have hDM : D = M := by
        rw [HMM.out, HDD.out, HUU.out, HLL.out, ha0, hb0]
        show (0 : Int) = min (min 0 bar) bar
        unfold bar
        omega
      subst hDM
      have HPE := Lib.hid (show p s = (0, 0) by rw [HPP.out.1, ha0, hb0])
      have HS2 := Lib.hid (show s ≤ 142 by omega)
      have ia : ¬ (0 : Int) < (a : Int) := by omega
      have HO6 := Lib.hid (show w5.drew.ownsRow w.heap.size 59 2 (.slice (some ⟨g3, 0, none⟩) (s + 1) cap3) (s + 1) (rws (sp2 (prow p)) (s + 1)) by rw [HRN.out]; exact rown.ownsRow_kept HO5.out (Below.refl _ _).drew)
      have HREV := Lib.hid (revQ.rev_calls (N := s) w5.drew (by omega) HO6.out)
      have hbg := Lib.hid ((ownsRow_block HO6.out (g := g3) rfl).1)
      clear hsum ha hb hps ha0 hb0
      have E1 : wrap64 (a : Int) = (a : Int) := IntWalk.wrap64_in _ HE.out.1
      have E2 : wrap64 (b : Int) = (b : Int) := IntWalk.wrap64_in _ HE.out.2
      have G1 : IntKind.i64.wrap (a : Int) = (a : Int) := IntWalk.i64_in _ HE.out.1
      have G2 : IntKind.i64.wrap (b : Int) = (b : Int) := IntWalk.i64_in _ HE.out.2
      have hk : RC G a (gs a) (gs (a + 1)) b (nb + 1) D U L w5.drew := ⟨c0, c1, yD, yU, yL⟩
      go_region_held3 (fun W => W.cell? ⟨G, a, none⟩ = some (.slice (some ⟨gs a, 0, none⟩) (nb + 1) (nb + 1)) ∧ W.cell? ⟨G, a + 1, none⟩ = some (.slice (some ⟨gs (a + 1), 0, none⟩) (nb + 1) (nb + 1)) ∧ W.cell? ⟨gs a, b, none⟩ = some (.int .i64 D) ∧ W.cell? ⟨gs a, b + 1, none⟩ = some (.int .i64 U) ∧ W.cell? ⟨gs (a + 1), b, none⟩ = some (.int .i64 L)) (first | assumption | exact hk | go_keep) (first | fail)
      all_goals
        go_wp2_with fail
        refine HREV.out.mono ?_
        rintro e w9 ⟨rfl, ho9, hf9⟩
        have HO9 := Lib.hid ho9
        have HB9 := Lib.hid (HB5.out.drew.trans (hf9.below (fun x hx => by subst hx; exact hbg.out) HB5.out.drew.size))
        clear ho9 hf9
        go_wp2
        simp only [Exit.jump]
        go_ret
        exact ⟨s, g3, cap3, rfl, HPE.out, HPP.out.2.2.2.2.1, HS2.out, HO9.out, HB9.out⟩
    · subst hDM
      have HNX := Lib.hid (show p (s + 1) = (a - 1, b - 1) by rw [HP0.out.2, HPP.out.1, hpv])
      have hq := HPV.out a b (.inl ha0) HPP.out.2.2.2.1
      rw [hpv] at hq
      have HNF := Lib.hid hq.1
      have HAB := Lib.hid (show a - 1 < na ∧ b - 1 < nb ∧ s + 1 + (a - 1) + (b - 1) ≤ 142 ∧ ((a - 1 : Nat) : Int) + 1 = (a : Int) ∧ ((b - 1 : Nat) : Int) + 1 = (b : Int) by omega)
      have ia : (0 : Int) < (a : Int) := by omega
      have ian : 0 < a := by omega
      have iad : decide ((0 : Int) < (a : Int)) = true := decide_eq_true ia
      have HM2 := Lib.hid (show ∀ t, t < s + 1 → p t ≠ (0, 0) from fun t ht => HMN.out t ht (fun h => ha0 h.1))
      clear hpv hq hsum ha hb hps
      have E1 : wrap64 (a : Int) = (a : Int) := IntWalk.wrap64_in _ HE.out.1
      have E2 : wrap64 (b : Int) = (b : Int) := IntWalk.wrap64_in _ HE.out.2
      have G1 : IntKind.i64.wrap (a : Int) = (a : Int) := IntWalk.i64_in _ HE.out.1
      have G2 : IntKind.i64.wrap (b : Int) = (b : Int) := IntWalk.i64_in _ HE.out.2
      have hk : RC G a (gs a) (gs (a + 1)) b (nb + 1) D U L w5.drew := ⟨c0, c1, yD, yU, yL⟩
      go_region_held3 (fun W => W.cell? ⟨G, a, none⟩ = some (.slice (some ⟨gs a, 0, none⟩) (nb + 1) (nb + 1)) ∧ W.cell? ⟨G, a + 1, none⟩ = some (.slice (some ⟨gs (a + 1), 0, none⟩) (nb + 1) (nb + 1)) ∧ W.cell? ⟨gs a, b, none⟩ = some (.int .i64 D) ∧ W.cell? ⟨gs a, b + 1, none⟩ = some (.int .i64 U) ∧ W.cell? ⟨gs (a + 1), b, none⟩ = some (.int .i64 L)) (first | assumption | exact hk | go_keep) (first | fail)
      all_goals
        go_wp2
        go_step3
        refine ⟨rfl, ⟨s + 1, a - 1, b - 1, cap3, some ⟨g3, 0, none⟩, mk_us ?_, rfl, Lib.hid ⟨HNX.out, HAB.out.1, HAB.out.2.1, HNF.out, HM2.out, HAB.out.2.2.1⟩, Lib.hid (by rw [HRN.out]; exact rown.ownsRow_kept HO5.out (Below.refl _ _).drew), Lib.hid HB5.out.drew⟩, ?_⟩
        · rw [HAB.out.2.2.2.1, HAB.out.2.2.2.2]; rfl
        · clear E1 E2 G1 G2; first | (simp [intOf]; done) | (simp [intOf]; omega)
    · subst hUM
      have hne : ¬ U = D := fun h => hDM h.symm
      have HNX := Lib.hid (show p (s + 1) = (a - 1, b) by rw [HP0.out.2, HPP.out.1, hpv])
      have hq := HPV.out a b (.inl ha0) HPP.out.2.2.2.1
      rw [hpv] at hq
      have HNF := Lib.hid hq.1
      have HAB := Lib.hid (show a - 1 < na ∧ b < nb ∧ s + 1 + (a - 1) + (b) ≤ 142 ∧ ((a - 1 : Nat) : Int) + 1 = (a : Int) by omega)
      have ia : (0 : Int) < (a : Int) := by omega
      have ian : 0 < a := by omega
      have iad : decide ((0 : Int) < (a : Int)) = true := decide_eq_true ia
      have HM2 := Lib.hid (show ∀ t, t < s + 1 → p t ≠ (0, 0) from fun t ht => HMN.out t ht (fun h => ha0 h.1))
      clear hpv hq hsum ha hb hps
      have E1 : wrap64 (a : Int) = (a : Int) := IntWalk.wrap64_in _ HE.out.1
      have E2 : wrap64 (b : Int) = (b : Int) := IntWalk.wrap64_in _ HE.out.2
      have G1 : IntKind.i64.wrap (a : Int) = (a : Int) := IntWalk.i64_in _ HE.out.1
      have G2 : IntKind.i64.wrap (b : Int) = (b : Int) := IntWalk.i64_in _ HE.out.2
      have hk : RC G a (gs a) (gs (a + 1)) b (nb + 1) D U L w5.drew := ⟨c0, c1, yD, yU, yL⟩
      go_region_held3 (fun W => W.cell? ⟨G, a, none⟩ = some (.slice (some ⟨gs a, 0, none⟩) (nb + 1) (nb + 1)) ∧ W.cell? ⟨G, a + 1, none⟩ = some (.slice (some ⟨gs (a + 1), 0, none⟩) (nb + 1) (nb + 1)) ∧ W.cell? ⟨gs a, b, none⟩ = some (.int .i64 D) ∧ W.cell? ⟨gs a, b + 1, none⟩ = some (.int .i64 U) ∧ W.cell? ⟨gs (a + 1), b, none⟩ = some (.int .i64 L)) (first | assumption | exact hk | go_keep) (first | fail)
      all_goals
        go_wp2
        go_step3
        refine ⟨rfl, ⟨s + 1, a - 1, b, cap3, some ⟨g3, 0, none⟩, mk_us ?_, rfl, Lib.hid ⟨HNX.out, HAB.out.1, HAB.out.2.1, HNF.out, HM2.out, HAB.out.2.2.1⟩, Lib.hid (by rw [HRN.out]; exact rown.ownsRow_kept HO5.out (Below.refl _ _).drew), Lib.hid HB5.out.drew⟩, ?_⟩
        · rw [HAB.out.2.2.2]; rfl
        · clear E1 E2 G1 G2; first | (simp [intOf]; done) | (simp [intOf]; omega)
    · have hne : ¬ M = D := fun h => hDM h.symm
      have hne2 : ¬ M = U := fun h => hUM h.symm
      have HNX := Lib.hid (show p (s + 1) = (a, b - 1) by rw [HP0.out.2, HPP.out.1, hpv])
      have hq := HPV.out a b (.inr hb0) HPP.out.2.2.2.1
      rw [hpv] at hq
      have HNF := Lib.hid hq.1
      have HAB := Lib.hid (show a < na ∧ b - 1 < nb ∧ s + 1 + (a) + (b - 1) ≤ 142 ∧ ((b - 1 : Nat) : Int) + 1 = (b : Int) by omega)
      have ia : (0 : Int) < (a : Int) + 1 := by omega
      have HM2 := Lib.hid (show ∀ t, t < s + 1 → p t ≠ (0, 0) from fun t ht => HMN.out t ht (fun h => hb0 h.2))
      clear hpv hq hsum ha hb hps
      have E1 : wrap64 (a : Int) = (a : Int) := IntWalk.wrap64_in _ HE.out.1
      have E2 : wrap64 (b : Int) = (b : Int) := IntWalk.wrap64_in _ HE.out.2
      have G1 : IntKind.i64.wrap (a : Int) = (a : Int) := IntWalk.i64_in _ HE.out.1
      have G2 : IntKind.i64.wrap (b : Int) = (b : Int) := IntWalk.i64_in _ HE.out.2
      have hk : RC G a (gs a) (gs (a + 1)) b (nb + 1) D U L w5.drew := ⟨c0, c1, yD, yU, yL⟩
      go_region_held3 (fun W => W.cell? ⟨G, a, none⟩ = some (.slice (some ⟨gs a, 0, none⟩) (nb + 1) (nb + 1)) ∧ W.cell? ⟨G, a + 1, none⟩ = some (.slice (some ⟨gs (a + 1), 0, none⟩) (nb + 1) (nb + 1)) ∧ W.cell? ⟨gs a, b, none⟩ = some (.int .i64 D) ∧ W.cell? ⟨gs a, b + 1, none⟩ = some (.int .i64 U) ∧ W.cell? ⟨gs (a + 1), b, none⟩ = some (.int .i64 L)) (first | assumption | exact hk | go_keep) (first | fail)
      all_goals
        go_wp2
        go_step3
        refine ⟨rfl, ⟨s + 1, a, b - 1, cap3, some ⟨g3, 0, none⟩, mk_us ?_, rfl, Lib.hid ⟨HNX.out, HAB.out.1, HAB.out.2.1, HNF.out, HM2.out, HAB.out.2.2.1⟩, Lib.hid (by rw [HRN.out]; exact rown.ownsRow_kept HO5.out (Below.refl _ _).drew), Lib.hid HB5.out.drew⟩, ?_⟩
        · rw [HAB.out.2.2.2]; rfl
        · clear E1 E2 G1 G2; first | (simp [intOf]; done) | (simp [intOf]; omega)
  · intro H
    go_wp2
    go_region
    go_wp2
    go_step3
    rename_i hK
    refine hK _ _ (H _ _ ?_)
    refine ⟨0, na - 1, nb - 1, 0, none, mk_us ?_, rfl, Lib.hid ⟨HP0.out.1, by omega, by omega, HST.out, fun t ht => absurd ht (by omega), by omega⟩, Lib.hid (World.ownsRow_nil _ _ _ _), Lib.hid (Below.refl _ _).drew⟩
    rw [show ((na - 1 : Nat) : Int) + 1 = (na : Int) by omega, show ((nb - 1 : Nat) : Int) + 1 = (nb : Int) by omega]
    rfl
end Go.Proofs.Ythpmckfjlbiiiab.dp
