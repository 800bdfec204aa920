/-
  Proved: the document's function that traces the path of least cost returns it, in memory of its own.
  Conditions: both lists are sequences and the band holds their ends.
-/
import Derived.Test.YthpmckfjlbiiiaaTab
import Derived.Test.YthpmckfjlbiiiaaTrcE
namespace Go.Proofs.Ythpmckfjlbiiiaa.tab
open Go.ChangeShapes Go.WideShapes Go.ChangeAt Go.RowKit Go.Joins
open Go.Proofs.Ythpmckfjlbiiiaa.core Go.Proofs.Ythpmckfjlbiiiaa.rown Go.Proofs.Ythpmckfjlbiiiaa.stk Go.Proofs.Ythpmckfjlbiiiaa.boxed Go.Proofs.Ythpmckfjlbiiiaa.ft Go.Proofs.Ythpmckfjlbiiiaa.seq Go.Proofs.Ythpmckfjlbiiiaa.put3
set_option linter.unusedVariables false
set_option linter.unusedSimpArgs false
theorem infoPr : (Try.prog.info? 113).map (fun i => (i.zero, i.size, i.bytes)) = some (some (.agg #[.int .i64 0, .int .i64 0]), 2, 16) := by kernel_rfl
theorem under0 {W W' : World} {base n size : Nat} {v : Value} {xs : List Value} {E : TypeId} (hown : W.ownsRow base E size v n xs) (hbz : base ≤ W.heap.size) (hgr : W.grownBy W' v.ownBlock) : Below base W W' := by
  have hz := hgr.size
  refine ⟨hgr.os, hgr.tape, hgr.output, by omega, fun j hj => hgr.block j (by omega) ?_⟩
  intro e
  have := (ownsRow_block hown e.symm).1
  omega
theorem near_ne {fa fb : Nat → P3} {band : Int} {n m i j : Nat} (hn : n ≤ 72) (hm : m ≤ 72) (ha : ∀ i, i < n → inF (fa i) = true) (hb : ∀ j, j < m → inF (fb j) = true) (hi : i < n) (hj : j < m) (hd : absv ((i : Int) - (j : Int)) ≤ band) : tab fa fb band i j ≠ far := by
  have h := tab_near hn hm ha hb i j hi hj hd
  have hf : far = 1000000000 := rfl
  omega
theorem trow_one (p : Nat → Nat × Nat) (s : Nat) : ∀ n, ∀ u ∈ rws (trow p s) n, u.oneCell' = true
  | 0, u, h => by simp [rws] at h
  | n + 1, u, h => by
    rw [rws_succ] at h
    rcases List.mem_append.1 h with h | h
    · exact trow_one p s n u h
    · unfold trow at h
      simp at h
      rcases h with rfl | rfl <;> rfl
set_option maxRecDepth 100000 in
set_option maxHeartbeats 16000000 in
theorem traceS {ca cb : Nat} (A B : Option Addr) (na nb : Nat) (fa fb : Nat → P3) (band : Int) (w : World) (pa : PtsAt w A na fa) (pb : PtsAt w B nb fb) (va : okQ na fa = true) (vb : okQ nb fb = true) (hd : absv (((na - 1 : Nat) : Int) - ((nb - 1 : Nat) : Int)) ≤ band) :
    Calls Try.prog 86 #[.slice A na ca, .slice B nb cb, .int .i64 band] w fun e w' => ∃ s v d, e = .returned (.slice v (s + 1) d) ∧ pos fa fb band (na - 1, nb - 1) s = (0, 0) ∧ (∀ t, t < s → pos fa fb band (na - 1, nb - 1) t ≠ (0, 0)) ∧ s ≤ 142 ∧ w'.ownsRow w.heap.size 113 2 (.slice v (s + 1) d) (s + 1) (rws (trow (pos fa fb band (na - 1, nb - 1)) s) (s + 1)) ∧ Below w.heap.size w w' := by
  obtain ⟨i0, hi0, hz0, hz1, hz2⟩ := rown.info_get infoPr
  obtain ⟨a1, a2, a3⟩ := okQ_of va
  obtain ⟨b1, b2, b3⟩ := okQ_of vb
  have HT := Lib.hid (tableS (ca := ca) (cb := cb) A B na nb fa fb band w a2 b2 pa pb a3 b3)
  have HTI := Lib.hid (tab_in (band := band) a3 b3)
  have HTQ := Lib.hid (fun i j (hj : j < nb) => tabQ_at fa fb band (i := i) hj)
  have HRM := Lib.hid (show ∀ i, i < na → i * nb + nb ≤ na * nb from fun i hi => by have := Nat.mul_le_mul_right nb (show i + 1 ≤ na from hi); rwa [Nat.succ_mul] at this)
  have HST := Lib.hid (near_ne a2 b2 a3 b3 (show na - 1 < na by omega) (show nb - 1 < nb by omega) hd)
  have HPA := Lib.hid pa
  have HPB := Lib.hid pb
  have HVA := Lib.hid a3
  have HVB := Lib.hid b3
  have hNb : na * nb ≤ 5184 := Nat.mul_le_mul a2 b2
  obtain ⟨N, hN⟩ : ∃ N, na * nb = N := ⟨_, rfl⟩
  rw [hN] at HT HRM hNb
  obtain ⟨p, hp⟩ : ∃ p, pos fa fb band (na - 1, nb - 1) = p := ⟨_, rfl⟩
  have HP0 := Lib.hid (show p 0 = (na - 1, nb - 1) ∧ ∀ s, p (s + 1) = prv fa fb band (p s) by rw [← hp]; exact ⟨rfl, fun _ => rfl⟩)
  rw [hp]
  clear pa pb va vb hd a3 b3 hN hp
  have H_M1 := Lib.hid (show IntKind.i64.wrap ((na : Int) - 1) = ((na - 1 : Nat) : Int) from by rw [show (na : Int) - 1 = ((na - 1 : Nat) : Int) by omega]; exact IntWalk.i64_in _ (by omega))
  have H_M1q := Lib.hid (show wrap64 ((na : Int) - 1) = ((na - 1 : Nat) : Int) from (IntWalk.i64_left _).symm.trans H_M1.out)
  have H_M2 := Lib.hid (show IntKind.i64.wrap ((nb : Int) - 1) = ((nb - 1 : Nat) : Int) from by rw [show (nb : Int) - 1 = ((nb - 1 : Nat) : Int) by omega]; exact IntWalk.i64_in _ (by omega))
  have H_M2q := Lib.hid (show wrap64 ((nb : Int) - 1) = ((nb - 1 : Nat) : Int) from (IntWalk.i64_left _).symm.trans H_M2.out)
  obtain ⟨na1, hna1⟩ : ∃ x, na - 1 = x := ⟨_, rfl⟩
  obtain ⟨nb1, hnb1⟩ : ∃ x, nb - 1 = x := ⟨_, rfl⟩
  rw [hna1] at H_M1 H_M1q HP0 HST
  rw [hnb1] at H_M2 H_M2q HP0 HST
  have M1 := H_M1.out
  have M1' := H_M1q.out
  have M2 := H_M2.out
  have M2' := H_M2q.out
  have hmx : Try.prog.follows .mixedOrders = true := by kernel_rfl
  go_enter Try.func86, Try.ntmps86
  go_wp2_with fail
  refine HT.out.mono ?_
  rintro e w1 ⟨rfl, ho, hb⟩
  have B1 := Lib.hid hb
  have HTB := Lib.hid ho
  have HPA1 := Lib.hid (HPA.out.kept hb)
  have HPB1 := Lib.hid (HPB.out.kept hb)
  clear ho hb HT HPA HPB
  go_wp2
  clear M1 M1' M2 M2'
  go_loopw [9, 10, 11] (fun x y o w' => ∃ s a b g d : Nat, p s = (a, b) ∧ a ≤ na1 ∧ b ≤ nb1 ∧ s + a + b ≤ na1 + nb1 ∧ x = .int .i64 (a : Int) ∧ y = .int .i64 (b : Int) ∧ o = .slice (some ⟨g, 0, none⟩) (s + 1) d ∧ Hid (tab fa fb band a b ≠ far ∧ ∀ t, t < s → p t ≠ (0, 0)) ∧ Hid (w'.ownsRow w1.heap.size 113 2 (.slice (some ⟨g, 0, none⟩) (s + 1) d) (s + 1) (rws (trow p s) (s + 1))) ∧ Hid (Below w1.heap.size w1 w')) (fun x y _ _ => (intOf x).toNat + (intOf y).toNat)
  case atStart => exact ⟨0, na1, nb1, w1.heap.size, 1, HP0.out.1, Nat.le_refl _, Nat.le_refl _, by omega, rfl, rfl, rfl, Lib.hid ⟨HST.out, fun t ht => absurd ht (by omega)⟩, Lib.hid (by rw [show rws (trow p 0) (0 + 1) = [.int .i64 (na1 : Int), .int .i64 (nb1 : Int)] by simp [rws, trow, HP0.out.1]]; exact pair_row _ _ (Nat.le_refl _)), Lib.hid (below_alloc1 _ _)⟩
  case round =>
    obtain ⟨s, a, b, g, d, hps, han, hbn, hsum, rfl, rfl, rfl, HNF, HO, HB⟩ := hrel
    by_cases hz : a = 0 ∧ b = 0
    · obtain ⟨rfl, rfl⟩ := hz
      go_wp2
      go_ret
      exact ⟨s, _, _, rfl, hps, HNF.out.2, by omega, row_low HO.out B1.out.size, B1.out.trans (HB.out.mono B1.out.size)⟩
    have hbef := bef_of (fa := fa) (fb := fb) (band := band) (i := a) (j := b) (by omega) HNF.out.1
    have HBEF := Lib.hid hbef.2
    clear hbef
    have HPS := Lib.hid (show p (s + 1) = prv fa fb band (a, b) by rw [HP0.out.2, hps])
    have HNX := Lib.hid (show tab fa fb band (prv fa fb band (a, b)).1 (prv fa fb band (a, b)).2 ≠ far from (prv_ok (p := (a, b)) (by simp only; omega) HNF.out.1).1)
    have HMN := Lib.hid (show ∀ t, t < s + 1 → p t ≠ (0, 0) from fun t ht => by
      rcases Nat.lt_or_ge t s with h | h
      · exact HNF.out.2 t h
      · obtain rfl : t = s := by omega
        rw [hps]; intro e; injection e with e1 e2; exact hz ⟨e1, e2⟩)
    have HRO := Lib.hid (trow_next p s)
    rw [HPS.out] at HRO
    have hPN := HRM.out a (by omega)
    have HTP := Lib.hid (show ∀ j, j < nb → tabQ fa fb band nb (a * nb + j) = tab fa fb band a j from fun j hj => HTQ.out a j hj)
    have HTO := Lib.hid (show a ≠ 0 → nb ≤ a * nb ∧ (∀ j, j < nb → tabQ fa fb band nb (a * nb - nb + j) = tab fa fb band (a - 1) j) from fun h => by
      obtain ⟨x, rfl⟩ : ∃ x, a = x + 1 := ⟨a - 1, by omega⟩
      rw [Nat.succ_mul, Nat.add_sub_cancel, Nat.add_sub_cancel]
      exact ⟨by omega, fun j hj => HTQ.out x j hj⟩)
    have hPI : (a : Int) * (nb : Int) = ((a * nb : Nat) : Int) := by push_cast; rfl
    obtain ⟨P, hP⟩ : ∃ P, a * nb = P := ⟨_, rfl⟩
    rw [hP] at hPN HTP HTO hPI
    obtain ⟨I, hI⟩ : ∃ I : Int, (a : Int) = I := ⟨_, rfl⟩
    obtain ⟨J, hJ⟩ : ∃ J : Int, (b : Int) = J := ⟨_, rfl⟩
    have HI := Lib.hid hI
    have HJ := Lib.hid hJ
    obtain ⟨q, hq⟩ : ∃ q, P + b = q := ⟨_, rfl⟩
    have hqN : q < N := by omega
    have hqi : (q : Int) < (N : Int) := by omega
    have hq0 : (0 : Int) ≤ (q : Int) := by omega
    have TR := Lib.hid (rown.ownsRow_kept HTB.out HB.out)
    have xq := one_cell TR.out hqN
    rw [← hq, HTP.out b (by omega), hq] at xq
    have HV0 := Lib.hid (HTI.out a b (by omega) (by omega))
    have HCB := Lib.hid (cst_in (HVA.out a (by omega)) (HVB.out b (by omega)))
    have HCC := Lib.hid (fun W => costS (fa a) (fb b) (HVA.out a (by omega)) (HVB.out b (by omega)) W)
    have HBD := Lib.hid (show bef fa fb band a b = tab fa fb band a b - cst (fa a) (fb b) from rfl)
    obtain ⟨ga, oa, rfl, hga, y0, y1, y2⟩ := (HPA1.out.kept HB.out) a (by omega)
    obtain ⟨gb, ob, rfl, hgb, z0, z1, z2⟩ := (HPB1.out.kept HB.out) b (by omega)
    have hia : I.toNat = a := by omega
    have hjb : J.toNat = b := by omega
    rw [← hia] at y0 y1 y2
    rw [← hjb] at z0 z1 z2
    rw [hI] at hPI ⊢
    rw [hJ] at ⊢
    have hix : I < (na : Int) := by omega
    have hjx : J < (nb : Int) := by omega
    have hI0 : 0 ≤ I := by omega
    have hJ0 : 0 ≤ J := by omega
    obtain ⟨pp, hpp⟩ : ∃ x, fa a = x := ⟨_, rfl⟩
    obtain ⟨qq, hqq⟩ : ∃ x, fb b = x := ⟨_, rfl⟩
    rw [hia, hpp, ← hia] at y0 y1 y2
    rw [hjb, hqq, ← hjb] at z0 z1 z2
    rw [hpp, hqq] at HCB HCC HBD
    obtain ⟨C, hC⟩ : ∃ x, cst pp qq = x := ⟨_, rfl⟩
    obtain ⟨V0, hV0⟩ : ∃ x, tab fa fb band a b = x := ⟨_, rfl⟩
    obtain ⟨E, hE⟩ : ∃ x, bef fa fb band a b = x := ⟨_, rfl⟩
    rw [hC] at HCB HCC HBD
    have hcb := HCB.out
    rw [hV0] at HV0 xq HBD
    have hv0 := HV0.out
    rw [hE] at HBD HBEF
    have H_A1 := Lib.hid (show IntKind.i64.wrap (I * (nb : Int)) = (P : Int) from by rw [hPI]; exact IntWalk.i64_in _ (by omega))
    have H_A1q := Lib.hid (show wrap64 (I * (nb : Int)) = (P : Int) from (IntWalk.i64_left _).symm.trans H_A1.out)
    have H_A2 := Lib.hid (show IntKind.i64.wrap ((P : Int) + J) = (q : Int) from by rw [show (P : Int) + J = (q : Int) by omega]; exact IntWalk.i64_in _ (by omega))
    have H_A2q := Lib.hid (show wrap64 ((P : Int) + J) = (q : Int) from (IntWalk.i64_left _).symm.trans H_A2.out)
    have hE0 := HBD.out
    have H_A6 := Lib.hid (show IntKind.i64.wrap (V0 - C) = E from by rw [hE0]; exact IntWalk.i64_in _ (by omega))
    have H_A6q := Lib.hid (show wrap64 (V0 - C) = E from (IntWalk.i64_left _).symm.trans H_A6.out)
    by_cases ha0 : a = 0
    · have i2 : decide (0 < I) = false := decide_eq_false (by omega)
      have i3 : ¬ 0 < I := by omega
      have hb0 : b ≠ 0 := fun e => hz ⟨ha0, e⟩
      have j2 : decide (0 < J) = true := decide_eq_true (by omega)
      have j3 : 0 < J := by omega
      obtain ⟨b', hb'⟩ : ∃ x, b - 1 = x := ⟨_, rfl⟩
      have H_D1 := Lib.hid (show IntKind.i64.wrap (J - 1) = (b' : Int) from by rw [show J - 1 = (b' : Int) by omega]; exact IntWalk.i64_in _ (by omega))
      have H_D1q := Lib.hid (show wrap64 (J - 1) = (b' : Int) from (IntWalk.i64_left _).symm.trans H_D1.out)
      have HLE := Lib.hid ha0
      rw [hb'] at HBEF
      have HPV := Lib.hid (show prv fa fb band (a, b) = (a, b') from (prv_left (.inl ha0)).trans (by rw [hb']))
      rw [HPV.out] at HRO HNX HPS
      simp only at HRO HNX
      have xz := rown.row_lt TR.out
      have X0 := cell_kept (a := ⟨w.heap.size, q, none⟩) xz xq
      have Y0 := cell_kept (a := ⟨ga, oa + I.toNat * 3, none⟩) hga y0
      have Y1 := cell_kept (a := ⟨ga, oa + I.toNat * 3 + 1, none⟩) hga y1
      have Y2 := cell_kept (a := ⟨ga, oa + I.toNat * 3 + 2, none⟩) hga y2
      have Z0 := cell_kept (a := ⟨gb, ob + J.toNat * 3, none⟩) hgb z0
      have Z1 := cell_kept (a := ⟨gb, ob + J.toNat * 3 + 1, none⟩) hgb z1
      have Z2 := cell_kept (a := ⟨gb, ob + J.toNat * 3 + 2, none⟩) hgb z2
      have HZR := Lib.hid HB.out.size
      have HSS := Lib.hid hsum
      have HAB := Lib.hid (And.intro han hbn)
      have HNN := Lib.hid (show na1 + nb1 ≤ 142 by omega)
      clear xq y0 y1 y2 z0 z1 z2 xz hga hgb hsum hv0 hcb hPI hE0 hia hjb hI hJ
      have A1 := H_A1.out
      have A1' := H_A1q.out
      have A2 := H_A2.out
      have A2' := H_A2q.out
      have A6 := H_A6.out
      have A6' := H_A6q.out
      have D1 := H_D1.out
      have D1' := H_D1q.out
      go_wp2
      refine wp_region_quiet_kept (by assumption) (by kernel_rfl) ?_
      repeat (first | go_big_quiet_step (((go_at_call 101; with_reducible exact Calls.kept_of (HCC.out _)))) | quiet_step (((go_at_call 101; with_reducible exact Calls.kept_of (HCC.out _)))))
      refine wpQuiet_nil ?_
      intro w7 hw'
      have hB7 : Below wr.heap.size wr w7 := by obtain ⟨⟨wk, hb0⟩, hw''⟩ := hw'; rw [hw'']; exact hb0
      have HB7 := Lib.hid (HB.out.trans (hB7.mono HB.out.size))
      have HO7 := Lib.hid (rown.ownsRow_kept HO.out hB7)
      have T7 := Lib.hid (rown.ownsRow_kept TR.out hB7)
      clear hw' hB7 X0 Y0 Y1 Y2 Z0 Z1 Z2
      skip
      go_wp2_with (at_builtin
                   have z0 := pair_row (w := w7) (base := w1.heap.size) (E := 113) (.int .i64 I) (.int .i64 (b' : Int)) (HB7.out.size)
                   have zn : ∀ j u, (rws (trow p s) (s + 1))[j]? = some u → (w7.alloc (.cells #[.int .i64 I, .int .i64 (b' : Int)] 113)).cell? ((⟨g, 0, none⟩ : Addr).add j) = some u := fun j u hj => (rown.ownsRow_kept HO7.out (below_alloc1 w7 _)).cells (g := g) rfl j u hj
                   have zl : (rws (trow p s) (s + 1)).length = (s + 1) * 2 := rws_len (trow_len p s) (s + 1)
                   have z3 : 1 + (s + 1) ≤ maxLen := (by have := HSS.out; have := HNN.out; simp only [maxLen]; omega)
                   have z4 : (1 + (s + 1)) * 16 ≤ 140737488355328 := (by have := HSS.out; have := HNN.out; omega)
                   have z5 : w1.heap.size ≤ (w7.alloc (.cells #[.int .i64 I, .int .i64 (b' : Int)] 113)).heap.size := (Nat.le_trans HB7.out.size (by simp))
                   refine wpList_append_lies (w7.alloc (.cells #[.int .i64 I, .int .i64 (b' : Int)] 113)) rfl _ _ 65 rfl w1.heap.size 113 i0 _ 2 16 Try.underlying65 hi0 hz0 hz1 hz2 rfl (by decide) (.slice (some ⟨w7.heap.size, 0, none⟩) 1 1) 1 _ rfl z0 ⟨g, 0, none⟩ (s + 1) d (rws (trow p s) (s + 1)) rfl zl zn (trow_one p s (s + 1)) (Nat.succ_pos s) z3 z4 z5 _ rfl ?_
                   intro g3 cap3 w8 hown hgr hat hlt3
                   rw [show 1 + (s + 1) = s + 1 + 1 by omega] at hown ⊢
                   have HO8 := Lib.hid hown
                   have HB8 := Lib.hid (HB7.out.trans (((below_alloc1 w7 (.cells #[.int .i64 I, .int .i64 (b' : Int)] 113)).mono HB7.out.size).trans (under0 z0 z5 hgr)))
                   clear hown hgr hat z0 zn zl z3 z4 z5)
      go_roundw
      case rel => exact ⟨s + 1, a, b', g3, cap3, HPS.out, by have := HAB.out; omega, by have := HAB.out; omega, by have := HSS.out; omega, by first | rfl | rw [HI.out], by first | rfl | rw [HJ.out], rfl, Lib.hid ⟨HNX.out, HMN.out⟩, Lib.hid (by rw [HRO.out]; first | exact HO8.out | (rw [HI.out]; exact HO8.out) | (rw [HJ.out]; exact HO8.out)), HB8⟩
      case measure => (have := HI.out; have := HJ.out; simp [intOf]; omega)
    · have i2 : decide (0 < I) = true := decide_eq_true (by omega)
      have i3 : 0 < I := by omega
      obtain ⟨hPb, hTO⟩ := HTO.out ha0
      obtain ⟨a', ha'⟩ : ∃ x, a - 1 = x := ⟨_, rfl⟩
      obtain ⟨P1, hP1⟩ : ∃ x, P - nb = x := ⟨_, rfl⟩
      have H_C1 := Lib.hid (show IntKind.i64.wrap (I - 1) = (a' : Int) from by rw [show I - 1 = (a' : Int) by omega]; exact IntWalk.i64_in _ (by omega))
      have H_C1q := Lib.hid (show wrap64 (I - 1) = (a' : Int) from (IntWalk.i64_left _).symm.trans H_C1.out)
      have hB2 : (a' : Int) * (nb : Int) = (P1 : Int) := by rw [show (a' : Int) = I - 1 by omega, Int.sub_mul, hPI, Int.one_mul]; omega
      have H_C2 := Lib.hid (show IntKind.i64.wrap ((a' : Int) * (nb : Int)) = (P1 : Int) from by rw [hB2]; exact IntWalk.i64_in _ (by omega))
      have H_C2q := Lib.hid (show wrap64 ((a' : Int) * (nb : Int)) = (P1 : Int) from (IntWalk.i64_left _).symm.trans H_C2.out)
      obtain ⟨r, hr⟩ : ∃ x, P1 + b = x := ⟨_, rfl⟩
      have hrN : r < N := by omega
      have hri : (r : Int) < (N : Int) := by omega
      have hr0 : (0 : Int) ≤ (r : Int) := by omega
      have H_C3 := Lib.hid (show IntKind.i64.wrap ((P1 : Int) + J) = (r : Int) from by rw [show (P1 : Int) + J = (r : Int) by omega]; exact IntWalk.i64_in _ (by omega))
      have H_C3q := Lib.hid (show wrap64 ((P1 : Int) + J) = (r : Int) from (IntWalk.i64_left _).symm.trans H_C3.out)
      have HR2 := Lib.hid (show tabQ fa fb band nb r = tab fa fb band (a - 1) b by rw [← hr, ← hP1]; exact hTO b (by omega))
      have HRN := Lib.hid hrN
      by_cases hb0 : b = 0
      · have j2 : decide (0 < J) = false := decide_eq_false (by omega)
        have j3 : ¬ 0 < J := by omega
        have hup : tab fa fb band (a - 1) b = E := by
          rcases HBEF.out with ⟨_, h, _⟩ | ⟨_, h⟩ | ⟨h, _⟩
          · exact absurd hb0 h
          · exact h
          · exact absurd hb0 h
        have HUP := Lib.hid hup
        clear hB2 hP1 hPb hr hTO
        have HPV := Lib.hid (show prv fa fb band (a, b) = (a', b) from (prv_up ha0 (.inl hb0) (hup.trans hE.symm)).trans (by rw [ha']))
        rw [HPV.out] at HRO HNX HPS
        simp only at HRO HNX
        have xz := rown.row_lt TR.out
        have X0 := cell_kept (a := ⟨w.heap.size, q, none⟩) xz xq
        have Y0 := cell_kept (a := ⟨ga, oa + I.toNat * 3, none⟩) hga y0
        have Y1 := cell_kept (a := ⟨ga, oa + I.toNat * 3 + 1, none⟩) hga y1
        have Y2 := cell_kept (a := ⟨ga, oa + I.toNat * 3 + 2, none⟩) hga y2
        have Z0 := cell_kept (a := ⟨gb, ob + J.toNat * 3, none⟩) hgb z0
        have Z1 := cell_kept (a := ⟨gb, ob + J.toNat * 3 + 1, none⟩) hgb z1
        have Z2 := cell_kept (a := ⟨gb, ob + J.toNat * 3 + 2, none⟩) hgb z2
        have HZR := Lib.hid HB.out.size
        have HSS := Lib.hid hsum
        have HAB := Lib.hid (And.intro han hbn)
        have HNN := Lib.hid (show na1 + nb1 ≤ 142 by omega)
        clear xq y0 y1 y2 z0 z1 z2 xz hga hgb hsum hv0 hcb hPI hE0 hia hjb hI hJ
        have A1 := H_A1.out
        have A1' := H_A1q.out
        have A2 := H_A2.out
        have A2' := H_A2q.out
        have A6 := H_A6.out
        have A6' := H_A6q.out
        have C1 := H_C1.out
        have C1' := H_C1q.out
        have C2 := H_C2.out
        have C2' := H_C2q.out
        have C3 := H_C3.out
        have C3' := H_C3q.out
        go_wp2
        refine wp_region_quiet_kept (by assumption) (by kernel_rfl) ?_
        repeat (first | go_big_quiet_step (((go_at_call 101; with_reducible exact Calls.kept_of (HCC.out _)))) | quiet_step (((go_at_call 101; with_reducible exact Calls.kept_of (HCC.out _)))))
        refine wpQuiet_nil ?_
        intro w7 hw'
        have hB7 : Below wr.heap.size wr w7 := by obtain ⟨⟨wk, hb0⟩, hw''⟩ := hw'; rw [hw'']; exact hb0
        have HB7 := Lib.hid (HB.out.trans (hB7.mono HB.out.size))
        have HO7 := Lib.hid (rown.ownsRow_kept HO.out hB7)
        have T7 := Lib.hid (rown.ownsRow_kept TR.out hB7)
        clear hw' hB7 X0 Y0 Y1 Y2 Z0 Z1 Z2
        have x2 : w7.cell? ⟨w.heap.size, r, none⟩ = some (.int .i64 E) := (one_cell T7.out HRN.out).trans (by rw [HR2.out, HUP.out])
        go_wp2_with (at_builtin
                     have z0 := pair_row (w := w7) (base := w1.heap.size) (E := 113) (.int .i64 (a' : Int)) (.int .i64 J) (HB7.out.size)
                     have zn : ∀ j u, (rws (trow p s) (s + 1))[j]? = some u → (w7.alloc (.cells #[.int .i64 (a' : Int), .int .i64 J] 113)).cell? ((⟨g, 0, none⟩ : Addr).add j) = some u := fun j u hj => (rown.ownsRow_kept HO7.out (below_alloc1 w7 _)).cells (g := g) rfl j u hj
                     have zl : (rws (trow p s) (s + 1)).length = (s + 1) * 2 := rws_len (trow_len p s) (s + 1)
                     have z3 : 1 + (s + 1) ≤ maxLen := (by have := HSS.out; have := HNN.out; simp only [maxLen]; omega)
                     have z4 : (1 + (s + 1)) * 16 ≤ 140737488355328 := (by have := HSS.out; have := HNN.out; omega)
                     have z5 : w1.heap.size ≤ (w7.alloc (.cells #[.int .i64 (a' : Int), .int .i64 J] 113)).heap.size := (Nat.le_trans HB7.out.size (by simp))
                     refine wpList_append_lies (w7.alloc (.cells #[.int .i64 (a' : Int), .int .i64 J] 113)) rfl _ _ 65 rfl w1.heap.size 113 i0 _ 2 16 Try.underlying65 hi0 hz0 hz1 hz2 rfl (by decide) (.slice (some ⟨w7.heap.size, 0, none⟩) 1 1) 1 _ rfl z0 ⟨g, 0, none⟩ (s + 1) d (rws (trow p s) (s + 1)) rfl zl zn (trow_one p s (s + 1)) (Nat.succ_pos s) z3 z4 z5 _ rfl ?_
                     intro g3 cap3 w8 hown hgr hat hlt3
                     rw [show 1 + (s + 1) = s + 1 + 1 by omega] at hown ⊢
                     have HO8 := Lib.hid hown
                     have HB8 := Lib.hid (HB7.out.trans (((below_alloc1 w7 (.cells #[.int .i64 (a' : Int), .int .i64 J] 113)).mono HB7.out.size).trans (under0 z0 z5 hgr)))
                     clear hown hgr hat z0 zn zl z3 z4 z5)
        go_roundw
        case rel => exact ⟨s + 1, a', b, g3, cap3, HPS.out, by have := HAB.out; omega, by have := HAB.out; omega, by have := HSS.out; omega, by first | rfl | rw [HI.out], by first | rfl | rw [HJ.out], rfl, Lib.hid ⟨HNX.out, HMN.out⟩, Lib.hid (by rw [HRO.out]; first | exact HO8.out | (rw [HI.out]; exact HO8.out) | (rw [HJ.out]; exact HO8.out)), HB8⟩
        case measure => (have := HI.out; have := HJ.out; simp [intOf]; omega)
      · skip
        have j2 : decide (0 < J) = true := decide_eq_true (by omega)
        have j3 : 0 < J := by omega
        obtain ⟨b', hb'⟩ : ∃ x, b - 1 = x := ⟨_, rfl⟩
        have H_D1 := Lib.hid (show IntKind.i64.wrap (J - 1) = (b' : Int) from by rw [show J - 1 = (b' : Int) by omega]; exact IntWalk.i64_in _ (by omega))
        have H_D1q := Lib.hid (show wrap64 (J - 1) = (b' : Int) from (IntWalk.i64_left _).symm.trans H_D1.out)
        obtain ⟨r1, hr1⟩ : ∃ x, r - 1 = x := ⟨_, rfl⟩
        have hr1N : r1 < N := by omega
        have hr1i : (r1 : Int) < (N : Int) := by omega
        have hr10 : (0 : Int) ≤ (r1 : Int) := by omega
        have H_C4 := Lib.hid (show IntKind.i64.wrap ((r : Int) - 1) = (r1 : Int) from by rw [show (r : Int) - 1 = (r1 : Int) by omega]; exact IntWalk.i64_in _ (by omega))
        have H_C4q := Lib.hid (show wrap64 ((r : Int) - 1) = (r1 : Int) from (IntWalk.i64_left _).symm.trans H_C4.out)
        have HR1 := Lib.hid (show tabQ fa fb band nb r1 = tab fa fb band (a - 1) (b - 1) by rw [show r1 = P - nb + (b - 1) by omega]; exact hTO (b - 1) (by omega))
        have HRN1 := Lib.hid hr1N
        by_cases e1 : tab fa fb band (a - 1) (b - 1) = E
        · have HE1 := Lib.hid e1
          clear hB2 hP1 hPb hr hTO hr1
          have HPV := Lib.hid (show prv fa fb band (a, b) = (a', b') from (prv_diag ha0 hb0 (e1.trans hE.symm)).trans (by rw [ha', hb']))
          rw [HPV.out] at HRO HNX HPS
          simp only at HRO HNX
          have xz := rown.row_lt TR.out
          have X0 := cell_kept (a := ⟨w.heap.size, q, none⟩) xz xq
          have Y0 := cell_kept (a := ⟨ga, oa + I.toNat * 3, none⟩) hga y0
          have Y1 := cell_kept (a := ⟨ga, oa + I.toNat * 3 + 1, none⟩) hga y1
          have Y2 := cell_kept (a := ⟨ga, oa + I.toNat * 3 + 2, none⟩) hga y2
          have Z0 := cell_kept (a := ⟨gb, ob + J.toNat * 3, none⟩) hgb z0
          have Z1 := cell_kept (a := ⟨gb, ob + J.toNat * 3 + 1, none⟩) hgb z1
          have Z2 := cell_kept (a := ⟨gb, ob + J.toNat * 3 + 2, none⟩) hgb z2
          have HZR := Lib.hid HB.out.size
          have HSS := Lib.hid hsum
          have HAB := Lib.hid (And.intro han hbn)
          have HNN := Lib.hid (show na1 + nb1 ≤ 142 by omega)
          clear xq y0 y1 y2 z0 z1 z2 xz hga hgb hsum hv0 hcb hPI hE0 hia hjb hI hJ
          have A1 := H_A1.out
          have A1' := H_A1q.out
          have A2 := H_A2.out
          have A2' := H_A2q.out
          have A6 := H_A6.out
          have A6' := H_A6q.out
          have C1 := H_C1.out
          have C1' := H_C1q.out
          have C2 := H_C2.out
          have C2' := H_C2q.out
          have C3 := H_C3.out
          have C3' := H_C3q.out
          have C4 := H_C4.out
          have C4' := H_C4q.out
          have D1 := H_D1.out
          have D1' := H_D1q.out
          go_wp2
          refine wp_region_quiet_kept (by assumption) (by kernel_rfl) ?_
          repeat (first | go_big_quiet_step (((go_at_call 101; with_reducible exact Calls.kept_of (HCC.out _)))) | quiet_step (((go_at_call 101; with_reducible exact Calls.kept_of (HCC.out _)))))
          refine wpQuiet_nil ?_
          intro w7 hw'
          have hB7 : Below wr.heap.size wr w7 := by obtain ⟨⟨wk, hb0⟩, hw''⟩ := hw'; rw [hw'']; exact hb0
          have HB7 := Lib.hid (HB.out.trans (hB7.mono HB.out.size))
          have HO7 := Lib.hid (rown.ownsRow_kept HO.out hB7)
          have T7 := Lib.hid (rown.ownsRow_kept TR.out hB7)
          clear hw' hB7 X0 Y0 Y1 Y2 Z0 Z1 Z2
          have x1 : w7.cell? ⟨w.heap.size, r1, none⟩ = some (.int .i64 E) := (one_cell T7.out HRN1.out).trans (by rw [HR1.out, HE1.out])
          go_wp2_with (at_builtin
                       have z0 := pair_row (w := w7) (base := w1.heap.size) (E := 113) (.int .i64 (a' : Int)) (.int .i64 (b' : Int)) (HB7.out.size)
                       have zn : ∀ j u, (rws (trow p s) (s + 1))[j]? = some u → (w7.alloc (.cells #[.int .i64 (a' : Int), .int .i64 (b' : Int)] 113)).cell? ((⟨g, 0, none⟩ : Addr).add j) = some u := fun j u hj => (rown.ownsRow_kept HO7.out (below_alloc1 w7 _)).cells (g := g) rfl j u hj
                       have zl : (rws (trow p s) (s + 1)).length = (s + 1) * 2 := rws_len (trow_len p s) (s + 1)
                       have z3 : 1 + (s + 1) ≤ maxLen := (by have := HSS.out; have := HNN.out; simp only [maxLen]; omega)
                       have z4 : (1 + (s + 1)) * 16 ≤ 140737488355328 := (by have := HSS.out; have := HNN.out; omega)
                       have z5 : w1.heap.size ≤ (w7.alloc (.cells #[.int .i64 (a' : Int), .int .i64 (b' : Int)] 113)).heap.size := (Nat.le_trans HB7.out.size (by simp))
                       refine wpList_append_lies (w7.alloc (.cells #[.int .i64 (a' : Int), .int .i64 (b' : Int)] 113)) rfl _ _ 65 rfl w1.heap.size 113 i0 _ 2 16 Try.underlying65 hi0 hz0 hz1 hz2 rfl (by decide) (.slice (some ⟨w7.heap.size, 0, none⟩) 1 1) 1 _ rfl z0 ⟨g, 0, none⟩ (s + 1) d (rws (trow p s) (s + 1)) rfl zl zn (trow_one p s (s + 1)) (Nat.succ_pos s) z3 z4 z5 _ rfl ?_
                       intro g3 cap3 w8 hown hgr hat hlt3
                       rw [show 1 + (s + 1) = s + 1 + 1 by omega] at hown ⊢
                       have HO8 := Lib.hid hown
                       have HB8 := Lib.hid (HB7.out.trans (((below_alloc1 w7 (.cells #[.int .i64 (a' : Int), .int .i64 (b' : Int)] 113)).mono HB7.out.size).trans (under0 z0 z5 hgr)))
                       clear hown hgr hat z0 zn zl z3 z4 z5)
          go_roundw
          case rel => exact ⟨s + 1, a', b', g3, cap3, HPS.out, by have := HAB.out; omega, by have := HAB.out; omega, by have := HSS.out; omega, by first | rfl | rw [HI.out], by first | rfl | rw [HJ.out], rfl, Lib.hid ⟨HNX.out, HMN.out⟩, Lib.hid (by rw [HRO.out]; first | exact HO8.out | (rw [HI.out]; exact HO8.out) | (rw [HJ.out]; exact HO8.out)), HB8⟩
          case measure => (have := HI.out; have := HJ.out; simp [intOf]; omega)
        obtain ⟨V1, hV1⟩ : ∃ x, tab fa fb band (a - 1) (b - 1) = x := ⟨_, rfl⟩
        have HV1 := Lib.hid hV1
        have f1 : (V1 == E) = false := by simp; exact fun h => e1 (hV1.trans h)
        by_cases e2 : tab fa fb band (a - 1) b = E
        · have HE2 := Lib.hid e2
          clear hB2 hP1 hPb hr hTO hr1
          have HPV := Lib.hid (show prv fa fb band (a, b) = (a', b) from (prv_up ha0 (.inr (fun h => e1 (h.trans hE))) (e2.trans hE.symm)).trans (by rw [ha']))
          rw [HPV.out] at HRO HNX HPS
          simp only at HRO HNX
          have xz := rown.row_lt TR.out
          have X0 := cell_kept (a := ⟨w.heap.size, q, none⟩) xz xq
          have Y0 := cell_kept (a := ⟨ga, oa + I.toNat * 3, none⟩) hga y0
          have Y1 := cell_kept (a := ⟨ga, oa + I.toNat * 3 + 1, none⟩) hga y1
          have Y2 := cell_kept (a := ⟨ga, oa + I.toNat * 3 + 2, none⟩) hga y2
          have Z0 := cell_kept (a := ⟨gb, ob + J.toNat * 3, none⟩) hgb z0
          have Z1 := cell_kept (a := ⟨gb, ob + J.toNat * 3 + 1, none⟩) hgb z1
          have Z2 := cell_kept (a := ⟨gb, ob + J.toNat * 3 + 2, none⟩) hgb z2
          have HZR := Lib.hid HB.out.size
          have HSS := Lib.hid hsum
          have HAB := Lib.hid (And.intro han hbn)
          have HNN := Lib.hid (show na1 + nb1 ≤ 142 by omega)
          clear xq y0 y1 y2 z0 z1 z2 xz hga hgb hsum hv0 hcb hPI hE0 hia hjb hI hJ
          have A1 := H_A1.out
          have A1' := H_A1q.out
          have A2 := H_A2.out
          have A2' := H_A2q.out
          have A6 := H_A6.out
          have A6' := H_A6q.out
          have C1 := H_C1.out
          have C1' := H_C1q.out
          have C2 := H_C2.out
          have C2' := H_C2q.out
          have C3 := H_C3.out
          have C3' := H_C3q.out
          have C4 := H_C4.out
          have C4' := H_C4q.out
          have D1 := H_D1.out
          have D1' := H_D1q.out
          go_wp2
          refine wp_region_quiet_kept (by assumption) (by kernel_rfl) ?_
          repeat (first | go_big_quiet_step (((go_at_call 101; with_reducible exact Calls.kept_of (HCC.out _)))) | quiet_step (((go_at_call 101; with_reducible exact Calls.kept_of (HCC.out _)))))
          refine wpQuiet_nil ?_
          intro w7 hw'
          have hB7 : Below wr.heap.size wr w7 := by obtain ⟨⟨wk, hb0⟩, hw''⟩ := hw'; rw [hw'']; exact hb0
          have HB7 := Lib.hid (HB.out.trans (hB7.mono HB.out.size))
          have HO7 := Lib.hid (rown.ownsRow_kept HO.out hB7)
          have T7 := Lib.hid (rown.ownsRow_kept TR.out hB7)
          clear hw' hB7 X0 Y0 Y1 Y2 Z0 Z1 Z2
          have x1 : w7.cell? ⟨w.heap.size, r1, none⟩ = some (.int .i64 V1) := (one_cell T7.out HRN1.out).trans (by rw [HR1.out, HV1.out])
          have x2 : w7.cell? ⟨w.heap.size, r, none⟩ = some (.int .i64 E) := (one_cell T7.out HRN.out).trans (by rw [HR2.out, HE2.out])
          go_wp2_with (at_builtin
                       have z0 := pair_row (w := w7) (base := w1.heap.size) (E := 113) (.int .i64 (a' : Int)) (.int .i64 J) (HB7.out.size)
                       have zn : ∀ j u, (rws (trow p s) (s + 1))[j]? = some u → (w7.alloc (.cells #[.int .i64 (a' : Int), .int .i64 J] 113)).cell? ((⟨g, 0, none⟩ : Addr).add j) = some u := fun j u hj => (rown.ownsRow_kept HO7.out (below_alloc1 w7 _)).cells (g := g) rfl j u hj
                       have zl : (rws (trow p s) (s + 1)).length = (s + 1) * 2 := rws_len (trow_len p s) (s + 1)
                       have z3 : 1 + (s + 1) ≤ maxLen := (by have := HSS.out; have := HNN.out; simp only [maxLen]; omega)
                       have z4 : (1 + (s + 1)) * 16 ≤ 140737488355328 := (by have := HSS.out; have := HNN.out; omega)
                       have z5 : w1.heap.size ≤ (w7.alloc (.cells #[.int .i64 (a' : Int), .int .i64 J] 113)).heap.size := (Nat.le_trans HB7.out.size (by simp))
                       refine wpList_append_lies (w7.alloc (.cells #[.int .i64 (a' : Int), .int .i64 J] 113)) rfl _ _ 65 rfl w1.heap.size 113 i0 _ 2 16 Try.underlying65 hi0 hz0 hz1 hz2 rfl (by decide) (.slice (some ⟨w7.heap.size, 0, none⟩) 1 1) 1 _ rfl z0 ⟨g, 0, none⟩ (s + 1) d (rws (trow p s) (s + 1)) rfl zl zn (trow_one p s (s + 1)) (Nat.succ_pos s) z3 z4 z5 _ rfl ?_
                       intro g3 cap3 w8 hown hgr hat hlt3
                       rw [show 1 + (s + 1) = s + 1 + 1 by omega] at hown ⊢
                       have HO8 := Lib.hid hown
                       have HB8 := Lib.hid (HB7.out.trans (((below_alloc1 w7 (.cells #[.int .i64 (a' : Int), .int .i64 J] 113)).mono HB7.out.size).trans (under0 z0 z5 hgr)))
                       clear hown hgr hat z0 zn zl z3 z4 z5)
          go_roundw
          case rel => exact ⟨s + 1, a', b, g3, cap3, HPS.out, by have := HAB.out; omega, by have := HAB.out; omega, by have := HSS.out; omega, by first | rfl | rw [HI.out], by first | rfl | rw [HJ.out], rfl, Lib.hid ⟨HNX.out, HMN.out⟩, Lib.hid (by rw [HRO.out]; first | exact HO8.out | (rw [HI.out]; exact HO8.out) | (rw [HJ.out]; exact HO8.out)), HB8⟩
          case measure => (have := HI.out; have := HJ.out; simp [intOf]; omega)
        · obtain ⟨V2, hV2⟩ : ∃ x, tab fa fb band (a - 1) b = x := ⟨_, rfl⟩
          have HV2 := Lib.hid hV2
          have f2 : (V2 == E) = false := by simp; exact fun h => e2 (hV2.trans h)
          clear hB2 hP1 hPb hr hTO hr1
          have HPV := Lib.hid (show prv fa fb band (a, b) = (a, b') from (prv_left (.inr ⟨fun h => e1 (h.trans hE), fun h => e2 (h.trans hE)⟩)).trans (by rw [hb']))
          rw [HPV.out] at HRO HNX HPS
          simp only at HRO HNX
          have xz := rown.row_lt TR.out
          have X0 := cell_kept (a := ⟨w.heap.size, q, none⟩) xz xq
          have Y0 := cell_kept (a := ⟨ga, oa + I.toNat * 3, none⟩) hga y0
          have Y1 := cell_kept (a := ⟨ga, oa + I.toNat * 3 + 1, none⟩) hga y1
          have Y2 := cell_kept (a := ⟨ga, oa + I.toNat * 3 + 2, none⟩) hga y2
          have Z0 := cell_kept (a := ⟨gb, ob + J.toNat * 3, none⟩) hgb z0
          have Z1 := cell_kept (a := ⟨gb, ob + J.toNat * 3 + 1, none⟩) hgb z1
          have Z2 := cell_kept (a := ⟨gb, ob + J.toNat * 3 + 2, none⟩) hgb z2
          have HZR := Lib.hid HB.out.size
          have HSS := Lib.hid hsum
          have HAB := Lib.hid (And.intro han hbn)
          have HNN := Lib.hid (show na1 + nb1 ≤ 142 by omega)
          clear xq y0 y1 y2 z0 z1 z2 xz hga hgb hsum hv0 hcb hPI hE0 hia hjb hI hJ
          have A1 := H_A1.out
          have A1' := H_A1q.out
          have A2 := H_A2.out
          have A2' := H_A2q.out
          have A6 := H_A6.out
          have A6' := H_A6q.out
          have C1 := H_C1.out
          have C1' := H_C1q.out
          have C2 := H_C2.out
          have C2' := H_C2q.out
          have C3 := H_C3.out
          have C3' := H_C3q.out
          have C4 := H_C4.out
          have C4' := H_C4q.out
          have D1 := H_D1.out
          have D1' := H_D1q.out
          go_wp2
          refine wp_region_quiet_kept (by assumption) (by kernel_rfl) ?_
          repeat (first | go_big_quiet_step (((go_at_call 101; with_reducible exact Calls.kept_of (HCC.out _)))) | quiet_step (((go_at_call 101; with_reducible exact Calls.kept_of (HCC.out _)))))
          refine wpQuiet_nil ?_
          intro w7 hw'
          have hB7 : Below wr.heap.size wr w7 := by obtain ⟨⟨wk, hb0⟩, hw''⟩ := hw'; rw [hw'']; exact hb0
          have HB7 := Lib.hid (HB.out.trans (hB7.mono HB.out.size))
          have HO7 := Lib.hid (rown.ownsRow_kept HO.out hB7)
          have T7 := Lib.hid (rown.ownsRow_kept TR.out hB7)
          clear hw' hB7 X0 Y0 Y1 Y2 Z0 Z1 Z2
          have x1 : w7.cell? ⟨w.heap.size, r1, none⟩ = some (.int .i64 V1) := (one_cell T7.out HRN1.out).trans (by rw [HR1.out, HV1.out])
          have x2 : w7.cell? ⟨w.heap.size, r, none⟩ = some (.int .i64 V2) := (one_cell T7.out HRN.out).trans (by rw [HR2.out, HV2.out])
          go_wp2_with (at_builtin
                       have z0 := pair_row (w := w7) (base := w1.heap.size) (E := 113) (.int .i64 I) (.int .i64 (b' : Int)) (HB7.out.size)
                       have zn : ∀ j u, (rws (trow p s) (s + 1))[j]? = some u → (w7.alloc (.cells #[.int .i64 I, .int .i64 (b' : Int)] 113)).cell? ((⟨g, 0, none⟩ : Addr).add j) = some u := fun j u hj => (rown.ownsRow_kept HO7.out (below_alloc1 w7 _)).cells (g := g) rfl j u hj
                       have zl : (rws (trow p s) (s + 1)).length = (s + 1) * 2 := rws_len (trow_len p s) (s + 1)
                       have z3 : 1 + (s + 1) ≤ maxLen := (by have := HSS.out; have := HNN.out; simp only [maxLen]; omega)
                       have z4 : (1 + (s + 1)) * 16 ≤ 140737488355328 := (by have := HSS.out; have := HNN.out; omega)
                       have z5 : w1.heap.size ≤ (w7.alloc (.cells #[.int .i64 I, .int .i64 (b' : Int)] 113)).heap.size := (Nat.le_trans HB7.out.size (by simp))
                       refine wpList_append_lies (w7.alloc (.cells #[.int .i64 I, .int .i64 (b' : Int)] 113)) rfl _ _ 65 rfl w1.heap.size 113 i0 _ 2 16 Try.underlying65 hi0 hz0 hz1 hz2 rfl (by decide) (.slice (some ⟨w7.heap.size, 0, none⟩) 1 1) 1 _ rfl z0 ⟨g, 0, none⟩ (s + 1) d (rws (trow p s) (s + 1)) rfl zl zn (trow_one p s (s + 1)) (Nat.succ_pos s) z3 z4 z5 _ rfl ?_
                       intro g3 cap3 w8 hown hgr hat hlt3
                       rw [show 1 + (s + 1) = s + 1 + 1 by omega] at hown ⊢
                       have HO8 := Lib.hid hown
                       have HB8 := Lib.hid (HB7.out.trans (((below_alloc1 w7 (.cells #[.int .i64 I, .int .i64 (b' : Int)] 113)).mono HB7.out.size).trans (under0 z0 z5 hgr)))
                       clear hown hgr hat z0 zn zl z3 z4 z5)
          go_roundw
          case rel => exact ⟨s + 1, a, b', g3, cap3, HPS.out, by have := HAB.out; omega, by have := HAB.out; omega, by have := HSS.out; omega, by first | rfl | rw [HI.out], by first | rfl | rw [HJ.out], rfl, Lib.hid ⟨HNX.out, HMN.out⟩, Lib.hid (by rw [HRO.out]; first | exact HO8.out | (rw [HI.out]; exact HO8.out) | (rw [HJ.out]; exact HO8.out)), HB8⟩
          case measure => (have := HI.out; have := HJ.out; simp [intOf]; omega)
end Go.Proofs.Ythpmckfjlbiiiaa.tab
