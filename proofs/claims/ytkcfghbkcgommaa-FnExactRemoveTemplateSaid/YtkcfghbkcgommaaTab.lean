/-
  Proved: the document's function that fills the table of least costs returns the table, in memory of its own.
  Conditions: both lists are sequences.
-/
import Derived.Test.YtkcfghbkcgommaaTabD
import Derived.Test.YtkcfghbkcgommaaPut
import Derived.StillTailTactics
namespace Go.Proofs.Ytkcfghbkcgommaa.tab
open Go.ChangeShapes Go.WideShapes Go.ChangeAt Go.RowKit Go.Joins
open Go.Proofs.Ytkcfghbkcgommaa.core Go.Proofs.Ytkcfghbkcgommaa.rown Go.Proofs.Ytkcfghbkcgommaa.stk Go.Proofs.Ytkcfghbkcgommaa.boxed Go.Proofs.Ytkcfghbkcgommaa.ft Go.Proofs.Ytkcfghbkcgommaa.seq Go.Proofs.Ytkcfghbkcgommaa.put3
set_option linter.unusedVariables false
set_option linter.unusedSimpArgs false
set_option maxRecDepth 100000 in
set_option maxHeartbeats 16000000 in
theorem tableS {ca cb : Nat} (A B : Option Addr) (na nb : Nat) (fa fb : Nat → P3) (band : Int) (w : World) (h72a : na ≤ 72) (h72b : nb ≤ 72) (pa : PtsAt w A na fa) (pb : PtsAt w B nb fb) (va : ∀ i, i < na → inF (fa i) = true) (vb : ∀ j, j < nb → inF (fb j) = true) :
    Calls Try.prog 117 #[.slice A na ca, .slice B nb cb, .int .i64 band] w fun e w' => e = .returned (.slice (some ⟨w.heap.size, 0, none⟩) (na * nb) (na * nb)) ∧ w'.ownsRow w.heap.size 2 1 (.slice (some ⟨w.heap.size, 0, none⟩) (na * nb) (na * nb)) (na * nb) (rws (one (tabQ fa fb band nb)) (na * nb)) ∧ Below w.heap.size w w' := by
  have HPA := Lib.hid pa
  have HPB := Lib.hid pb
  have HVA := Lib.hid va
  have HVB := Lib.hid vb
  have HTI := Lib.hid (tab_in (band := band) va vb)
  have HTQ := Lib.hid (fun i j (hj : j < nb) => tabQ_at fa fb band (i := i) hj)
  have HRM := Lib.hid (show ∀ i, i < na → i * nb + nb ≤ na * nb from fun i hi => by have := Nat.mul_le_mul_right nb (show i + 1 ≤ na from hi); rwa [Nat.succ_mul] at this)
  clear pa pb va vb
  obtain ⟨N, hN⟩ : ∃ N, na * nb = N := ⟨_, rfl⟩
  have hNb : N ≤ 5184 := by rw [← hN]; exact Nat.mul_le_mul h72a h72b
  have hNI : (na : Int) * (nb : Int) = (N : Int) := by rw [← hN]; push_cast; rfl
  have W0 : IntKind.i64.wrap ((na : Int) * (nb : Int)) = (N : Int) := by rw [hNI]; exact IntWalk.i64_in _ (by omega)
  have W1 : wrap64 ((na : Int) * (nb : Int)) = (N : Int) := by rw [← IntWalk.i64_left]; exact W0
  have HNN := Lib.hid hN
  rw [hN] at HRM ⊢
  clear hN hNI
  obtain ⟨cur, hmk, hrow⟩ := makeN N (by omega) w
  have R0 := Lib.hid hrow
  have B0 := Lib.hid (below_alloc1 w (.cells cur 2))
  clear hrow
  have hmx : Try.prog.follows .mixedOrders = true := by kernel_rfl
  go_enter Try.func117, Try.ntmps117
  go_wp2
  clear hmk W0 W1
  obtain ⟨g, hg⟩ : ∃ g, w.heap.size = g := ⟨_, rfl⟩
  rw [hg] at R0 B0 ⊢
  obtain ⟨w0, hw0⟩ : ∃ v, v = w.alloc (.cells cur 2) := ⟨_, rfl⟩
  rw [← hw0] at R0 B0 ⊢
  have HG := Lib.hid hg
  clear hw0 hg
  go_loopw [10] (fun i w' => ∃ (x : Nat) (c : Nat → Int), x ≤ na ∧ i = .int .i64 (x : Int) ∧ Hid (∀ q, q < x * nb → c q = tabQ fa fb band nb q) ∧ Hid (w'.ownsRow g 2 1 (.slice (some ⟨g, 0, none⟩) N N) N (rws (one c) N)) ∧ Hid (Below g w w')) (fun i _ => na - (intOf i).toNat)
  case atStart => exact ⟨0, fun _ => 0, Nat.zero_le _, rfl, Lib.hid (fun q hq => absurd hq (by omega)), R0, B0⟩
  case round =>
    obtain ⟨i, c0, hi, rfl, HC0, HO0, HB0⟩ := hrel
    by_cases hli : i < na
    · have hPN := HRM.out i hli
      have HTP := Lib.hid (show ∀ j, j < nb → tabQ fa fb band nb (i * nb + j) = tab fa fb band i j from fun j hj => HTQ.out i j hj)
      have HTO := Lib.hid (show i ≠ 0 → nb ≤ i * nb ∧ (∀ j, j < nb → tabQ fa fb band nb (i * nb - nb + j) = tab fa fb band (i - 1) j) from fun h => by
        obtain ⟨x, rfl⟩ : ∃ x, i = x + 1 := ⟨i - 1, by omega⟩
        rw [Nat.succ_mul, Nat.add_sub_cancel, Nat.add_sub_cancel]
        exact ⟨by omega, fun j hj => HTQ.out x j hj⟩)
      have hPI : (i : Int) * (nb : Int) = ((i * nb : Nat) : Int) := by push_cast; rfl
      have HNX := Lib.hid (show (i + 1) * nb = i * nb + nb from Nat.succ_mul _ _)
      obtain ⟨P, hP⟩ : ∃ P, i * nb = P := ⟨_, rfl⟩
      rw [hP] at hPN HTP HTO hPI HNX HC0
      clear hP
      have HII := Lib.hid hli
      have hix : (i : Int) < (na : Int) := by omega
      obtain ⟨I, hI⟩ : ∃ I : Int, (i : Int) = I := ⟨_, rfl⟩
      have HI := Lib.hid hI
      rw [hI] at hPI hix ⊢
      have hI72 : 0 ≤ I ∧ I ≤ 71 := by omega
      have HPI := Lib.hid hPI
      clear hI hPI
      go_wp2
      go_loopw [11] (fun i' w' => ∃ (x : Nat) (c : Nat → Int), x ≤ nb ∧ i' = .int .i64 (x : Int) ∧ Hid (∀ q, q < P + x → c q = tabQ fa fb band nb q) ∧ Hid (w'.ownsRow g 2 1 (.slice (some ⟨g, 0, none⟩) N N) N (rws (one c) N)) ∧ Hid (Below g w w')) (fun i' _ => nb - (intOf i').toNat)
      case atStart => exact ⟨0, c0, Nat.zero_le _, rfl, HC0, HO0, HB0⟩
      case round =>
        obtain ⟨j, c, hj, rfl, HC, HO, HB⟩ := hrel
        by_cases hlj : j < nb
        · clear HC0 HO0 HB0
          have hjx : (j : Int) < (nb : Int) := by omega
          have PAR := Lib.hid ((HPA.out.kept (HG.out ▸ HB.out)) i HII.out)
          have PBR := Lib.hid ((HPB.out.kept (HG.out ▸ HB.out)) j hlj)
          have HCC := Lib.hid (fun W => costS (fa i) (fb j) (HVA.out i HII.out) (HVB.out j hlj) W)
          have hcb := cst_in (HVA.out i HII.out) (HVB.out j hlj)
          have HTQQ := Lib.hid (HTP.out j hlj)
          have HCF := Lib.hid (fun b h => cellT_far (fa := fa) (fb := fb) (band := band) (i := i) (j := j) (b := b) h)
          have HCS := Lib.hid (fun b h h2 => cellT_sum (fa := fa) (fb := fb) (band := band) (i := i) (j := j) (b := b) h h2)
          obtain ⟨q, hq⟩ : ∃ q, P + j = q := ⟨_, rfl⟩
          rw [hq] at HTQQ
          have hqN : q < N := by omega
          have hqi : (q : Int) < (N : Int) := by omega
          have hq0 : (0 : Int) ≤ (q : Int) := by omega
          obtain ⟨J, hJ⟩ : ∃ J : Int, (j : Int) = J := ⟨_, rfl⟩
          have HJ := Lib.hid hJ
          rw [hJ] at hjx ⊢
          have hJ72 : 0 ≤ J ∧ J ≤ 71 := by omega
          have xf := free_row HO.out
          have xz := rown.row_lt HO.out
          have xq := one_cell HO.out hqN
          obtain ⟨U, hU⟩ : ∃ U, c q = U := ⟨_, rfl⟩
          rw [hU] at xq
          have HSTO := Lib.hid (show ∀ v, v = tabQ fa fb band nb q → ∃ c' : Nat → Int, (∀ x, x < P + (j + 1) → c' x = tabQ fa fb band nb x) ∧ (rws (one c) N).set q (.int .i64 v) = rws (one c') N from fun v hv => ⟨fun x => if x = q then v else c x, fun x hx => by
            show (if x = q then v else c x) = _
            by_cases e : x = q
            · rw [if_pos e, e, hv]
            · rw [if_neg e]; exact HC.out x (by omega), set1 c _ N q hqN v fun x => rfl⟩)
          have A1 : IntKind.i64.wrap (I * (nb : Int)) = (P : Int) := by rw [HPI.out]; exact IntWalk.i64_in _ (by omega)
          have A1' : wrap64 (I * (nb : Int)) = (P : Int) := by rw [← IntWalk.i64_left]; exact A1
          have hA2 : (P : Int) + J = (q : Int) := by omega
          have A2 : IntKind.i64.wrap ((P : Int) + J) = (q : Int) := by rw [hA2]; exact IntWalk.i64_in _ (by omega)
          have A2' : wrap64 ((P : Int) + J) = (q : Int) := by rw [← IntWalk.i64_left]; exact A2
          have HS := Lib.hid (fun W => sizeS (I - J) (by omega) (by omega) W)
          have HDD := Lib.hid (show absv ((i : Int) - (j : Int)) = absv (I - J) by rw [HI.out, HJ.out])
          obtain ⟨D, hD⟩ : ∃ D, I - J = D := ⟨_, rfl⟩
          have A4 : IntKind.i64.wrap (I - J) = D := by rw [hD]; exact IntWalk.i64_in _ (by omega)
          have A4' : wrap64 (I - J) = D := by rw [← IntWalk.i64_left]; exact A4
          rw [hD] at HS HDD
          obtain ⟨S, hS⟩ : ∃ S, absv D = S := ⟨_, rfl⟩
          rw [hS] at HS HDD
          rw [HDD.out] at HCF HCS
          have HE := Lib.hid (show (j + 1 : Nat) = (j + 1 : Nat) from rfl)
          clear hA2 hD hS hU HDD HE
          by_cases hi0 : i = 0
          · have i1 : (I == 0) = true := by have := HI.out; simp; omega
            have i2 : decide (0 < I) = false := decide_eq_false (by have := HI.out; omega)
            have i3 : ¬ 0 < I := by have := HI.out; omega
            by_cases hj0 : j = 0
            · have j1 : (J == 0) = true := by have := HJ.out; simp; omega
              have j2 : decide (0 < J) = false := decide_eq_false (by have := HJ.out; omega)
              have j3 : ¬ 0 < J := by have := HJ.out; omega
              have HTV := Lib.hid (show tab fa fb band i j = cellT fa fb band i j 0 by rw [hi0, hj0]; exact tab_nn)
              have hlo : (0 : Int) ≤ 0 := by omega
              clear hi0 hj0
              by_cases hbd : band < S
              · have hbd1 : decide (band < S) = true := decide_eq_true hbd
                have HV := Lib.hid ((HCF.out _ (.inr hbd)).symm.trans (HTV.out.symm.trans HTQQ.out.symm))
                obtain ⟨c', HC', HST⟩ := HSTO.out far HV.out
                have HC2 := Lib.hid HC'
                have HS2 := Lib.hid HST
                clear HC' HST HSTO HCF HCS HTV HCC hcb PAR PBR hlo
                
                go_wp2_with fail
                with_reducible refine (HS.out _).mono ?_
                rintro e w2 ⟨rfl, rfl⟩
                go_wp2
                go_roundw
                case rel => exact ⟨j + 1, c', by omega, by rw [← HJ.out]; push_cast; rfl, HC2, Lib.hid (by rw [← HS2.out]; exact own_set1 (p := q) HO.out _ (by rw [rws_len (one_len _)]; omega)), Lib.hid (HB.out.setCell (Nat.le_refl _) _)⟩
                case measure => (have := HJ.out; simp [intOf]; omega)
              have hbd1 : decide (band < S) = false := decide_eq_false hbd
              have HV := Lib.hid ((HCS.out _ (by simp [far]) hbd).symm.trans (HTV.out.symm.trans HTQQ.out.symm))
              obtain ⟨c', HC', HST⟩ := HSTO.out _ HV.out
              have HC2 := Lib.hid HC'
              have HS2 := Lib.hid HST
              obtain ⟨ga, oa, rfl, hga, a0, a1, a2⟩ := PAR.out
              obtain ⟨gb, ob, rfl, hgb, b0, b1, b2⟩ := PBR.out
              obtain ⟨pp, hpp⟩ : ∃ p, fa i = p := ⟨_, rfl⟩
              obtain ⟨qq, hqq⟩ : ∃ q, fb j = q := ⟨_, rfl⟩
              rw [hpp] at a0 a1 a2 HCC hcb HS2
              rw [hqq] at b0 b1 b2 HCC hcb HS2
              obtain ⟨T, hT⟩ : ∃ T, cst pp qq = T := ⟨_, rfl⟩
              rw [hT] at HCC hcb HS2
              have A5 : IntKind.i64.wrap (0 + T) = 0 + T := IntWalk.i64_in _ (by omega)
              have A5' : wrap64 (0 + T) = 0 + T := by rw [← IntWalk.i64_left]; exact A5
              have hTz : IntKind.i64.wrap T = T := IntWalk.i64_in _ (by omega)
              rw [Int.zero_add] at HS2 A5 A5'
              clear HC' HST HSTO HCF HCS HTV hT hpp hqq PAR PBR
              
              have hI0 : 0 ≤ I := hI72.1
              have hJ0 : 0 ≤ J := hJ72.1
              have y0 : wr.cell? ⟨ga, oa + I.toNat * 3, none⟩ = some (.int .i64 pp.1) := by rw [show I.toNat = i by have := HI.out; omega]; exact a0
              have y1 : wr.cell? ⟨ga, oa + I.toNat * 3 + 1, none⟩ = some (.int .i64 pp.2.1) := by rw [show I.toNat = i by have := HI.out; omega]; exact a1
              have y2 : wr.cell? ⟨ga, oa + I.toNat * 3 + 2, none⟩ = some (.int .i64 pp.2.2) := by rw [show I.toNat = i by have := HI.out; omega]; exact a2
              have z0 : wr.cell? ⟨gb, ob + J.toNat * 3, none⟩ = some (.int .i64 qq.1) := by rw [show J.toNat = j by have := HJ.out; omega]; exact b0
              have z1 : wr.cell? ⟨gb, ob + J.toNat * 3 + 1, none⟩ = some (.int .i64 qq.2.1) := by rw [show J.toNat = j by have := HJ.out; omega]; exact b1
              have z2 : wr.cell? ⟨gb, ob + J.toNat * 3 + 2, none⟩ = some (.int .i64 qq.2.2) := by rw [show J.toNat = j by have := HJ.out; omega]; exact b2
              have HXQ := Lib.hid xq
              have HXZ := Lib.hid xz
              go_wp2_with fail
              with_reducible refine (HS.out _).mono ?_
              rintro e w2 ⟨rfl, rfl⟩
              clear a0 a1 a2 b0 b1 b2 xq xz xf
              go_wp2
              go_region_with (go_at_call 134; (with_reducible refine (HCC.out _).mono ?_); rintro e w4 ⟨rfl, hb4⟩; have hb0 := (Below.refl wr.heap.size wr).drew.trans hb4; have HB4 := Lib.hid (HB.out.trans (hb0.mono (Nat.le_of_lt HXZ.out))); have HO4 := Lib.hid (rown.ownsRow_kept HO.out hb0); have xq4 := (hb0.cell (p := ⟨g, q, none⟩) HXZ.out).trans HXQ.out; have xf4 := free_row HO4.out; have xz4 := rown.row_lt HO4.out; clear hb4 hb0)
              all_goals
                clear y0 y1 y2 z0 z1 z2
                go_wp2
                go_roundw
                case rel => exact ⟨j + 1, c', by omega, by rw [← HJ.out]; push_cast; rfl, HC2, Lib.hid (by rw [← HS2.out]; exact own_set1 (p := q) HO4.out _ (by rw [rws_len (one_len _)]; omega)), Lib.hid (HB4.out.setCell (Nat.le_refl _) _)⟩
                case measure => (have := HJ.out; simp [intOf]; omega)
            · have j1 : (J == 0) = false := by have := HJ.out; simp; omega
              have j2 : decide (0 < J) = true := decide_eq_true (by have := HJ.out; omega)
              have j3 : 0 < J := by have := HJ.out; omega
              obtain ⟨q1, hq1⟩ : ∃ x, q - 1 = x := ⟨_, rfl⟩
              have hq1N : q1 < N := by omega
              have hq1i : (q1 : Int) < (N : Int) := by omega
              have hq10 : (0 : Int) ≤ (q1 : Int) := by omega
              have A3 : IntKind.i64.wrap ((q : Int) - 1) = (q1 : Int) := by rw [show (q : Int) - 1 = (q1 : Int) by omega]; exact IntWalk.i64_in _ (by omega)
              have A3' : wrap64 ((q : Int) - 1) = (q1 : Int) := by rw [← IntWalk.i64_left]; exact A3
              have x3 := one_cell HO.out hq1N
              have e3 : c q1 = tab fa fb band i (j - 1) := (HC.out q1 (by omega)).trans (by rw [show q1 = P + (j - 1) by omega]; exact HTP.out (j - 1) (by omega))
              have l3 := HTI.out i (j - 1) HII.out (by omega)
              have HTV := Lib.hid (show tab fa fb band i j = cellT fa fb band i j (min far (tab fa fb band i (j - 1))) by rw [hi0]; exact tab_ny hj0)
              rw [← e3] at l3 HTV
              obtain ⟨V3, hV3⟩ : ∃ v, c q1 = v := ⟨_, rfl⟩
              rw [hV3] at x3 l3 HTV
              have HM1 := Lib.hid (fun W => minS far V3 W)
              have hlo : 0 ≤ min far V3 ∧ min far V3 ≤ 1000000000 := by unfold far; omega
              obtain ⟨b, hb⟩ : ∃ b, min far V3 = b := ⟨_, rfl⟩
              rw [hb] at HM1 HTV hlo
              unfold far at HM1
              clear hi0 hj0 hq1 e3 hV3 hb l3
              by_cases hbf : b = 1000000000
              · subst hbf
                have HV := Lib.hid ((HCF.out _ (.inl rfl)).symm.trans (HTV.out.symm.trans HTQQ.out.symm))
                obtain ⟨c', HC', HST⟩ := HSTO.out far HV.out
                have HC2 := Lib.hid HC'
                have HS2 := Lib.hid HST
                clear HC' HST HSTO HCF HCS HTV HCC hcb PAR PBR hlo
                go_wp2_with fail
                with_reducible refine (HM1.out _).mono ?_
                rintro e w2 ⟨rfl, rfl⟩
                go_wp2
                go_roundw
                case rel => exact ⟨j + 1, c', by omega, by rw [← HJ.out]; push_cast; rfl, HC2, Lib.hid (by rw [← HS2.out]; exact own_set1 (p := q) HO.out _ (by rw [rws_len (one_len _)]; omega)), Lib.hid (HB.out.setCell (Nat.le_refl _) _)⟩
                case measure => (have := HJ.out; simp [intOf]; omega)
              have hb1 : (b == 1000000000) = false := by simpa using hbf
              by_cases hbd : band < S
              · have hbd1 : decide (band < S) = true := decide_eq_true hbd
                have HV := Lib.hid ((HCF.out _ (.inr hbd)).symm.trans (HTV.out.symm.trans HTQQ.out.symm))
                obtain ⟨c', HC', HST⟩ := HSTO.out far HV.out
                have HC2 := Lib.hid HC'
                have HS2 := Lib.hid HST
                clear HC' HST HSTO HCF HCS HTV HCC hcb PAR PBR hlo
                go_wp2_with fail
                with_reducible refine (HM1.out _).mono ?_
                rintro e w2 ⟨rfl, rfl⟩
                go_wp2_with fail
                with_reducible refine (HS.out _).mono ?_
                rintro e w2 ⟨rfl, rfl⟩
                go_wp2
                go_roundw
                case rel => exact ⟨j + 1, c', by omega, by rw [← HJ.out]; push_cast; rfl, HC2, Lib.hid (by rw [← HS2.out]; exact own_set1 (p := q) HO.out _ (by rw [rws_len (one_len _)]; omega)), Lib.hid (HB.out.setCell (Nat.le_refl _) _)⟩
                case measure => (have := HJ.out; simp [intOf]; omega)
              have hbd1 : decide (band < S) = false := decide_eq_false hbd
              have HV := Lib.hid ((HCS.out _ (by simpa [far] using hbf) hbd).symm.trans (HTV.out.symm.trans HTQQ.out.symm))
              obtain ⟨c', HC', HST⟩ := HSTO.out _ HV.out
              have HC2 := Lib.hid HC'
              have HS2 := Lib.hid HST
              obtain ⟨ga, oa, rfl, hga, a0, a1, a2⟩ := PAR.out
              obtain ⟨gb, ob, rfl, hgb, b0, b1, b2⟩ := PBR.out
              obtain ⟨pp, hpp⟩ : ∃ p, fa i = p := ⟨_, rfl⟩
              obtain ⟨qq, hqq⟩ : ∃ q, fb j = q := ⟨_, rfl⟩
              rw [hpp] at a0 a1 a2 HCC hcb HS2
              rw [hqq] at b0 b1 b2 HCC hcb HS2
              obtain ⟨T, hT⟩ : ∃ T, cst pp qq = T := ⟨_, rfl⟩
              rw [hT] at HCC hcb HS2
              have A5 : IntKind.i64.wrap (b + T) = b + T := IntWalk.i64_in _ (by omega)
              have A5' : wrap64 (b + T) = b + T := by rw [← IntWalk.i64_left]; exact A5
              have hTz : IntKind.i64.wrap T = T := IntWalk.i64_in _ (by omega)
              skip
              clear HC' HST HSTO HCF HCS HTV hT hpp hqq PAR PBR
              go_wp2_with fail
              with_reducible refine (HM1.out _).mono ?_
              rintro e w2 ⟨rfl, rfl⟩
              have hI0 : 0 ≤ I := hI72.1
              have hJ0 : 0 ≤ J := hJ72.1
              have y0 : wr.cell? ⟨ga, oa + I.toNat * 3, none⟩ = some (.int .i64 pp.1) := by rw [show I.toNat = i by have := HI.out; omega]; exact a0
              have y1 : wr.cell? ⟨ga, oa + I.toNat * 3 + 1, none⟩ = some (.int .i64 pp.2.1) := by rw [show I.toNat = i by have := HI.out; omega]; exact a1
              have y2 : wr.cell? ⟨ga, oa + I.toNat * 3 + 2, none⟩ = some (.int .i64 pp.2.2) := by rw [show I.toNat = i by have := HI.out; omega]; exact a2
              have z0 : wr.cell? ⟨gb, ob + J.toNat * 3, none⟩ = some (.int .i64 qq.1) := by rw [show J.toNat = j by have := HJ.out; omega]; exact b0
              have z1 : wr.cell? ⟨gb, ob + J.toNat * 3 + 1, none⟩ = some (.int .i64 qq.2.1) := by rw [show J.toNat = j by have := HJ.out; omega]; exact b1
              have z2 : wr.cell? ⟨gb, ob + J.toNat * 3 + 2, none⟩ = some (.int .i64 qq.2.2) := by rw [show J.toNat = j by have := HJ.out; omega]; exact b2
              have HXQ := Lib.hid xq
              have HXZ := Lib.hid xz
              go_wp2_with fail
              with_reducible refine (HS.out _).mono ?_
              rintro e w2 ⟨rfl, rfl⟩
              clear a0 a1 a2 b0 b1 b2 xq xz xf
              go_wp2
              go_region_with (go_at_call 134; (with_reducible refine (HCC.out _).mono ?_); rintro e w4 ⟨rfl, hb4⟩; have hb0 := (Below.refl wr.heap.size wr).drew.trans hb4; have HB4 := Lib.hid (HB.out.trans (hb0.mono (Nat.le_of_lt HXZ.out))); have HO4 := Lib.hid (rown.ownsRow_kept HO.out hb0); have xq4 := (hb0.cell (p := ⟨g, q, none⟩) HXZ.out).trans HXQ.out; have xf4 := free_row HO4.out; have xz4 := rown.row_lt HO4.out; clear hb4 hb0)
              all_goals
                clear y0 y1 y2 z0 z1 z2
                go_wp2
                go_roundw
                case rel => exact ⟨j + 1, c', by omega, by rw [← HJ.out]; push_cast; rfl, HC2, Lib.hid (by rw [← HS2.out]; exact own_set1 (p := q) HO4.out _ (by rw [rws_len (one_len _)]; omega)), Lib.hid (HB4.out.setCell (Nat.le_refl _) _)⟩
                case measure => (have := HJ.out; simp [intOf]; omega)
          · have i1 : (I == 0) = false := by have := HI.out; simp; omega
            have i2 : decide (0 < I) = true := decide_eq_true (by have := HI.out; omega)
            have i3 : 0 < I := by have := HI.out; omega
            obtain ⟨hPb, hTO⟩ := HTO.out hi0
            obtain ⟨I1, hI1⟩ : ∃ x, I - 1 = x := ⟨_, rfl⟩
            obtain ⟨P1, hP1⟩ : ∃ x, P - nb = x := ⟨_, rfl⟩
            have HTO1 := Lib.hid hTO
            rw [hP1] at HTO1
            clear hTO
            have B1 : IntKind.i64.wrap (I - 1) = I1 := by rw [hI1]; exact IntWalk.i64_in _ (by omega)
            have B1' : wrap64 (I - 1) = I1 := by rw [← IntWalk.i64_left]; exact B1
            have hB2 : I1 * (nb : Int) = (P1 : Int) := by rw [← hI1, Int.sub_mul, HPI.out, Int.one_mul]; omega
            have B2 : IntKind.i64.wrap (I1 * (nb : Int)) = (P1 : Int) := by rw [hB2]; exact IntWalk.i64_in _ (by omega)
            have B2' : wrap64 (I1 * (nb : Int)) = (P1 : Int) := by rw [← IntWalk.i64_left]; exact B2
            obtain ⟨r, hr⟩ : ∃ x, P1 + j = x := ⟨_, rfl⟩
            have hrN : r < N := by omega
            have hri : (r : Int) < (N : Int) := by omega
            have hr0 : (0 : Int) ≤ (r : Int) := by omega
            have B3 : IntKind.i64.wrap ((P1 : Int) + J) = (r : Int) := by rw [show (P1 : Int) + J = (r : Int) by omega]; exact IntWalk.i64_in _ (by omega)
            have B3' : wrap64 ((P1 : Int) + J) = (r : Int) := by rw [← IntWalk.i64_left]; exact B3
            have x2 := one_cell HO.out hrN
            have e2 : c r = tab fa fb band (i - 1) j := (HC.out r (by omega)).trans (by rw [← hr]; exact HTO1.out j hlj)
            have l2 := HTI.out (i - 1) j (by have := HII.out; omega) hlj
            rw [← e2] at l2
            obtain ⟨V2, hV2⟩ : ∃ v, c r = v := ⟨_, rfl⟩
            rw [hV2] at x2 l2 e2
            by_cases hj0 : j = 0
            · have j1 : (J == 0) = true := by have := HJ.out; simp; omega
              have j2 : decide (0 < J) = false := decide_eq_false (by have := HJ.out; omega)
              have j3 : ¬ 0 < J := by have := HJ.out; omega
              have HTV := Lib.hid (show tab fa fb band i j = cellT fa fb band i j (min far V2) by rw [e2, hj0]; exact tab_yn hi0)
              have HM1 := Lib.hid (fun W => minS far V2 W)
              have hlo : 0 ≤ min far V2 ∧ min far V2 ≤ 1000000000 := by unfold far; omega
              obtain ⟨b, hb⟩ : ∃ b, min far V2 = b := ⟨_, rfl⟩
              rw [hb] at HM1 HTV hlo
              unfold far at HM1
              clear hi0 hj0 e2 hV2 hb l2 hI1 hB2 hP1 hr hPb HTO1
              by_cases hbf : b = 1000000000
              · subst hbf
                have HV := Lib.hid ((HCF.out _ (.inl rfl)).symm.trans (HTV.out.symm.trans HTQQ.out.symm))
                obtain ⟨c', HC', HST⟩ := HSTO.out far HV.out
                have HC2 := Lib.hid HC'
                have HS2 := Lib.hid HST
                clear HC' HST HSTO HCF HCS HTV HCC hcb PAR PBR hlo
                go_wp2_with fail
                with_reducible refine (HM1.out _).mono ?_
                rintro e w2 ⟨rfl, rfl⟩
                go_wp2
                go_roundw
                case rel => exact ⟨j + 1, c', by omega, by rw [← HJ.out]; push_cast; rfl, HC2, Lib.hid (by rw [← HS2.out]; exact own_set1 (p := q) HO.out _ (by rw [rws_len (one_len _)]; omega)), Lib.hid (HB.out.setCell (Nat.le_refl _) _)⟩
                case measure => (have := HJ.out; simp [intOf]; omega)
              have hb1 : (b == 1000000000) = false := by simpa using hbf
              by_cases hbd : band < S
              · have hbd1 : decide (band < S) = true := decide_eq_true hbd
                have HV := Lib.hid ((HCF.out _ (.inr hbd)).symm.trans (HTV.out.symm.trans HTQQ.out.symm))
                obtain ⟨c', HC', HST⟩ := HSTO.out far HV.out
                have HC2 := Lib.hid HC'
                have HS2 := Lib.hid HST
                clear HC' HST HSTO HCF HCS HTV HCC hcb PAR PBR hlo
                go_wp2_with fail
                with_reducible refine (HM1.out _).mono ?_
                rintro e w2 ⟨rfl, rfl⟩
                go_wp2_with fail
                with_reducible refine (HS.out _).mono ?_
                rintro e w2 ⟨rfl, rfl⟩
                go_wp2
                go_roundw
                case rel => exact ⟨j + 1, c', by omega, by rw [← HJ.out]; push_cast; rfl, HC2, Lib.hid (by rw [← HS2.out]; exact own_set1 (p := q) HO.out _ (by rw [rws_len (one_len _)]; omega)), Lib.hid (HB.out.setCell (Nat.le_refl _) _)⟩
                case measure => (have := HJ.out; simp [intOf]; omega)
              have hbd1 : decide (band < S) = false := decide_eq_false hbd
              have HV := Lib.hid ((HCS.out _ (by simpa [far] using hbf) hbd).symm.trans (HTV.out.symm.trans HTQQ.out.symm))
              obtain ⟨c', HC', HST⟩ := HSTO.out _ HV.out
              have HC2 := Lib.hid HC'
              have HS2 := Lib.hid HST
              obtain ⟨ga, oa, rfl, hga, a0, a1, a2⟩ := PAR.out
              obtain ⟨gb, ob, rfl, hgb, b0, b1, b2⟩ := PBR.out
              obtain ⟨pp, hpp⟩ : ∃ p, fa i = p := ⟨_, rfl⟩
              obtain ⟨qq, hqq⟩ : ∃ q, fb j = q := ⟨_, rfl⟩
              rw [hpp] at a0 a1 a2 HCC hcb HS2
              rw [hqq] at b0 b1 b2 HCC hcb HS2
              obtain ⟨T, hT⟩ : ∃ T, cst pp qq = T := ⟨_, rfl⟩
              rw [hT] at HCC hcb HS2
              have A5 : IntKind.i64.wrap (b + T) = b + T := IntWalk.i64_in _ (by omega)
              have A5' : wrap64 (b + T) = b + T := by rw [← IntWalk.i64_left]; exact A5
              have hTz : IntKind.i64.wrap T = T := IntWalk.i64_in _ (by omega)
              skip
              clear HC' HST HSTO HCF HCS HTV hT hpp hqq PAR PBR
              go_wp2_with fail
              with_reducible refine (HM1.out _).mono ?_
              rintro e w2 ⟨rfl, rfl⟩
              have hI0 : 0 ≤ I := hI72.1
              have hJ0 : 0 ≤ J := hJ72.1
              have y0 : wr.cell? ⟨ga, oa + I.toNat * 3, none⟩ = some (.int .i64 pp.1) := by rw [show I.toNat = i by have := HI.out; omega]; exact a0
              have y1 : wr.cell? ⟨ga, oa + I.toNat * 3 + 1, none⟩ = some (.int .i64 pp.2.1) := by rw [show I.toNat = i by have := HI.out; omega]; exact a1
              have y2 : wr.cell? ⟨ga, oa + I.toNat * 3 + 2, none⟩ = some (.int .i64 pp.2.2) := by rw [show I.toNat = i by have := HI.out; omega]; exact a2
              have z0 : wr.cell? ⟨gb, ob + J.toNat * 3, none⟩ = some (.int .i64 qq.1) := by rw [show J.toNat = j by have := HJ.out; omega]; exact b0
              have z1 : wr.cell? ⟨gb, ob + J.toNat * 3 + 1, none⟩ = some (.int .i64 qq.2.1) := by rw [show J.toNat = j by have := HJ.out; omega]; exact b1
              have z2 : wr.cell? ⟨gb, ob + J.toNat * 3 + 2, none⟩ = some (.int .i64 qq.2.2) := by rw [show J.toNat = j by have := HJ.out; omega]; exact b2
              have HXQ := Lib.hid xq
              have HXZ := Lib.hid xz
              go_wp2_with fail
              with_reducible refine (HS.out _).mono ?_
              rintro e w2 ⟨rfl, rfl⟩
              clear a0 a1 a2 b0 b1 b2 xq xz xf
              go_wp2
              go_region_with (go_at_call 134; (with_reducible refine (HCC.out _).mono ?_); rintro e w4 ⟨rfl, hb4⟩; have hb0 := (Below.refl wr.heap.size wr).drew.trans hb4; have HB4 := Lib.hid (HB.out.trans (hb0.mono (Nat.le_of_lt HXZ.out))); have HO4 := Lib.hid (rown.ownsRow_kept HO.out hb0); have xq4 := (hb0.cell (p := ⟨g, q, none⟩) HXZ.out).trans HXQ.out; have xf4 := free_row HO4.out; have xz4 := rown.row_lt HO4.out; clear hb4 hb0)
              all_goals
                clear y0 y1 y2 z0 z1 z2
                go_wp2
                go_roundw
                case rel => exact ⟨j + 1, c', by omega, by rw [← HJ.out]; push_cast; rfl, HC2, Lib.hid (by rw [← HS2.out]; exact own_set1 (p := q) HO4.out _ (by rw [rws_len (one_len _)]; omega)), Lib.hid (HB4.out.setCell (Nat.le_refl _) _)⟩
                case measure => (have := HJ.out; simp [intOf]; omega)
            · have j1 : (J == 0) = false := by have := HJ.out; simp; omega
              have j2 : decide (0 < J) = true := decide_eq_true (by have := HJ.out; omega)
              have j3 : 0 < J := by have := HJ.out; omega
              obtain ⟨q1, hq1⟩ : ∃ x, q - 1 = x := ⟨_, rfl⟩
              have hq1N : q1 < N := by omega
              have hq1i : (q1 : Int) < (N : Int) := by omega
              have hq10 : (0 : Int) ≤ (q1 : Int) := by omega
              have A3 : IntKind.i64.wrap ((q : Int) - 1) = (q1 : Int) := by rw [show (q : Int) - 1 = (q1 : Int) by omega]; exact IntWalk.i64_in _ (by omega)
              have A3' : wrap64 ((q : Int) - 1) = (q1 : Int) := by rw [← IntWalk.i64_left]; exact A3
              obtain ⟨r1, hr1⟩ : ∃ x, r - 1 = x := ⟨_, rfl⟩
              have hr1N : r1 < N := by omega
              have hr1i : (r1 : Int) < (N : Int) := by omega
              have hr10 : (0 : Int) ≤ (r1 : Int) := by omega
              have B4 : IntKind.i64.wrap ((r : Int) - 1) = (r1 : Int) := by rw [show (r : Int) - 1 = (r1 : Int) by omega]; exact IntWalk.i64_in _ (by omega)
              have B4' : wrap64 ((r : Int) - 1) = (r1 : Int) := by rw [← IntWalk.i64_left]; exact B4
              have x3 := one_cell HO.out hq1N
              have x1 := one_cell HO.out hr1N
              have e3 : c q1 = tab fa fb band i (j - 1) := (HC.out q1 (by omega)).trans (by rw [show q1 = P + (j - 1) by omega]; exact HTP.out (j - 1) (by omega))
              have l3 := HTI.out i (j - 1) HII.out (by omega)
              have e1 : c r1 = tab fa fb band (i - 1) (j - 1) := (HC.out r1 (by omega)).trans (by rw [show r1 = P1 + (j - 1) by omega]; exact HTO1.out (j - 1) (by omega))
              have l1 := HTI.out (i - 1) (j - 1) (by have := HII.out; omega) (by omega)
              rw [← e3] at l3
              rw [← e1] at l1
              obtain ⟨V3, hV3⟩ : ∃ v, c q1 = v := ⟨_, rfl⟩
              obtain ⟨V1, hV1⟩ : ∃ v, c r1 = v := ⟨_, rfl⟩
              rw [hV3] at x3 l3 e3
              rw [hV1] at x1 l1 e1
              have HTV := Lib.hid (show tab fa fb band i j = cellT fa fb band i j (min (min (min far V1) V2) V3) by rw [e1, e2, e3]; exact tab_yy hi0 hj0)
              have hlo : 0 ≤ min (min (min far V1) V2) V3 ∧ min (min (min far V1) V2) V3 ≤ 1000000000 := by unfold far; omega
              have HM1 := Lib.hid (fun W => minS far V1 W)
              unfold far at HM1 HTV hlo
              obtain ⟨m1, hm1⟩ : ∃ b, min 1000000000 V1 = b := ⟨_, rfl⟩
              rw [hm1] at HM1 HTV hlo
              have HM2 := Lib.hid (fun W => minS m1 V2 W)
              obtain ⟨m2, hm2⟩ : ∃ b, min m1 V2 = b := ⟨_, rfl⟩
              rw [hm2] at HM2 HTV hlo
              have HM3 := Lib.hid (fun W => minS m2 V3 W)
              obtain ⟨b, hb⟩ : ∃ b, min m2 V3 = b := ⟨_, rfl⟩
              rw [hb] at HM3 HTV hlo
              clear hi0 hj0 hq1 hr1 e1 e2 e3 hV1 hV2 hV3 hb hm1 hm2 l1 l2 l3 hI1 hB2 hP1 hr hPb HTO1
              by_cases hbf : b = 1000000000
              · subst hbf
                have HV := Lib.hid ((HCF.out _ (.inl rfl)).symm.trans (HTV.out.symm.trans HTQQ.out.symm))
                obtain ⟨c', HC', HST⟩ := HSTO.out far HV.out
                have HC2 := Lib.hid HC'
                have HS2 := Lib.hid HST
                clear HC' HST HSTO HCF HCS HTV HCC hcb PAR PBR hlo
                go_wp2_with fail
                with_reducible refine (HM1.out _).mono ?_
                rintro e w2 ⟨rfl, rfl⟩
                go_wp2_with fail
                with_reducible refine (HM2.out _).mono ?_
                rintro e w2 ⟨rfl, rfl⟩
                go_wp2_with fail
                with_reducible refine (HM3.out _).mono ?_
                rintro e w2 ⟨rfl, rfl⟩
                go_wp2
                go_roundw
                case rel => exact ⟨j + 1, c', by omega, by rw [← HJ.out]; push_cast; rfl, HC2, Lib.hid (by rw [← HS2.out]; exact own_set1 (p := q) HO.out _ (by rw [rws_len (one_len _)]; omega)), Lib.hid (HB.out.setCell (Nat.le_refl _) _)⟩
                case measure => (have := HJ.out; simp [intOf]; omega)
              have hb1 : (b == 1000000000) = false := by simpa using hbf
              by_cases hbd : band < S
              · have hbd1 : decide (band < S) = true := decide_eq_true hbd
                have HV := Lib.hid ((HCF.out _ (.inr hbd)).symm.trans (HTV.out.symm.trans HTQQ.out.symm))
                obtain ⟨c', HC', HST⟩ := HSTO.out far HV.out
                have HC2 := Lib.hid HC'
                have HS2 := Lib.hid HST
                clear HC' HST HSTO HCF HCS HTV HCC hcb PAR PBR hlo
                go_wp2_with fail
                with_reducible refine (HM1.out _).mono ?_
                rintro e w2 ⟨rfl, rfl⟩
                go_wp2_with fail
                with_reducible refine (HM2.out _).mono ?_
                rintro e w2 ⟨rfl, rfl⟩
                go_wp2_with fail
                with_reducible refine (HM3.out _).mono ?_
                rintro e w2 ⟨rfl, rfl⟩
                go_wp2_with fail
                with_reducible refine (HS.out _).mono ?_
                rintro e w2 ⟨rfl, rfl⟩
                go_wp2
                go_roundw
                case rel => exact ⟨j + 1, c', by omega, by rw [← HJ.out]; push_cast; rfl, HC2, Lib.hid (by rw [← HS2.out]; exact own_set1 (p := q) HO.out _ (by rw [rws_len (one_len _)]; omega)), Lib.hid (HB.out.setCell (Nat.le_refl _) _)⟩
                case measure => (have := HJ.out; simp [intOf]; omega)
              have hbd1 : decide (band < S) = false := decide_eq_false hbd
              have HV := Lib.hid ((HCS.out _ (by simpa [far] using hbf) hbd).symm.trans (HTV.out.symm.trans HTQQ.out.symm))
              obtain ⟨c', HC', HST⟩ := HSTO.out _ HV.out
              have HC2 := Lib.hid HC'
              have HS2 := Lib.hid HST
              obtain ⟨ga, oa, rfl, hga, a0, a1, a2⟩ := PAR.out
              obtain ⟨gb, ob, rfl, hgb, b0, b1, b2⟩ := PBR.out
              obtain ⟨pp, hpp⟩ : ∃ p, fa i = p := ⟨_, rfl⟩
              obtain ⟨qq, hqq⟩ : ∃ q, fb j = q := ⟨_, rfl⟩
              rw [hpp] at a0 a1 a2 HCC hcb HS2
              rw [hqq] at b0 b1 b2 HCC hcb HS2
              obtain ⟨T, hT⟩ : ∃ T, cst pp qq = T := ⟨_, rfl⟩
              rw [hT] at HCC hcb HS2
              have A5 : IntKind.i64.wrap (b + T) = b + T := IntWalk.i64_in _ (by omega)
              have A5' : wrap64 (b + T) = b + T := by rw [← IntWalk.i64_left]; exact A5
              have hTz : IntKind.i64.wrap T = T := IntWalk.i64_in _ (by omega)
              skip
              clear HC' HST HSTO HCF HCS HTV hT hpp hqq PAR PBR
              go_wp2_with fail
              with_reducible refine (HM1.out _).mono ?_
              rintro e w2 ⟨rfl, rfl⟩
              go_wp2_with fail
              with_reducible refine (HM2.out _).mono ?_
              rintro e w2 ⟨rfl, rfl⟩
              go_wp2_with fail
              with_reducible refine (HM3.out _).mono ?_
              rintro e w2 ⟨rfl, rfl⟩
              have hI0 : 0 ≤ I := hI72.1
              have hJ0 : 0 ≤ J := hJ72.1
              have y0 : wr.cell? ⟨ga, oa + I.toNat * 3, none⟩ = some (.int .i64 pp.1) := by rw [show I.toNat = i by have := HI.out; omega]; exact a0
              have y1 : wr.cell? ⟨ga, oa + I.toNat * 3 + 1, none⟩ = some (.int .i64 pp.2.1) := by rw [show I.toNat = i by have := HI.out; omega]; exact a1
              have y2 : wr.cell? ⟨ga, oa + I.toNat * 3 + 2, none⟩ = some (.int .i64 pp.2.2) := by rw [show I.toNat = i by have := HI.out; omega]; exact a2
              have z0 : wr.cell? ⟨gb, ob + J.toNat * 3, none⟩ = some (.int .i64 qq.1) := by rw [show J.toNat = j by have := HJ.out; omega]; exact b0
              have z1 : wr.cell? ⟨gb, ob + J.toNat * 3 + 1, none⟩ = some (.int .i64 qq.2.1) := by rw [show J.toNat = j by have := HJ.out; omega]; exact b1
              have z2 : wr.cell? ⟨gb, ob + J.toNat * 3 + 2, none⟩ = some (.int .i64 qq.2.2) := by rw [show J.toNat = j by have := HJ.out; omega]; exact b2
              have HXQ := Lib.hid xq
              have HXZ := Lib.hid xz
              go_wp2_with fail
              with_reducible refine (HS.out _).mono ?_
              rintro e w2 ⟨rfl, rfl⟩
              clear a0 a1 a2 b0 b1 b2 xq xz xf
              go_wp2
              go_region_with (go_at_call 134; (with_reducible refine (HCC.out _).mono ?_); rintro e w4 ⟨rfl, hb4⟩; have hb0 := (Below.refl wr.heap.size wr).drew.trans hb4; have HB4 := Lib.hid (HB.out.trans (hb0.mono (Nat.le_of_lt HXZ.out))); have HO4 := Lib.hid (rown.ownsRow_kept HO.out hb0); have xq4 := (hb0.cell (p := ⟨g, q, none⟩) HXZ.out).trans HXQ.out; have xf4 := free_row HO4.out; have xz4 := rown.row_lt HO4.out; clear hb4 hb0)
              all_goals
                clear y0 y1 y2 z0 z1 z2
                go_wp2
                go_roundw
                case rel => exact ⟨j + 1, c', by omega, by rw [← HJ.out]; push_cast; rfl, HC2, Lib.hid (by rw [← HS2.out]; exact own_set1 (p := q) HO4.out _ (by rw [rws_len (one_len _)]; omega)), Lib.hid (HB4.out.setCell (Nat.le_refl _) _)⟩
                case measure => (have := HJ.out; simp [intOf]; omega)
        · obtain rfl : j = nb := by omega
          go_wp2
          go_roundw
          case rel => exact ⟨i + 1, c, by have := HII.out; omega, by rw [← HI.out]; push_cast; rfl, Lib.hid (by rw [HNX.out]; exact HC.out), HO, HB⟩
          case measure => (have := HI.out; have := HII.out; simp [intOf]; omega)
    · obtain rfl : i = na := by omega
      go_wp2
      go_ret
      rw [HG.out]
      exact ⟨rfl, by rw [← rws_congr (r := one c0) N fun x hx => by unfold one; rw [HC0.out x (by rw [HNN.out]; exact hx)]]; exact HO0.out, HB0.out⟩
end Go.Proofs.Ytkcfghbkcgommaa.tab
