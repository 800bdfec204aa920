/-
  Proved: what the document's function that scales a place of a box into a square returns.
  Conditions: the box is valid, and the place lies in it.
-/
import Derived.Test.YtedboaeadkdhfabNorm
namespace Go.Proofs.Ytedboaeadkdhfab.norm
open Go.ChangeShapes Go.WideShapes Go.ChangeAt Go.RowKit Go.Joins
open Go.Proofs.Ytedboaeadkdhfab.core Go.Proofs.Ytedboaeadkdhfab.rown Go.Proofs.Ytedboaeadkdhfab.stk Go.Proofs.Ytedboaeadkdhfab.boxed Go.Proofs.Ytedboaeadkdhfab.near
set_option linter.unusedVariables false
set_option linter.unusedSimpArgs false
set_option maxRecDepth 100000 in
set_option maxHeartbeats 4000000 in
theorem normalS (a b c d x y : Int) (h : okB a b c d = true) (hx : a ≤ x ∧ x ≤ c) (hy : b ≤ y ∧ y ≤ d) (w : World) :
    Calls Try.prog 81 #[sp x y, bxv a b c d] w fun e w' => e = .returned (sp (mg (c - a) (sd a b c d) + nr ((x - a) * 255) (sd a b c d)) (mg (d - b) (sd a b c d) + nr ((y - b) * 255) (sd a b c d))) ∧ Below w.heap.size w w' := by
  have HI := Lib.hid (fun W => sideS a b c d h W)
  have hd := sd_in h
  have hb := okB_of h
  have hm1 := mul_le (u := x - a) (v := 255) (M := 4095) (N := 4095) (by omega) (by omega) (by omega) (by omega)
  have hm2 := mul_le (u := y - b) (v := 255) (M := 4095) (N := 4095) (by omega) (by omega) (by omega) (by omega)
  have hn1 := nr_le (m := (x - a) * 255) (D := sd a b c d) hm1.1 hm1.2 hd.1 hd.2.1
  have hn2 := nr_le (m := (y - b) * 255) (D := sd a b c d) hm2.1 hm2.2 hd.1 hd.2.1
  obtain ⟨hk, hr⟩ := SD_new2 w a b c d x y 30 87
  have hq1 := mg_q (x := c - a) (s := sd a b c d) (by omega) hd.2.2.1 hd.1
  have hq2 := mg_q (x := d - b) (s := sd a b c d) (by omega) hd.2.2.2 hd.1
  have hl1 := mg_in (x := c - a) (s := sd a b c d) (by omega) hd.2.2.1 hd.1
  have hl2 := mg_in (x := d - b) (s := sd a b c d) (by omega) hd.2.2.2 hd.1
  have M1 : (255 - (c - a) * 255 / sd a b c d) / 2 = mg (c - a) (sd a b c d) := rfl
  have M2 : (255 - (d - b) * 255 / sd a b c d) / 2 = mg (d - b) (sd a b c d) := rfl
  have e1 : ((c - a) * 255).tdiv (sd a b c d) = (c - a) * 255 / sd a b c d := Int.tdiv_eq_ediv_of_nonneg (by omega)
  have e2 : ((d - b) * 255).tdiv (sd a b c d) = (d - b) * 255 / sd a b c d := Int.tdiv_eq_ediv_of_nonneg (by omega)
  have e3 : (255 - (c - a) * 255 / sd a b c d).tdiv 2 = (255 - (c - a) * 255 / sd a b c d) / 2 := Int.tdiv_eq_ediv_of_nonneg (by omega)
  have e4 : (255 - (d - b) * 255 / sd a b c d).tdiv 2 = (255 - (d - b) * 255 / sd a b c d) / 2 := Int.tdiv_eq_ediv_of_nonneg (by omega)
  rw [M1] at e3
  rw [M2] at e4
  clear M1 M2 h
  obtain ⟨D, hD⟩ : ∃ D, sd a b c d = D := ⟨_, rfl⟩
  rw [hD] at HI hd hn1 hn2 hq1 hq2 hl1 hl2 e1 e2 e3 e4 ⊢
  obtain ⟨L1, hL1⟩ : ∃ L, mg (c - a) D = L := ⟨_, rfl⟩
  obtain ⟨L2, hL2⟩ : ∃ L, mg (d - b) D = L := ⟨_, rfl⟩
  obtain ⟨Q1, hQ1⟩ : ∃ L, (c - a) * 255 / D = L := ⟨_, rfl⟩
  obtain ⟨Q2, hQ2⟩ : ∃ L, (d - b) * 255 / D = L := ⟨_, rfl⟩
  rw [hL1] at hl1 e3 ⊢
  rw [hL2] at hl2 e4 ⊢
  rw [hQ1] at hq1 e1 e3
  rw [hQ2] at hq2 e2 e4
  obtain ⟨N1, hN1⟩ : ∃ L, nr ((x - a) * 255) D = L := ⟨_, rfl⟩
  obtain ⟨N2, hN2⟩ : ∃ L, nr ((y - b) * 255) D = L := ⟨_, rfl⟩
  have H1 := Lib.hid (fun W => specNear ((x - a) * 255) D (by omega) (by omega) (by omega) (by omega) W)
  have H2 := Lib.hid (fun W => specNear ((y - b) * 255) D (by omega) (by omega) (by omega) (by omega) W)
  rw [hN1] at hn1 H1 ⊢
  rw [hN2] at hn2 H2 ⊢
  have E1 : IntKind.i64.wrap (IntKind.i64.wrap (x - a) * 255) = (x - a) * 255 := by rw [show IntKind.i64.wrap (x - a) = x - a from IntWalk.i64_in _ (by omega)]; exact IntWalk.i64_in _ (by omega)
  have E2 : IntKind.i64.wrap (IntKind.i64.wrap (y - b) * 255) = (y - b) * 255 := by rw [show IntKind.i64.wrap (y - b) = y - b from IntWalk.i64_in _ (by omega)]; exact IntWalk.i64_in _ (by omega)
  rw [← E1] at H1
  rw [← E2] at H2
  have W1 := Lib.hid (show IntKind.i64.wrap (L1 + N1) = L1 + N1 from IntWalk.i64_in _ (by omega))
  have W2 := Lib.hid (show IntKind.i64.wrap (L2 + N2) = L2 + N2 from IntWalk.i64_in _ (by omega))
  have V1 := Lib.hid (show wrap64 (L1 + N1) = L1 + N1 by rw [← IntWalk.i64_left]; exact W1.out)
  have V2 := Lib.hid (show wrap64 (L2 + N2) = L2 + N2 by rw [← IntWalk.i64_left]; exact W2.out)
  clear E1 E2
  have hne : ¬ D = 0 := by omega
  have hne2 : (D == 0) = false := by simp; omega
  have HK := Lib.hid hk
  have HR := Lib.hid hr
  clear hD hL1 hL2 hQ1 hQ2 hN1 hN2 hm1 hm2 hk hr
  go_enter Try.func81, Try.ntmps81
  go_wp2_with fail
  with_reducible refine (HI.out _).mono ?_
  rintro e w1 ⟨rfl, hb1⟩
  have hk := SD_kept hb1 HK.out
  have hr := SR_kept hb1 HR.out
  have HKD := Lib.hid (SD_drew hk)
  have HRD := Lib.hid (SR_kept ((Below.refl w1.heap.size w1).drew) hr)
  obtain ⟨k0, k1, k2, k3, k4, k5, kz, kz2, -⟩ := hk
  obtain ⟨r0, r1, rf, rz⟩ := hr
  have hmx := mixed
  clear hb1 HK HR HI
  go_wp2
  obtain ⟨w9, hw9⟩ : ∃ w9, w9 = w1.drew := ⟨_, rfl⟩
  rw [← hw9] at HKD HRD
  refine wp_region_still_tail 21 (by assumption) (by kernel_rfl) ?_
  rw [show ({ w1 with drawn := w1.drawn + 1 } : World) = w9 from hw9.symm]
  clear hw9 k0 k1 k2 k3 k4 k5 kz kz2 r0 r1 rf rz
  obtain ⟨k0, k1, k2, k3, k4, k5, kz, kz2, hB⟩ := HKD.out
  obtain ⟨r0, r1, rf, rz⟩ := HRD.out
  have HB := Lib.hid hB
  clear hB
  simp only [List.take_succ_cons, List.take_zero, List.drop_succ_cons, List.drop_zero]
  iterate 8 still_step
  still_call ((H1.out _).mono fun _ _ h => ⟨h.1, h.2.symm⟩)
  iterate 9 still_step
  still_call ((H2.out _).mono fun _ _ h => ⟨h.1, h.2.symm⟩)
  iterate 2 still_step
  refine wpStill_nil ?_
  clear k0 k1 k2 k3 k4 k5
  go_wp2
  exact bodyPost_ret (v := sp (L1 + N1) (L2 + N2)) (by simp [results, Try.results81, go_sem, r0, r1, rf, rz, W1.out, W2.out, V1.out, V2.out]) rfl ⟨rfl, (HB.out.setCell (p := ⟨w.heap.size + 1 + 1, 0, none⟩) (show w.heap.size ≤ w.heap.size + 1 + 1 by omega) _).setCell (p := ⟨w.heap.size + 1 + 1, 1, none⟩) (show w.heap.size ≤ w.heap.size + 1 + 1 by omega) _⟩
end Go.Proofs.Ytedboaeadkdhfab.norm
