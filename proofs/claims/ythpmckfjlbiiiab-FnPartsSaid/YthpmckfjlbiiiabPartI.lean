/-
  Proved: what the program's function that matches a sequence with a part of another one returns.
  Conditions: the second list is no longer than its room.
-/
import Derived.Test.YthpmckfjlbiiiabPartM
import Derived.Test.YthpmckfjlbiiiabElasI
import Derived.Deep.CutRange
import Derived.Deep.DeepCutAuto
namespace Go.Proofs.Ythpmckfjlbiiiab.dp
open Go.ChangeShapes Go.WideShapes Go.ChangeAt Go.RowKit Go.Joins
open Go.Proofs.Ythpmckfjlbiiiab.core Go.Proofs.Ythpmckfjlbiiiab.rown Go.Proofs.Ythpmckfjlbiiiab.stk Go.Proofs.Ythpmckfjlbiiiab.boxed Go.Proofs.Ythpmckfjlbiiiab.ft Go.Proofs.Ythpmckfjlbiiiab.seq Go.Proofs.Ythpmckfjlbiiiab.tab Go.Proofs.Ythpmckfjlbiiiab.put3
set_option linter.unusedVariables false
set_option linter.unusedSimpArgs false
theorem old {w w' : World} (hb : Below w.heap.size w w') : (∀ b o, b < w.heap.size → w'.cell? ⟨b, o, none⟩ = w.cell? ⟨b, o, none⟩) ∧ ∀ b o, b < w.heap.size → w'.frozen? ⟨b, o, none⟩ = w.frozen? ⟨b, o, none⟩ :=
  ⟨fun b o h => hb.cell (p := ⟨b, o, none⟩) h, fun b o h => hb.frozen (p := ⟨b, o, none⟩) h⟩
theorem BW_kept {w W W' : World} (hb : Below W.heap.size W W') (h : Below w.heap.size w W) : Below w.heap.size w W' := h.trans (hb.mono h.size)
theorem pts_set {W : World} {g n b i : Nat} {f : Nat → P3} {u : Value} (h : PtsAt W (some ⟨g, 0, none⟩) n f) (hn : g ≠ b) : PtsAt (W.setCell ⟨b, i, none⟩ u) (some ⟨g, 0, none⟩) n f := fun j hj => by
  obtain ⟨b', o', e, hb, c0, c1, c2⟩ := h j hj
  injection e with e
  injection e with e1 e2
  subst e1 e2
  have ek : (W.setCell ⟨b, i, none⟩ u).heap[g]? = W.heap[g]? := Below.heap_setCell _ _ _ _ (by simpa using hn)
  exact ⟨g, 0, rfl, by simpa [World.setCell] using hb, (World.cell?_of_block ek).trans c0, (World.cell?_of_block ek).trans c1, (World.cell?_of_block ek).trans c2⟩
/-- What the program's search finds. -/
structure Found (na nb : Nat) (fa fb : Nat → P3) (v : Int) (x e : Nat) : Prop where
  lt : x < e
  le : e ≤ nb
  out : pout na fa fb nb = (v, x, e)
  least : leastZ (lrow fa fb 72 (fun _ => 0) na) nb = v
  at_ : lrow fa fb 72 (fun _ => 0) na e = v
  ahead : ∀ j, j < e → lrow fa fb 72 (fun _ => 0) na j ≠ v
  back : lrow (fun j => fa (na - 1 - j)) (fun j => fb (e - 1 - j)) 72 st0 na (e - x) = v
  short : ∀ j, j < e - x → lrow (fun j => fa (na - 1 - j)) (fun j => fb (e - 1 - j)) 72 st0 na j ≠ v
theorem part_found {na nb : Nat} {fa fb : Nat → P3} (va : okQ na fa = true) (vb : okQ nb fb = true) : ∃ v x e, Found na nb fa fb v x e := by
  have hbar : bar = 1099511627776 := rfl
  have hf : far = 1000000000 := rfl
  obtain ⟨a1, a2, a3⟩ := okQ_of va
  obtain ⟨b1, b2, b3⟩ := okQ_of vb
  have fin : ∀ x e, x < e → e ≤ nb → partC na fa fb x e < 100000 := fun x e h1 h2 =>
    (tab_fin (fa := fa) (fb := shift fb x) (n := na) (m := e - x) a2 (by omega) a3 (fun y hy => b3 _ (by omega)) (i := na - 1) (j := e - x - 1) (by omega) (by omega)).1
  rcases pout_spec na fa fb nb (fun x e h1 h2 => by have := fin x e h1 h2; omega) nb (Nat.le_refl _) with ⟨h, -⟩ | ⟨x, e, ho, c1, c2, c3, c4, c5⟩
  · omega
  have MN : ∀ e', 1 ≤ e' → e' ≤ nb → (∃ x', x' < e' ∧ lrow fa fb 72 (fun _ => 0) na e' = partC na fa fb x' e') ∧ ∀ x', x' < e' → lrow fa fb 72 (fun _ => 0) na e' ≤ partC na fa fb x' e' := fun e' h1 h2 => by
    have h := free_min a2 b2 a3 b3 (na - 1) (e' - 1) (by omega) (by omega)
    rw [show na - 1 + 1 = na by omega, show e' - 1 + 1 = e' by omega] at h
    obtain ⟨⟨x', hx', hv⟩, hm⟩ := h
    refine ⟨⟨x', by omega, ?_⟩, fun x' hx' => ?_⟩
    · rw [hv]; unfold partC leastE; rw [show e' - x' - 1 = e' - 1 - x' by omega]
    · have := hm x' (by omega)
      unfold partC leastE; rw [show e' - x' - 1 = e' - 1 - x' by omega]; exact this
  have Z0 : lrow fa fb 72 (fun _ => 0) na 0 = bar := by
    obtain ⟨k, rfl⟩ : ∃ k, na = k + 1 := ⟨na - 1, by omega⟩
    rfl
  have hfe := fin x e c1 c2
  have hle := leastZ_le (F := lrow fa fb 72 (fun _ => 0) na) (n := nb) (i := e) c2
  have hze := (MN e (by omega) c2).2 x c1
  have hl : leastZ (lrow fa fb 72 (fun _ => 0) na) nb = partC na fa fb x e := by
    obtain ⟨i, hi, hv⟩ := leastZ_at (lrow fa fb 72 (fun _ => 0) na) nb
    by_cases hi0 : i = 0
    · subst hi0; omega
    · obtain ⟨⟨x', hx', e'⟩, -⟩ := MN i (by omega) hi
      have := c3 i x' hx' hi
      omega
  have va3 : ∀ i, i < na → inF (fa (na - 1 - i)) = true := fun i hi => a3 _ (by omega)
  have vb3 : ∀ j, j < e → inF (fb (e - 1 - j)) = true := fun j hj => b3 _ (by omega)
  have BK : ∀ L, 1 ≤ L → L ≤ e → lrow (fun j => fa (na - 1 - j)) (fun j => fb (e - 1 - j)) 72 st0 na L = partC na fa fb (e - L) e := fun L h1 h2 => by
    rcases lrow_tab (band := 72) (fa := fun j => fa (na - 1 - j)) (fb := fun j => fb (e - 1 - j)) (n := na) (m := e) (by omega) a2 (by omega) va3 vb3 (na - 1) (L - 1) (by omega) (by omega) with ⟨-, h⟩ | ⟨h, -, -⟩
    · rw [show na - 1 + 1 = na by omega, show L - 1 + 1 = L by omega] at h
      rw [h]
      unfold partC leastE
      rw [show e - (e - L) - 1 = L - 1 by omega]
      exact tab_rev (N := na - 1) (M := L - 1) (by omega) (by omega) (fun i hi => a3 i (by omega)) (fun j hj => b3 _ (by omega)) (fun y hy => by show fa (na - 1 - (na - 1 - y)) = fa y; rw [show na - 1 - (na - 1 - y) = y by omega]) (fun y hy => by show fb (e - 1 - (L - 1 - y)) = fb (e - L + y); rw [show e - 1 - (L - 1 - y) = e - L + y by omega])
    · exact absurd (wide_abs (by omega) (by omega)) h
  have R0 : lrow (fun j => fa (na - 1 - j)) (fun j => fb (e - 1 - j)) 72 st0 na 0 = bar := by
    obtain ⟨k, hk⟩ : ∃ k, na = k + 1 := ⟨na - 1, by omega⟩
    generalize na - 1 = z
    subst hk
    rfl
  refine ⟨partC na fa fb x e, x, e, c1, c2, ho, hl, by omega, fun j hj => ?_, ?_, fun j hj => ?_⟩
  · by_cases h0 : j = 0
    · subst h0; omega
    · obtain ⟨⟨x', hx', e'⟩, -⟩ := MN j (by omega) (by omega)
      have := c4 j x' hx' hj
      omega
  · rw [BK (e - x) (by omega) (by omega), show e - (e - x) = x by omega]
  · by_cases h0 : j = 0
    · subst h0; omega
    · rw [BK j (by omega) (by omega)]
      have := c5 (e - j) (by omega) (by omega)
      omega
set_option maxRecDepth 100000 in
set_option maxHeartbeats 8000000 in
theorem partI_yes {ca cb : Nat} (A B : Option Addr) (na nb : Nat) (fa fb : Nat → P3) (w : World) (hcb : nb ≤ cb) (pa : PtsAt w A na fa) (pb : PtsAt w B nb fb) (hv : partOk na nb fa fb = true) :
    Calls Try.prog 33 #[.slice A na ca, .slice B nb cb] w fun e w' => e = .returned (.tuple #[.int .i64 (pout na fa fb nb).1, .int .i64 ((pout na fa fb nb).2.1 : Int), .int .i64 ((pout na fa fb nb).2.2 : Int), .int .i64 0]) ∧ Below w.heap.size w w' := by
  unfold partOk at hv
  obtain ⟨va, vb⟩ := (Bool.and_eq_true _ _).mp hv
  obtain ⟨v, x, e, hfd⟩ := part_found va vb
  have ba := (okQ_of va).2.1
  have bb := (okQ_of vb).2.1
  have a1 := (okQ_of va).1
  have b1 := (okQ_of vb).1
  have hlt := hfd.lt
  have hle := hfd.le
  have HFD := Lib.hid hfd
  rw [hfd.out]
  simp only
  have HA := Lib.hid (okQI (c := ca) A na fa w (by omega) pa)
  have HQ := Lib.hid (fun W hW => okQI (c := cb) B nb fb W (by omega) hW)
  rw [va] at HA
  rw [vb] at HQ
  have va' : okQ na (fun j => fa (na - 1 - j)) = true := okQ_true a1 ba fun i hi => (okQ_of va).2.2 _ (by omega)
  have vb' : okQ e (fun j => fb (e - 1 - j)) = true := okQ_true (by omega) (by omega) fun i hi => (okQ_of vb).2.2 _ (by omega)
  have HPA := Lib.hid pa
  have HPB := Lib.hid pb
  have HL0 := Lib.hid (fun g W p1 p2 p3 => lastI A B na nb ca cb 72 fa fb (fun _ => 0) g W (by omega) va vb (by omega) (fun q _ => ⟨Int.le_refl _, by unfold bar; omega⟩) p1 p2 p3)
  have HMIN := Lib.hid (fun g W p => minRowI g nb (lrow fa fb 72 (fun _ => 0) na) W (by omega) p)
  have HIX := Lib.hid (fun g W p => indexI g nb (lrow fa fb 72 (fun _ => 0) na) v e W (by omega) p HFD.out.le HFD.out.at_ HFD.out.ahead)
  rw [hfd.least] at HMIN
  obtain ⟨gb, ob, rfl, -⟩ := pb 0 (by omega)
  have HRA := Lib.hid (fun W p => reversedI (c := ca) A na fa W a1 ba p)
  have HRB := Lib.hid (fun W p => reversedI (c := cb) (some ⟨gb, ob, none⟩) e fb W (by omega) (by omega) p)
  have HST := Lib.hid (fun ga gb da db W => startI (some ⟨ga, 0, none⟩) (some ⟨gb, 0, none⟩) na e da db 72 W (by omega))
  have HL1 := Lib.hid (fun ga gb da db g W p1 p2 p3 => lastI (some ⟨ga, 0, none⟩) (some ⟨gb, 0, none⟩) na e da db 72 (fun j => fa (na - 1 - j)) (fun j => fb (e - 1 - j)) st0 g W (by omega) va' vb' (by omega) (fun q _ => st0_in q) p1 p2 p3)
  have HI1 := Lib.hid (fun g W p => indexI g e (lrow (fun j => fa (na - 1 - j)) (fun j => fb (e - 1 - j)) 72 st0 na) v (e - x) W (by omega) p (by omega) HFD.out.back HFD.out.short)
  have HPE := Lib.hid (fun (W : World) (h : PtsAt W (some ⟨gb, ob, none⟩) nb fb) => (show PtsAt W (some ⟨gb, ob, none⟩) e fb from fun i hi => h i (by omega)))
  have hmk := fun W => makeN (nb + 1) (by omega) W
  have E1 : IntKind.i64.wrap ((nb : Int) + 1) = (nb : Int) + 1 := IntWalk.i64_in _ (by omega)
  have E2 : IntKind.i64.wrap ((e : Int) - ((e - x : Nat) : Int)) = (x : Int) := by rw [show (e : Int) - ((e - x : Nat) : Int) = (x : Int) by omega]; exact IntWalk.i64_in _ (by omega)
  have F2 : wrap64 ((e : Int) - ((e - x : Nat) : Int)) = (x : Int) := by rw [← IntWalk.i64_left]; exact E2
  obtain ⟨L, hL⟩ : ∃ L : Nat, e - x = L := ⟨_, rfl⟩
  rw [hL] at E2 F2 HI1
  have hecb : e ≤ cb := by omega
  have hei : (e : Int) ≤ (cb : Int) := by omega
  have he0 : (0 : Int) ≤ (e : Int) := by omega
  clear pa pb va vb va' vb' hv hfd hL HFD
  go_enter Try.func33, Try.ntmps33
  go_wp2_with fail
  refine HA.out.mono ?_
  rintro e' w1 ⟨rfl, hb1⟩
  have B1 := Lib.hid hb1
  have HQ1 := Lib.hid (HQ.out w1 (HPB.out.kept hb1))
  clear hb1
  go_wp2_with fail
  refine HQ1.out.mono ?_
  rintro e' w2 ⟨rfl, hb2⟩
  have B2 := Lib.hid (B1.out.trans (hb2.mono B1.out.size))
  clear hb2 HA HQ HQ1 B1
  obtain ⟨cur, hrun, hown⟩ := hmk w2
  have BA := Lib.hid (below_alloc1 w2 (.cells cur 2))
  have B3 := Lib.hid (B2.out.trans (BA.out.mono B2.out.size))
  have HL2 := Lib.hid (HL0.out _ _ (HPA.out.kept B3.out) (HPB.out.kept B3.out) (rowO.at_ hown))
  rw [show ((nb + 1 : Nat) : Int) = (nb : Int) + 1 by omega] at hrun
  clear hown hmk HL0
  go_wp2_with fail
  refine HL2.out.mono ?_
  rintro e' w4 ⟨g4, rfl, hr4, hb4⟩
  have HR4 := Lib.hid hr4
  have B4 := Lib.hid (B3.out.trans (hb4.mono B3.out.size))
  have HM4 := Lib.hid (HMIN.out g4 w4 hr4)
  clear hr4 hb4 HL2 hrun HMIN BA B3 B2
  go_wp2_with fail
  refine HM4.out.mono ?_
  rintro e' w5 ⟨rfl, hb5⟩
  have B5 := Lib.hid (B4.out.trans (hb5.mono B4.out.size))
  have HX5 := Lib.hid (HIX.out g4 w5 (HR4.out.kept hb5))
  clear hb5 HM4 HIX HR4 B4
  go_wp2_with fail
  refine HX5.out.mono ?_
  rintro e' w6 ⟨rfl, hb6⟩
  have B6 := Lib.hid (B5.out.trans (hb6.mono B5.out.size))
  have PA6 := Lib.hid (HPA.out.kept B6.out)
  have PB6 := Lib.hid (HPE.out _ (HPB.out.kept B6.out))
  clear hb6 HX5 HPA HPB HPE B5
  go_wp2
  go_cut [11] (fun s wx => ∃ (mb ga da gc dc : Nat), s = .pointer (some ⟨mb, 0, none⟩) ∧ Hid (MB mb (.slice (some ⟨ga, 0, none⟩) na da) (.slice (some ⟨gc, 0, none⟩) e dc) 72 w6 wx) ∧ Hid (PtsAt wx (some ⟨ga, 0, none⟩) na (fun j => fa (na - 1 - j))) ∧ Hid (PtsAt wx (some ⟨gc, 0, none⟩) e (fun j => fb (e - 1 - j))))
  case first =>
    go_region_held3 (fun W => Below w6.heap.size w6 W) (first | assumption | exact (Below.refl _ _).drew | exact BW_kept (below_alloc1 _ _) (by assumption) | exact (((by assumption : Below w6.heap.size w6 _).setCell (by first | omega | (simp; done) | (simp; omega)) _).setCell (by first | omega | (simp; done) | (simp; omega)) _).setCell (by first | omega | (simp; done) | (simp; omega)) _ | go_keep)
      (first
        | (go_at_call 71; refine (HRA.out _ (PA6.out.kept (by assumption))).mono ?_; rintro e wa ⟨ga, da, rfl, hoa, hba⟩; have hka := BW_kept hba (by assumption); have hpa := pts_row hoa; have hgal := base_le hoa; have hgah := rown.row_lt hoa; obtain ⟨hca, hfa⟩ := old hba; have hza := hba.size; (try simp at hza); (try simp at hgal); (try have hza3 := Nat.lt_of_succ_le hza); have hza2 := hka.size; (try have p1 : w6.heap.size < wa.heap.size := (by omega)); clear hoa)
        | (go_at_call 71; refine (HRB.out _ (PB6.out.kept (by assumption))).mono ?_; rintro e wb ⟨gc, dc, rfl, hob, hbb⟩; have hkb := BW_kept hbb (by assumption); have hpb := pts_row hob; have hgcl := base_le hob; have hgch := rown.row_lt hob; have hpa2 := hpa.kept (by first | exact hbb | exact (below_alloc1 wa _).trans (hbb.mono (below_alloc1 wa _).size)); obtain ⟨hcb', hfb⟩ := old hbb; have hzb := hbb.size; (try simp at hzb); (try simp at hgcl); (try have hzb3 := Nat.lt_of_succ_le hzb); have hzb2 := hkb.size; (try have p2 : wa.heap.size < wb.heap.size := (by omega)); (try have p3 : w6.heap.size < wb.heap.size := (by omega)); clear hob))
    all_goals
      rename_i hh
      have HH := Lib.hid hh
      clear hh
      go_wp2_with fail
      go_meet
      refine ⟨_, ga, da, gc, dc, rfl, Lib.hid ⟨?_, ?_, ?_, ?_, HH.out⟩, Lib.hid ?_, Lib.hid ?_⟩
      · go_simp
      · go_simp
      · go_simp
      · first | (simp [World.setCell]; done) | (simp [World.setCell]; omega)
      · first | exact hpa2.kept (below_alloc1 _ _) | exact pts_set (pts_set (pts_set (by first | exact hpa2 | exact hpa2.kept (below_alloc1 _ _)) (by omega)) (by omega)) (by omega)
      · first | exact hpb.kept (below_alloc1 _ _) | exact pts_set (pts_set (pts_set (by first | exact hpb | exact hpb.kept (below_alloc1 _ _)) (by omega)) (by omega)) (by omega)
  case rest =>
    obtain ⟨mb, ga, da, gc, dc, rfl, HMB, HPA7, HPB7⟩ := hcut
    have hk := HMB.out
    have HPC := Lib.hid (fun (W : World) (h : Below wc.heap.size wc W) => (show PtsAt W (some ⟨ga, 0, none⟩) na (fun j => fa (na - 1 - j)) ∧ PtsAt W (some ⟨gc, 0, none⟩) e (fun j => fb (e - 1 - j)) from ⟨HPA7.out.kept h, HPB7.out.kept h⟩))
    have hk2 : MB mb (.slice (some ⟨ga, 0, none⟩) na da) (.slice (some ⟨gc, 0, none⟩) e dc) 72 wc wc := ⟨hk.1, hk.2.1, hk.2.2.1, hk.2.2.2.1, Below.refl _ _⟩
    have BW := Lib.hid hk.2.2.2.2
    clear hk
    go_wp2
    go_region_held3 (fun W => W.cell? ⟨mb, 0, none⟩ = some (.slice (some ⟨ga, 0, none⟩) na da) ∧ W.cell? ⟨mb, 1, none⟩ = some (.slice (some ⟨gc, 0, none⟩) e dc) ∧ W.cell? ⟨mb, 2, none⟩ = some (.int .i64 72) ∧ mb < W.heap.size ∧ Below wc.heap.size wc W) (first | assumption | exact MB_drew hk2 | go_keep)
      (first
        | (go_at_call 72; (refine (HST.out ga gc da dc _).mono ?_); rintro e' wd ⟨g7, rfl, ho, hbd⟩; have hkd := MB_kept hbd (by first | assumption | exact MB_drew hk2); have HRW := Lib.hid (rowO.at_ ho))
        | (go_at_call 68; (refine (HL1.out ga gc da dc g7 _ (HPC.out _ hkd.2.2.2.2).1 (HPC.out _ hkd.2.2.2.2).2 HRW.out).mono ?_); rintro e' we ⟨g8, rfl, hod, hbe⟩; have hke := MB_kept hbe hkd)
        | (go_at_call 70; (refine (HI1.out g8 _ hod).mono ?_); rintro e' wf ⟨rfl, hbf⟩; have hkf := MB_kept hbf hke))
    all_goals
      have B9 := Lib.hid (B6.out.trans ((BW.out.trans (hkf.2.2.2.2.mono BW.out.size)).mono B6.out.size))
      clear hod hbd hbe hbf hkd hke hkf hk2
      go_wp2
      exact bodyPost_ret (v := .tuple #[.int .i64 v, .int .i64 (x : Int), .int .i64 (e : Int), .int .i64 0]) (by simp [results, Try.results33, go_sem]) rfl ⟨rfl, B9.out⟩
end Go.Proofs.Ythpmckfjlbiiiab.dp
