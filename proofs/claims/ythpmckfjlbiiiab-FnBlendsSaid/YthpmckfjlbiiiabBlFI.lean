/-
  Proved: what the program's function that blends two sequences along a path returns.
  Conditions: none.
-/
import Derived.Test.YthpmckfjlbiiiabBlI
import Derived.Test.YthpmckfjlbiiiabFitI
namespace Go.Proofs.Ythpmckfjlbiiiab.path
open Go.ChangeShapes Go.WideShapes Go.ChangeAt Go.RowKit Go.Joins
open Go.Proofs.Ythpmckfjlbiiiab.core Go.Proofs.Ythpmckfjlbiiiab.rown Go.Proofs.Ythpmckfjlbiiiab.stk Go.Proofs.Ythpmckfjlbiiiab.boxed Go.Proofs.Ythpmckfjlbiiiab.ft Go.Proofs.Ythpmckfjlbiiiab.seq Go.Proofs.Ythpmckfjlbiiiab.near Go.Proofs.Ythpmckfjlbiiiab.put3
set_option linter.unusedVariables false
set_option linter.unusedSimpArgs false
set_option maxRecDepth 100000 in
set_option maxHeartbeats 4000000 in
theorem blendFeatsI_no {ca cb c : Nat} (A B C : Option Addr) (na nb k : Nat) (fa fb : Nat → P3) (f : Nat → P2) (w : World) (ha : na ≤ 1048576) (hb : nb ≤ 1048576) (hk : k ≤ 1048576) (pa : PtsAt w A na fa) (pb : PtsAt w B nb fb) (pc : SpAt w C k f) (h0 : fitC na nb k fa fb f ≠ 0) :
    Calls Try.prog 34 #[.slice A na ca, .slice B nb cb, .slice C k c] w fun e w' => ∃ v, e = .returned (.tuple #[v, .int .i64 (fitC na nb k fa fb f)]) ∧ w'.ownsRow w.heap.size 65 3 v 0 (rws (row3 fun _ => (0, 0, 0)) 0) ∧ Below w.heap.size w w' := by
  have HF := Lib.hid (fitsI (ca := ca) (cb := cb) (c := c) A B C na nb k fa fb f w ha hb hk pa pb pc)
  have h12 : fitC na nb k fa fb f = 1 ∨ fitC na nb k fa fb f = 2 := by have := fit_any na nb k fa fb f; omega
  clear pa pb pc h0
  rcases h12 with h | h
  all_goals
    rw [h] at HF ⊢
    clear h
    go_enter Try.func34, Try.ntmps34
    go_wp2_with fail
    refine HF.out.mono ?_
    rintro e w1 ⟨rfl, hb1⟩
    have B1 := Lib.hid hb1
    clear hb1
    go_wp2
    go_ret2
    exact ⟨.slice none 0 0, rfl, World.ownsRow_nil _ _ _ _, B1.out⟩
theorem infoBlend : (Try.prog.info? 115).map (fun i => (i.zero, i.size, i.bytes)) = some (some (.agg #[.int .i64 0, .int .i64 0, .int .i64 0]), 3, 24) := by kernel_rfl
/-- New collections of nothing. -/
theorem makeB (n : Nat) (hn : n ≤ 1048576) (w : World) : ∃ cur : Array Value, (Instr.makeSlice 113 (.int .i64 (n : Int)) (.int .i64 (n : Int))).run Try.prog w = .ok (.slice (some ⟨w.heap.size, 0, none⟩) n n) (w.alloc (.cells cur 115)) ∧
    (w.alloc (.cells cur 115)).ownsRow w.heap.size 115 3 (.slice (some ⟨w.heap.size, 0, none⟩) n n) n (rws (row3 fun _ => (0, 0, 0)) n) := by
  obtain ⟨i0, hi, hz0, hz1, hz2⟩ := rown.info_get infoBlend
  have hr := run_make (P := Try.prog) w 113 115 i0 _ Try.underlying113 hi hz0 .i64 .i64 n n (by omega) (by omega) (by rw [hz2]; omega) (by omega)
  simp only [Int.toNat_natCast] at hr
  have hl := rws_len (row3_len fun _ => (0, 0, 0)) n
  have hs : (madeCells (Value.agg #[.int .i64 0, .int .i64 0, .int .i64 0]).cells (n * i0.size)).size = n * 3 := by rw [hz1]; simp [madeCells]
  have e : (madeCells (Value.agg #[.int .i64 0, .int .i64 0, .int .i64 0]).cells (n * i0.size)).toList = rws (row3 fun _ => (0, 0, 0)) n := by
    apply List.ext_getElem?
    intro j
    rcases Nat.lt_or_ge j (n * 3) with h | h
    · obtain ⟨a, r, hr3, rfl⟩ : ∃ a r, r < 3 ∧ j = a * 3 + r := ⟨j / 3, j % 3, by omega, by omega⟩
      have h2 := rws_get (row3_len fun _ => (0, 0, 0)) a r hr3 n (by omega)
      rw [h2]
      have h3 : (a * 3 + r) % 3 = r := by omega
      have h4 : a * 3 < n * 3 := by omega
      have h5 : (List.range (n * 3))[a * 3]? = some (a * 3) := List.getElem?_range h4
      have h6 : a * 3 % 3 = 0 := by omega
      rcases (by omega : r = 0 ∨ r = 1 ∨ r = 2) with rfl | rfl | rfl <;> simp [madeCells, Value.cells, hz1, h, h3, h5, h6, row3, c3]
    · rw [List.getElem?_eq_none (by simp only [Array.length_toList]; omega), List.getElem?_eq_none (by omega)]
  refine ⟨_, hr, by omega, .inr ⟨w.heap.size, n, _, rfl, Nat.le_refl _, heap_alloc_new _ _, Nat.le_refl _, by simp only [maxLen]; omega, hs, ?_⟩⟩
  rw [e, List.take_of_length_le (by omega)]
/-- What has been collected at i behind q pairs. -/
def colF (fb : Nat → P3) (f : Nat → P2) (q i : Nat) : P3 := (bs f (gXf fb f) i q, bs f (gYf fb f) i q, bs f (fun _ => 1) i q)
theorem colF_step {fb : Nat → P3} {f : Nat → P2} {q a b : Nat} (hf : f q = ((a : Int), (b : Int))) (j : Nat) : put (colF fb f q) a ((colF fb f q a).1 + (fb b).1, (colF fb f q a).2.1 + (fb b).2.1, (colF fb f q a).2.2 + 1) j = colF fb f (q + 1) j := by
  have hx : gXf fb f q = (fb b).1 := by unfold gXf; rw [hf]; rfl
  have hy : gYf fb f q = (fb b).2.1 := by unfold gYf; rw [hf]; rfl
  unfold put
  by_cases e : j = a
  · subst e
    rw [if_pos rfl]
    unfold colF
    simp only [bs]
    rw [hf, hx, hy]
    simp
  · rw [if_neg e]
    unfold colF
    simp only [bs]
    rw [hf]
    simp only
    rw [if_neg (by omega), if_neg (by omega), if_neg (by omega)]
set_option maxRecDepth 100000 in
set_option maxHeartbeats 8000000 in
theorem blendFeatsI_yes {ca cb c : Nat} (A B C : Option Addr) (na nb k : Nat) (fa fb : Nat → P3) (f : Nat → P2) (w : World) (ha : na ≤ 1048576) (hb : nb ≤ 1048576) (hk : k ≤ 1048576) (pa : PtsAt w A na fa) (pb : PtsAt w B nb fb) (pc : SpAt w C k f) (h0 : fitC na nb k fa fb f = 0) :
    Calls Try.prog 34 #[.slice A na ca, .slice B nb cb, .slice C k c] w fun e w' => ∃ v, e = .returned (.tuple #[v, .int .i64 0]) ∧ w'.ownsRow w.heap.size 65 3 v na (rws (row3 (blendAt k fa fb f)) na) ∧ Below w.heap.size w w' := by
  obtain ⟨i0, hi0, hz0, hz1, hz2⟩ := rown.info_get infoFeat
  have HC := Lib.hid (fitsI (ca := ca) (cb := cb) (c := c) A B C na nb k fa fb f w ha hb hk pa pb pc)
  obtain ⟨va, vb, vp⟩ := fit_of h0
  have ha72 := (okQ_of va).2.1
  have HAT := Lib.hid (fun x hx => fit_at h0 x hx)
  have HVA := Lib.hid (okQ_of va).2.2
  have HHIT := Lib.hid (fun i (hi : i < na) => path_hits vp i (by omega))
  have HGX := Lib.hid (show ∀ p, p < k → (0 ≤ gXf fb f p ∧ gXf fb f p ≤ 255) ∧ (0 ≤ gYf fb f p ∧ gYf fb f p ≤ 255) from fun p hp => by
    obtain ⟨a, b, -, -, e, -, q2, -⟩ := fit_at h0 p hp
    have := inF_of q2
    unfold gXf gYf
    rw [e]
    simp only [Int.toNat_natCast]
    omega)
  have HCI := Lib.hid (show ∀ q, q ≤ k → ∀ i, (0 ≤ (colF fb f q i).1 ∧ (colF fb f q i).1 ≤ (q : Int) * 255) ∧ (0 ≤ (colF fb f q i).2.1 ∧ (colF fb f q i).2.1 ≤ (q : Int) * 255) ∧ (0 ≤ (colF fb f q i).2.2 ∧ (colF fb f q i).2.2 ≤ (q : Int) * 1) from fun q hq i =>
    ⟨bs_in (by omega) fun x hx => (HGX.out x (by omega)).1, bs_in (by omega) fun x hx => (HGX.out x (by omega)).2, bs_in (by omega) fun _ _ => ⟨by omega, by omega⟩⟩)
  have HCP := Lib.hid (show ∀ i, i < na → 1 ≤ (colF fb f k i).2.2 from fun i hi => by obtain ⟨p, hp, e⟩ := HHIT.out i hi; exact bs_pos e k hp)
  have HPA := Lib.hid pa
  have HPB := Lib.hid pb
  have HPC := Lib.hid pc
  obtain ⟨F, hF⟩ : ∃ F, F = blendAt k fa fb f := ⟨_, rfl⟩
  have HF := Lib.hid (show ∀ i, F i = (nr ((colF fb f k i).1 + (colF fb f k i).2.2 * (fa i).1) (2 * (colF fb f k i).2.2), nr ((colF fb f k i).2.1 + (colF fb f k i).2.2 * (fa i).2.1) (2 * (colF fb f k i).2.2), (fa i).2.2) from fun i => by rw [hF]; rfl)
  have HMB := Lib.hid (fun W => makeB na (by omega) W)
  have HMF := Lib.hid (fun W => makeF na (by omega) W)
  rw [h0] at HC
  rw [← hF]
  clear pa pb pc h0 va vb vp hF HGX HHIT
  go_enter Try.func34, Try.ntmps34
  go_wp2_with fail
  refine HC.out.mono ?_
  rintro e w1 ⟨rfl, hb1⟩
  have B1 := Lib.hid hb1
  have PA1 := Lib.hid (HPA.out.kept hb1)
  have PB1 := Lib.hid (HPB.out.kept hb1)
  have PC1 := Lib.hid (HPC.out.kept hb1)
  obtain ⟨cur, hmk, ho⟩ := HMB.out w1
  have HO0 := Lib.hid ho
  clear hb1 HC HPA HPB HPC ho
  go_wp2
  clear hmk
  go_loopw [27] (fun j w' => ∃ q : Nat, q ≤ k ∧ j = .int .i64 (q : Int) ∧ Hid (w'.ownsRow w1.heap.size 115 3 (.slice (some ⟨w1.heap.size, 0, none⟩) na na) na (rws (row3 (colF fb f q)) na)) ∧ Hid (Below w1.heap.size w1 w')) (fun j _ => k - (intOf j).toNat)
  case atStart => exact ⟨0, Nat.zero_le _, rfl, Lib.hid (own_cast HO0.out fun j hj => rfl), Lib.hid (below_alloc1 _ _)⟩
  case round =>
    obtain ⟨q, hq, rfl, HO, HB⟩ := hrel
    by_cases hlt : q < k
    · have hli : (q : Int) < (k : Int) := by omega
      obtain ⟨i, j, hi, hj, hfx, q1, q2, -⟩ := HAT.out q hlt
      have hii : (i : Int) < (na : Int) := by omega
      have hjj : (j : Int) < (nb : Int) := by omega
      have hip : (0 : Int) ≤ (i : Int) := by omega
      have hjp : (0 : Int) ≤ (j : Int) := by omega
      obtain ⟨g0, o0, rfl, hg0, a0, a1⟩ := (PC1.out.kept HB.out) q hlt
      obtain ⟨g2, o2, rfl, hg2, d0, d1, d2⟩ := (PB1.out.kept HB.out) j hj
      rw [hfx] at a0 a1
      simp only at a0 a1
      have hci := HCI.out q (by omega) i
      have HS := Lib.hid (colF_step (fb := fb) hfx)
      have HADD := Lib.hid (fun (W : World) (hW : W.ownsRow w1.heap.size 115 3 (.slice (some ⟨w1.heap.size, 0, none⟩) na na) na (rws (row3 (colF fb f q)) na)) (hz : w1.heap.size ≤ W.heap.size) => addI (fb j) W hW hz hi q2 (by omega))
      obtain ⟨p, hp⟩ : ∃ p, fb j = p := ⟨_, rfl⟩
      rw [hp] at d0 d1 d2 HADD HS
      have HQ := Lib.hid (show q + 1 ≤ k by omega)
      clear hp hfx q1 q2 hci
      go_wp2
      have K0 := heap_alloc_new wr (.cells #[.int .i64 (i : Int), .int .i64 (j : Int)] 59)
      have hbw : Below wr.heap.size wr (wr.alloc (.cells #[.int .i64 (i : Int), .int .i64 (j : Int)] 59)) := below_alloc1 _ _
      obtain ⟨w0, hw0⟩ : ∃ v, v = wr.alloc (.cells #[.int .i64 (i : Int), .int .i64 (j : Int)] 59) := ⟨_, rfl⟩
      rw [← hw0] at K0 hbw ⊢
      have z0 := block_size K0
      have z2 := Nat.lt_of_lt_of_le hg2 hbw.size
      have A0 : w0.cell? ⟨wr.heap.size, 0, none⟩ = some (.int .i64 (i : Int)) := by rw [cell_of_block K0]; rfl
      have A1 : w0.cell? ⟨wr.heap.size, 1, none⟩ = some (.int .i64 (j : Int)) := by rw [cell_of_block K0]; rfl
      have D0 := (hbw.cell (p := ⟨g2, o2 + j * 3, none⟩) hg2).trans d0
      have D1 := (hbw.cell (p := ⟨g2, o2 + j * 3 + 1, none⟩) hg2).trans d1
      have D2 := (hbw.cell (p := ⟨g2, o2 + j * 3 + 2, none⟩) hg2).trans d2
      have HB8 := Lib.hid (HB.out.trans (hbw.mono HB.out.size))
      have HO8 := Lib.hid (rown.ownsRow_kept HO.out hbw)
      have HA8 := Lib.hid (HADD.out w0.drew (rown.ownsRow_kept HO8.out ((Below.refl _ _).drew)) HB8.out.drew.size)
      clear a0 a1 d0 d1 d2 hg0 hg2 hw0 hbw K0
      go_region_with (go_at_call 73; (with_reducible refine HA8.out.mono ?_); rintro e w4 ⟨rfl, ho4, hb4⟩; have HO4 := Lib.hid (own_cast ho4 (fun j _ => HS.out j)); have HB4 := Lib.hid (HB8.out.drew.trans hb4); clear ho4 hb4)
      all_goals
        clear A0 A1 D0 D1 D2 z0 z2
        go_wp2
        go_roundw
        case rel => exact ⟨q + 1, HQ.out, by go_num, HO4, HB4⟩
        case measure => (have := HQ.out; simp [intOf]; omega)
    · obtain rfl : q = k := by omega
      obtain ⟨W1, rfl⟩ : ∃ v, v = wr := ⟨_, rfl⟩
      have HPAk := Lib.hid (PA1.out.kept HB.out)
      obtain ⟨cur2, hcs2, hmk2⟩ := HMF.out W1
      have HOF := Lib.hid (make_row W1 65 na cur2 hcs2 (by simp only [maxLen]; omega))
      have HBF := Lib.hid (below_alloc1 W1 (.cells cur2 65))
      have hz1' := HB.out.size
      go_wp2
      clear hmk2
      go_loopw [12, 47] (fun o j w' => ∃ (i d : Nat) (D : Option Addr), i ≤ na ∧ j = .int .i64 (i : Int) ∧ o = .slice D i d ∧ Hid (w'.ownsRow W1.heap.size 65 3 (.slice D i d) i (rws (row3 F) i)) ∧ Hid (Below W1.heap.size W1 w')) (fun _ j _ => na - (intOf j).toNat)
      case atStart => exact ⟨0, na, _, Nat.zero_le _, rfl, rfl, HOF, HBF⟩
      case round =>
        obtain ⟨i, d, D, hi, rfl, rfl, HO2, HB2⟩ := hrel
        by_cases hli2 : i < na
        · have hii : (i : Int) < (na : Int) := by omega
          have hip : (0 : Int) ≤ (i : Int) := by omega
          obtain ⟨g1, o1, rfl, hg1, a0, a1, a2⟩ := (HPAk.out.kept HB2.out) i hli2
          have HOK := Lib.hid (rown.ownsRow_kept HO.out HB2.out)
          have hci := HCI.out q (Nat.le_refl _) i
          have hcp := HCP.out i hli2
          have HE := Lib.hid (show rws (row3 F) (i + 1) = rws (row3 F) i ++ c3 (F i) by rw [rws_succ]; rfl)
          have hFi := HF.out i
          have hin := HVA.out i hli2
          obtain ⟨X, Y, Q, hXYQ⟩ : ∃ X Y Q, colF fb f q i = (X, Y, Q) := ⟨_, _, _, rfl⟩
          have x0 := row_cell HOK.out (row3_len _) hli2 (show 0 < 3 by omega) (v := .int .i64 X) (by unfold row3; rw [hXYQ]; rfl)
          have x1 := row_cell HOK.out (row3_len _) hli2 (show 1 < 3 by omega) (v := .int .i64 Y) (by unfold row3; rw [hXYQ]; rfl)
          have x2 := row_cell HOK.out (row3_len _) hli2 (show 2 < 3 by omega) (v := .int .i64 Q) (by unfold row3; rw [hXYQ]; rfl)
          rw [hXYQ] at hci hcp hFi
          simp only [Nat.add_zero] at x0 x1 x2 hci hcp hFi
          have xz := rown.row_lt HOK.out
          obtain ⟨p, hp⟩ : ∃ p, fa i = p := ⟨_, rfl⟩
          rw [hp] at a0 a1 a2 hin hFi
          have K0 := heap_alloc_new wr (.cells #[.int .i64 p.1, .int .i64 p.2.1, .int .i64 p.2.2] 65)
          have hbw : Below wr.heap.size wr (wr.alloc (.cells #[.int .i64 p.1, .int .i64 p.2.1, .int .i64 p.2.2] 65)) := below_alloc1 _ _
          obtain ⟨w0, hw0⟩ : ∃ v, v = wr.alloc (.cells #[.int .i64 p.1, .int .i64 p.2.1, .int .i64 p.2.2] 65) := ⟨_, rfl⟩
          rw [← hw0] at K0 hbw
          have y0 := (hbw.cell (p := ⟨w1.heap.size, i * 3, none⟩) xz).trans x0
          have y1 := (hbw.cell (p := ⟨w1.heap.size, i * 3 + 1, none⟩) xz).trans x1
          have y2 := (hbw.cell (p := ⟨w1.heap.size, i * 3 + 2, none⟩) xz).trans x2
          have HWI := Lib.hid (withI (g := w1.heap.size) (o := i * 3) X Y Q p w0.drew hin (by omega) (by omega) (by omega) y0 y1 y2)
          have z0 := block_size K0
          have c0 : w0.cell? ⟨wr.heap.size, 0, none⟩ = some (.int .i64 p.1) := by rw [cell_of_block K0]; rfl
          have c1 : w0.cell? ⟨wr.heap.size, 1, none⟩ = some (.int .i64 p.2.1) := by rw [cell_of_block K0]; rfl
          have c2 : w0.cell? ⟨wr.heap.size, 2, none⟩ = some (.int .i64 p.2.2) := by rw [cell_of_block K0]; rfl
          have HO8 := Lib.hid (show w0.drew.ownsRow W1.heap.size 65 3 (.slice D i d) i (rws (row3 F) i) from rown.ownsRow_kept HO2.out hbw.drew)
          have HB8 := Lib.hid (show Below W1.heap.size W1 w0.drew from (HB2.out.trans (hbw.mono HB2.out.size)).drew)
          obtain ⟨R1, hR1⟩ : ∃ v, nr (X + Q * p.1) (2 * Q) = v := ⟨_, rfl⟩
          obtain ⟨R2, hR2⟩ : ∃ v, nr (Y + Q * p.2.1) (2 * Q) = v := ⟨_, rfl⟩
          rw [hR1, hR2] at HWI hFi
          rw [hFi] at HE
          have HW0 := Lib.hid hw0
          have HI := Lib.hid (show i + 1 ≤ na by omega)
          clear hR1 hR2 hFi hci hcp hin hp hXYQ x0 x1 x2 xz y0 y1 y2 hbw K0 hw0
          go_wp2
          rw [← HW0.out]
          go_region_law (first
            | (refine step_append_lies _ rfl (.tmp 52) (.tmp 58) _ rfl W1.heap.size 65 i0 _ 3 24 Try.underlying24 hi0 hz0 hz1 hz2 rfl (by omega) (.slice D i d) i _ (by simp [Act.eval]) (rown.ownsRow_kept HO9.out (below_alloc1 _ _)) ⟨w9.heap.size, 0, none⟩ 1 1 [.int .i64 R1, .int .i64 R2, .int .i64 p.2.2] (by simp [Act.eval]) (by simp) (three_new rfl) (by simp [Value.oneCell']) (by omega) (by simp only [maxLen]; omega) (by omega) (Nat.le_trans HZ9.out (by simp)) _ rfl ?_; intro g3 cap3 w5 hown hgr hat hlt3; have HO4 := Lib.hid hown; have HB4 := Lib.hid (HB9.out.trans (rown.under HO9.out HZ9.out hgr)); clear hown hgr hat)
            | (go_simp; go_at_call 74; (with_reducible refine HWI.out.mono ?_); rintro e w9 ⟨rfl, hb9⟩; have HO9 := Lib.hid (rown.ownsRow_kept HO8.out hb9); have HB9 := Lib.hid (HB8.out.trans (hb9.mono HB8.out.size)); have HZ9 := Lib.hid HB9.out.size; clear hb9))
          all_goals
            clear a0 a1 a2 c0 c1 c2 z0
            go_wp2
            go_roundw
            case rel => exact ⟨i + 1, cap3, some ⟨g3, 0, none⟩, HI.out, by go_num, rfl, Lib.hid (by rw [HE.out]; exact HO4.out), HB4⟩
            case measure => (have := HI.out; simp [intOf]; omega)
        · obtain rfl : i = na := by omega
          go_wp2
          go_ret2
          exact ⟨_, rfl, row_low HO2.out (Nat.le_trans B1.out.size HB.out.size), B1.out.trans ((HB.out.trans (HB2.out.mono HB.out.size)).mono B1.out.size)⟩
end Go.Proofs.Ythpmckfjlbiiiab.path
