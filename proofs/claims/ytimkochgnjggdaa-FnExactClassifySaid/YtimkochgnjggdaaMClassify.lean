/-
  Proved: both functions that tell the label with the greatest score return the same label and the same margin.
  Conditions: none.
-/
import Derived.Test.YtimkochgnjggdaaMScoresOf
import Derived.Test.YtimkochgnjggdaaLead
namespace Go.Proofs.Ytimkochgnjggdaa.wClassify
open Go.ChangeShapes Go.WideShapes Go.ChangeAt Go.RowKit Go.Joins
open Go.Proofs.Ytimkochgnjggdaa.core Go.Proofs.Ytimkochgnjggdaa.rown Go.Proofs.Ytimkochgnjggdaa.stk Go.Proofs.Ytimkochgnjggdaa.boxed Go.Proofs.Ytimkochgnjggdaa.ft Go.Proofs.Ytimkochgnjggdaa.inp Go.Proofs.Ytimkochgnjggdaa.per Go.Proofs.Ytimkochgnjggdaa.sco Go.Proofs.Ytimkochgnjggdaa.bst Go.Proofs.Ytimkochgnjggdaa.led
open Go.Proofs.Ytimkochgnjggdaa.one1 (NumAt SsAt WsAt num_row own_sl)
open Go.Proofs.Ytimkochgnjggdaa.wScoresOf (PB Sc inX_of implSc dot_i)
set_option linter.unusedVariables false
set_option linter.unusedSimpArgs false
theorem maxS (a b : Int) (w : World) : Calls Try.prog 83 #[.int .i64 a, .int .i64 b] w fun e w' => e = .returned (.int .i64 (max a b)) ∧ Below w.heap.size w w' := by
  by_cases h : b < a
  · have hd : decide (b < a) = true := decide_eq_true h
    have HA := Lib.hid (show a = max a b by omega)
    go_enter Try.func83, Try.ntmps83
    go_wp2
    go_ret
    exact ⟨by rw [← HA.out]; rfl, Below.refl _ _⟩
  · have hd : decide (b < a) = false := decide_eq_false h
    have HA := Lib.hid (show b = max a b by omega)
    go_enter Try.func83, Try.ntmps83
    go_wp2
    go_ret
    exact ⟨by rw [← HA.out]; rfl, Below.refl _ _⟩
/-- What is returned: a label, how far its score is before the next one, and a code. -/
def Cl (w : World) (t : ByteArray) (v code : Int) (e : Ending) (w' : World) : Prop := e = .returned (.tuple #[.string t, .int .i64 v, .int .i64 code]) ∧ Below w.heap.size w w'
theorem scr_in {m : Nat} {wn : Nat → Nat} {wf : Nat → Nat → Int} {x : Nat → Int} (hw : ∀ i, i < m → RowOk (wn i) (wf i)) (hx : InX x) : ∀ i, i < m → -100000000000 ≤ scr wf x i ∧ scr wf x i ≤ 100000000000 := fun i hi => by
  have := dot_in (hw i hi).2 hx 25 (Nat.le_refl _)
  unfold scr
  omega
set_option maxRecDepth 100000 in
set_option maxHeartbeats 4000000 in
theorem specCl_no {c d cf : Nat} (A B L : Option Addr) (n m k : Nat) (s : Nat → ByteArray) (wn : Nat → Nat) (wf : Nat → Nat → Int) (f : Nat → P3) (w : World) (hl : PeL n m s wn) (hp : SsAt w A n s) (hq : WsAt w B m wn wf) (hk : k ≤ 1048576) (hf : PtsAt w L k f) (hno : ¬ (peB n m s wn wf = true ∧ okF k f = true)) :
    Calls Try.prog 39 #[.agg #[.slice A n c, .slice B m d], .slice L k cf] w (Cl w ⟨#[]⟩ 0 1) := by
  have HZ := Lib.hid (PB.start w (.slice A n c) (.slice B m d))
  have HO := Lib.hid (okPS (c := c) (d := d) w.heap.size 0 A B n m s wn wf _ HZ.out.lt HZ.out.cells.1 HZ.out.cells.2 hl (hp.kept HZ.out.below) (hq.kept HZ.out.below))
  unfold Cl
  cases hv : peB n m s wn wf with
  | false =>
    rw [hv] at HO
    clear hl hp hq hf hv hno
    go_enter Try.func39, Try.ntmps39
    go_wp2_with fail
    refine HO.out.mono ?_
    rintro e w1 ⟨rfl, hb⟩
    have HB := Lib.hid (HZ.out.kept hb).below
    clear hb
    go_wp2
    go_ret3
    exact ⟨rfl, HB.out⟩
  | true =>
    rw [hv] at HO
    have HF := Lib.hid (fun (W : World) (hW : Below w.heap.size w W) => okS (c := cf) L k f W hk (hf.kept hW))
    have hu : okF k f = false := by
      cases h : okF k f with
      | false => rfl
      | true => exact absurd ⟨hv, h⟩ hno
    rw [hu] at HF
    clear hl hp hq hf hv hu hno
    go_enter Try.func39, Try.ntmps39
    go_wp2_with fail
    refine HO.out.mono ?_
    rintro e w1 ⟨rfl, hb⟩
    have HZ1 := Lib.hid (HZ.out.kept hb)
    clear hb
    go_wp2_with fail
    refine (HF.out _ HZ1.out.below).mono ?_
    rintro e w2 ⟨rfl, hb⟩
    have HB := Lib.hid (HZ1.out.kept hb).below
    clear hb
    go_wp2
    go_ret3
    exact ⟨rfl, HB.out⟩
set_option maxRecDepth 100000 in
set_option maxHeartbeats 8000000 in
theorem specCl_yes {c d cf : Nat} (A B L : Option Addr) (M k : Nat) (s : Nat → ByteArray) (wn : Nat → Nat) (wf : Nat → Nat → Int) (f : Nat → P3) (w : World) (hl : PeL (M + 1) (M + 1) s wn) (hp : SsAt w A (M + 1) s) (hq : WsAt w B (M + 1) wn wf) (hk : k ≤ 1048576) (hf : PtsAt w L k f) (hv : peB (M + 1) (M + 1) s wn wf = true) (hu : okF k f = true) :
    Calls Try.prog 39 #[.agg #[.slice A (M + 1) c, .slice B (M + 1) d], .slice L k cf] w (Cl w (s (bst (scr wf (inN f k)) M)) (max (mg (scr wf (inN f k)) (bst (scr wf (inN f k)) M) (M + 1)) 0) 0) := by
  have HZ := Lib.hid (PB.start w (.slice A (M + 1) c) (.slice B (M + 1) d))
  have HO := Lib.hid (okPS (c := c) (d := d) w.heap.size 0 A B (M + 1) (M + 1) s wn wf _ HZ.out.lt HZ.out.cells.1 HZ.out.cells.2 hl (hp.kept HZ.out.below) (hq.kept HZ.out.below))
  unfold Cl
  rw [hv] at HO
  have HF := Lib.hid (fun (W : World) (hW : Below w.heap.size w W) => okS (c := cf) L k f W hk (hf.kept hW))
  rw [hu] at HF
  obtain ⟨hlb, hmn, hrows⟩ := pe_iff.1 hv
  have hm12 : M + 1 ≤ 12 := by have := hlb.1; omega
  have HI := Lib.hid (fun (W : World) (hW : Below w.heap.size w W) => inputS (c := cf) L k f W (hf.kept hW) hu)
  have HS := Lib.hid (fun (W : World) (b0 : Nat) (X : Option Addr) (hW : Below w.heap.size w W) (hb : b0 < W.heap.size) (c1 : W.cell? ⟨b0, 0 + 1, none⟩ = some (.slice B (M + 1) d)) (hx : NumAt W X 25 (inN f k)) => scoresS (dx := 25) b0 0 B X (M + 1) wn wf (inN f k) W hb c1 hm12 hrows (inX_of hu) (hq.kept hW) hx)
  have HBD := Lib.hid (scr_in hrows (inX_of hu))
  have HP := Lib.hid hp
  generalize inN f k = x at *
  generalize scr wf x = F at *
  have HBE := Lib.hid (fun (W : World) (A' : Option Addr) (c' : Nat) (h : NumAt W A' (M + 1) F) => bestS (c := c') A' M F W (by omega) h)
  have hbl := bst_le F M
  obtain ⟨g, hg⟩ : ∃ g, bst F M = g := ⟨_, rfl⟩
  rw [hg] at HBE hbl ⊢
  obtain ⟨r, hr⟩ : ∃ r, max (mg F g (M + 1)) 0 = r := ⟨_, rfl⟩
  rw [hr]
  have HR := Lib.hid hr
  clear hl hp hq hf hv hu hlb hrows hmn hg hr
  have hmix := mixedB
  go_enter Try.func39, Try.ntmps39
  go_wp2_with fail
  refine HO.out.mono ?_
  rintro e w1 ⟨rfl, hb⟩
  have HZ1 := Lib.hid (HZ.out.kept hb)
  clear hb
  go_wp2_with fail
  refine (HF.out _ HZ1.out.below).mono ?_
  rintro e w2 ⟨rfl, hb⟩
  have HZ2 := Lib.hid (HZ1.out.kept hb)
  clear hb
  go_wp2_with fail
  refine (HI.out _ HZ2.out.below).mono ?_
  rintro e w3 ⟨gx, rfl, ho, hb⟩
  have HZ3 := Lib.hid (HZ2.out.kept hb)
  have HX := Lib.hid (num_row ho)
  clear ho hb
  go_wp2_with fail
  refine (HS.out _ _ _ HZ3.out.below HZ3.out.lt HZ3.out.cells.2 HX.out).mono ?_
  rintro e w4 ⟨v, rfl, ho, hb⟩
  obtain ⟨A', c', rfl⟩ := own_sl ho (by decide)
  have HN := Lib.hid (num_row ho)
  have HZ4 := Lib.hid (HZ3.out.kept hb)
  clear ho hb
  go_wp2_with fail
  refine (HBE.out _ _ _ HN.out).mono ?_
  rintro e w5 ⟨rfl, hb⟩
  have HZ5 := Lib.hid (HZ4.out.kept hb)
  have HN5 := Lib.hid (HN.out.kept hb)
  clear hb
  go_wp2
  go_loopw [9, 10] (fun m i w' => ∃ k : Nat, k ≤ M + 1 ∧ m = .int .i64 (mg F g k) ∧ i = .int .i64 (k : Int) ∧ Hid (Below w5.heap.size w5 w')) (fun _ i _ => M + 1 - (intOf i).toNat)
  case atStart => exact ⟨0, Nat.zero_le _, rfl, rfl, Lib.hid (Below.refl _ _)⟩
  case round =>
    obtain ⟨k, hk, rfl, rfl, HB⟩ := hrel
    by_cases hlt : k < M + 1
    · have hli : (k : Int) < (M : Int) + 1 := by omega
      have hgi : (g : Int) < (M : Int) + 1 := by omega
      have hgn : g < M + 1 := by omega
      have hgw : IntKind.i64.wrap ((k : Int) + 1) = (k : Int) + 1 := IntWalk.i64_in _ (by omega)
      have HST := Lib.hid (show mg F g (k + 1) = if k ≠ g ∧ (mg F g k < 0 ∨ F g - F k < mg F g k) then F g - F k else mg F g k from rfl)
      obtain ⟨b1, o1, rfl, hb1, p0⟩ := (HN5.out.kept HB.out) k hlt
      obtain ⟨b2, o2, e2, hb2, p1⟩ := (HN5.out.kept HB.out) g hgn
      obtain ⟨rfl, rfl⟩ : b2 = b1 ∧ o2 = o1 := by
        injection e2 with e2
        injection e2 with e3 e4
        exact ⟨e3.symm, e4.symm⟩
      have hd1 := HBD.out k hlt
      have hd2 := HBD.out g hgn
      have hw : IntKind.i64.wrap (F g - F k) = F g - F k := IntWalk.i64_in _ (by omega)
      obtain ⟨u, hu⟩ : ∃ u, F g = u := ⟨_, rfl⟩
      obtain ⟨v, hv⟩ : ∃ v, F k = v := ⟨_, rfl⟩
      obtain ⟨m, hm⟩ : ∃ m, mg F g k = m := ⟨_, rfl⟩
      rw [hu, hv] at hw
      rw [hu, hv, hm] at HST
      rw [hu] at p1
      rw [hv] at p0
      rw [hm]
      clear hu hv hm e2 hd1 hd2
      have P0 := Lib.hid p0
      have P1 := Lib.hid p1
      replace p0 := core.cell_kept hb1 p0
      replace p1 := core.cell_kept hb1 p1
      by_cases hkg : k = g
      · have HE := Lib.hid (show mg F g (k + 1) = m by rw [HST.out, if_neg (fun h => h.1 hkg)])
        have n1 : decide ((k : Int) = (g : Int)) = true := decide_eq_true (by omega)
        have n2 : ((k : Int) == (g : Int)) = true := by simp; omega
        have n3 : (k : Int) = (g : Int) := by omega
        go_wp2
        refine wp_region_quiet_kept (by assumption) (by kernel_rfl) ?_
        repeat (first | go_big_quiet_step (fail) | quiet_step (fail))
        refine wpQuiet_nil ?_
        intro w6 hw'
        have hB : Below wr.heap.size wr w6 := by obtain ⟨⟨wk, hb0⟩, hw''⟩ := hw'; rw [hw'']; exact hb0
        have HB2 := Lib.hid (HB.out.trans (hB.mono HB.out.size))
        clear hw' hB p0 p1
        go_wp2
        go_roundw
        case rel => exact ⟨k + 1, by omega, by rw [HE.out], by go_num, HB2⟩
        case measure => simp [intOf]; omega
      · by_cases h0 : m < 0
        · have HE := Lib.hid (show mg F g (k + 1) = u - v by rw [HST.out, if_pos ⟨hkg, .inl h0⟩])
          have n1 : decide ((k : Int) = (g : Int)) = false := decide_eq_false (by omega)
          have n2 : ((k : Int) == (g : Int)) = false := by simp; omega
          have n3 : ¬ (k : Int) = (g : Int) := by omega
          have n4 : decide (m < 0) = true := decide_eq_true h0
          go_wp2
          refine wp_region_quiet_kept (by assumption) (by kernel_rfl) ?_
          repeat (first | go_big_quiet_step (fail) | quiet_step (fail))
          refine wpQuiet_nil ?_
          intro w6 hw'
          have hB : Below wr.heap.size wr w6 := by obtain ⟨⟨wk, hb0⟩, hw''⟩ := hw'; rw [hw'']; exact hb0
          have hz6 := Nat.lt_of_lt_of_le hb1 hB.size
          have HB1 := Lib.hid (HB.out.trans (hB.mono HB.out.size))
          have p0 := core.cell_kept hz6 ((hB.cell (p := ⟨b2, o2 + k, none⟩) hb1).trans P0.out)
          have p1 := core.cell_kept hz6 ((hB.cell (p := ⟨b2, o2 + g, none⟩) hb1).trans P1.out)
          clear hw' hB
          go_wp2
          refine wp_region_quiet_kept (by assumption) (by kernel_rfl) ?_
          repeat (first | go_big_quiet_step (fail) | quiet_step (fail))
          refine wpQuiet_nil ?_
          intro w7 hw'
          have hB : Below w6.heap.size w6 w7 := by obtain ⟨⟨wk, hb0⟩, hw''⟩ := hw'; rw [hw'']; exact hb0
          have HB2 := Lib.hid (HB1.out.trans (hB.mono HB1.out.size))
          clear hw' hB p0 p1
          go_wp2
          go_roundw
          case rel => exact ⟨k + 1, by omega, by rw [HE.out], by go_num, HB2⟩
          case measure => simp [intOf]; omega
        · by_cases h1 : u - v < m
          · have HE := Lib.hid (show mg F g (k + 1) = u - v by rw [HST.out, if_pos ⟨hkg, .inr h1⟩])
            have n1 : decide ((k : Int) = (g : Int)) = false := decide_eq_false (by omega)
            have n2 : ((k : Int) == (g : Int)) = false := by simp; omega
            have n3 : ¬ (k : Int) = (g : Int) := by omega
            have n4 : decide (m < 0) = false := decide_eq_false h0
            have n5 : decide (u - v < m) = true := decide_eq_true h1
            go_wp2
            refine wp_region_quiet_kept (by assumption) (by kernel_rfl) ?_
            repeat (first | go_big_quiet_step (fail) | quiet_step (fail))
            refine wpQuiet_nil ?_
            intro w6 hw'
            have hB : Below wr.heap.size wr w6 := by obtain ⟨⟨wk, hb0⟩, hw''⟩ := hw'; rw [hw'']; exact hb0
            have hz6 := Nat.lt_of_lt_of_le hb1 hB.size
            have HB1 := Lib.hid (HB.out.trans (hB.mono HB.out.size))
            have p0 := core.cell_kept hz6 ((hB.cell (p := ⟨b2, o2 + k, none⟩) hb1).trans P0.out)
            have p1 := core.cell_kept hz6 ((hB.cell (p := ⟨b2, o2 + g, none⟩) hb1).trans P1.out)
            clear hw' hB
            go_wp2
            refine wp_region_quiet_kept (by assumption) (by kernel_rfl) ?_
            repeat (first | go_big_quiet_step (fail) | quiet_step (fail))
            refine wpQuiet_nil ?_
            intro w7 hw'
            have hB : Below w6.heap.size w6 w7 := by obtain ⟨⟨wk, hb0⟩, hw''⟩ := hw'; rw [hw'']; exact hb0
            have HB2 := Lib.hid (HB1.out.trans (hB.mono HB1.out.size))
            clear hw' hB p0 p1
            go_wp2
            go_roundw
            case rel => exact ⟨k + 1, by omega, by rw [HE.out], by go_num, HB2⟩
            case measure => simp [intOf]; omega
          · have HE := Lib.hid (show mg F g (k + 1) = m by rw [HST.out, if_neg (fun h => by rcases h.2 with h | h; exact h0 h; exact h1 h)])
            have n1 : decide ((k : Int) = (g : Int)) = false := decide_eq_false (by omega)
            have n2 : ((k : Int) == (g : Int)) = false := by simp; omega
            have n3 : ¬ (k : Int) = (g : Int) := by omega
            have n4 : decide (m < 0) = false := decide_eq_false h0
            have n5 : decide (u - v < m) = false := decide_eq_false h1
            go_wp2
            refine wp_region_quiet_kept (by assumption) (by kernel_rfl) ?_
            repeat (first | go_big_quiet_step (fail) | quiet_step (fail))
            refine wpQuiet_nil ?_
            intro w6 hw'
            have hB : Below wr.heap.size wr w6 := by obtain ⟨⟨wk, hb0⟩, hw''⟩ := hw'; rw [hw'']; exact hb0
            have HB2 := Lib.hid (HB.out.trans (hB.mono HB.out.size))
            clear hw' hB p0 p1
            go_wp2
            go_roundw
            case rel => exact ⟨k + 1, by omega, by rw [HE.out], by go_num, HB2⟩
            case measure => simp [intOf]; omega
    · obtain rfl : k = M + 1 := by omega
      have hli : ¬ (M : Int) + 1 < (M : Int) + 1 := by omega
      obtain ⟨lb, lo, rfl, hlb, l0⟩ := (HP.out.kept (HZ5.out.kept HB.out).below) g (by omega)
      have hgi : (g : Int) < (M : Int) + 1 := by omega
      have hgn : g < M + 1 := by omega
      obtain ⟨q0, -⟩ := (HZ5.out.kept HB.out).cells
      have HMX := Lib.hid (maxS (mg F g (M + 1)) 0)
      have HBF := Lib.hid (HZ5.out.kept HB.out).below
      rw [HR.out] at HMX
      obtain ⟨m0, hm0⟩ : ∃ m, mg F g (M + 1) = m := ⟨_, rfl⟩
      rw [hm0] at HMX ⊢
      clear hm0
      have hzl := Nat.lt_of_lt_of_le (HZ5.out.lt) HB.out.size
      replace l0 := core.cell_kept hlb l0
      replace q0 := core.cell_kept hzl q0
      go_wp2
      refine wp_region_quiet_kept (by assumption) (by kernel_rfl) ?_
      repeat (first | go_big_quiet_step (((go_at_call 83; with_reducible exact Calls.kept_of (HMX.out _)))) | quiet_step (((go_at_call 83; with_reducible exact Calls.kept_of (HMX.out _)))))
      refine wpQuiet_nil ?_
      intro w6 hw'
      have hB : Below wr.heap.size wr w6 := by obtain ⟨⟨wk, hb0⟩, hw''⟩ := hw'; rw [hw'']; exact hb0
      have HB2 := Lib.hid (HBF.out.trans (hB.mono HBF.out.size))
      clear hw' hB
      go_wp2
      go_ret3
      exact ⟨rfl, HB2.out⟩
set_option maxRecDepth 100000 in
set_option maxHeartbeats 4000000 in
theorem implCl_no {c d cf : Nat} (A B L : Option Addr) (n m k : Nat) (s : Nat → ByteArray) (wn : Nat → Nat) (wf : Nat → Nat → Int) (f : Nat → P3) (w : World) (hl : PeL n m s wn) (hp : SsAt w A n s) (hq : WsAt w B m wn wf) (hk : k ≤ 1048576) (hf : PtsAt w L k f) (hno : ¬ (peB n m s wn wf = true ∧ okF k f = true)) :
    Calls Try.prog 40 #[.agg #[.slice A n c, .slice B m d], .slice L k cf] w (Cl w ⟨#[]⟩ 0 1) := by
  have HZ := Lib.hid (PB.start w (.slice A n c) (.slice B m d))
  have HS := Lib.hid (implSc (c := c) (d := d) (cf := cf) A B L n m k s wn wf f _ hl (hp.kept HZ.out.below) (hq.kept HZ.out.below) hk (hf.kept HZ.out.below))
  rw [if_neg hno] at HS
  unfold Sc at HS
  unfold Cl
  obtain ⟨q0, q1⟩ := HZ.out.cells
  clear hl hp hq hf hno
  go_enter Try.func40, Try.ntmps40
  go_wp2_with fail
  refine HS.out.mono ?_
  rintro e w1 ⟨v, rfl, -, hb⟩
  have HB := Lib.hid (HZ.out.kept hb).below
  clear hb q0 q1
  go_wp2
  go_ret3
  exact ⟨rfl, HB.out⟩
set_option maxRecDepth 100000 in
set_option maxHeartbeats 8000000 in
theorem implCl_yes {c d cf : Nat} (A B L : Option Addr) (M k : Nat) (s : Nat → ByteArray) (wn : Nat → Nat) (wf : Nat → Nat → Int) (f : Nat → P3) (w : World) (hl : PeL (M + 1) (M + 1) s wn) (hp : SsAt w A (M + 1) s) (hq : WsAt w B (M + 1) wn wf) (hk : k ≤ 1048576) (hf : PtsAt w L k f) (hv : peB (M + 1) (M + 1) s wn wf = true) (hu : okF k f = true) :
    Calls Try.prog 40 #[.agg #[.slice A (M + 1) c, .slice B (M + 1) d], .slice L k cf] w (Cl w (s (bst (scr wf (inN f k)) M)) (max (mg (scr wf (inN f k)) (bst (scr wf (inN f k)) M) (M + 1)) 0) 0) := by
  have HZ := Lib.hid (PB.start w (.slice A (M + 1) c) (.slice B (M + 1) d))
  have HS := Lib.hid (implSc (c := c) (d := d) (cf := cf) A B L (M + 1) (M + 1) k s wn wf f _ hl (hp.kept HZ.out.below) (hq.kept HZ.out.below) hk (hf.kept HZ.out.below))
  rw [if_pos ⟨hv, hu⟩] at HS
  unfold Sc at HS
  unfold Cl
  obtain ⟨hlb, hmn, hrows⟩ := pe_iff.1 hv
  have hm12 : M + 1 ≤ 12 := by have := hlb.1; omega
  have HBD := Lib.hid (scr_in hrows (inX_of hu))
  have HP := Lib.hid hp
  obtain ⟨F, hF⟩ : ∃ F, scr wf (inN f k) = F := ⟨_, rfl⟩
  rw [hF] at HS HBD ⊢
  have hbl := bst_le F M
  have HBI := Lib.hid (fun (w1 : World) (A' : Option Addr) (c' : Nat) (h : NumAt w1 A' (M + 1) F) (p : Kept w1) => (bestI (c := c') A' M F p.world (by omega) (h.kept p.below)).mono (fun e w' h => (⟨h.1, h.2 ▸ Below.refl _ _⟩ : e = .returned (.int .i64 ((bst F M : Nat) : Int)) ∧ Below p.world.heap.size p.world w')))
  have HLI := Lib.hid (fun (w1 : World) (A' : Option Addr) (c' : Nat) (h : NumAt w1 A' (M + 1) F) (p : Kept w1) => leadI (c := c') A' M F p.world (by omega) (h.kept p.below) HBD.out)
  obtain ⟨g, hg⟩ : ∃ g, bst F M = g := ⟨_, rfl⟩
  rw [hg] at HBI HLI hbl ⊢
  obtain ⟨r, hr⟩ : ∃ r, max (mg F g (M + 1)) 0 = r := ⟨_, rfl⟩
  rw [hr] at HLI ⊢
  obtain ⟨q0, q1⟩ := HZ.out.cells
  have hmix := mixedB
  clear hl hp hq hf hv hu hlb hrows hmn hg hr hF
  go_enter Try.func40, Try.ntmps40
  go_wp2_with fail
  refine HS.out.mono ?_
  rintro e w1 ⟨v, rfl, ho, hb⟩
  obtain ⟨A', c', rfl⟩ := own_sl ho (by decide)
  have HN := Lib.hid (num_row ho)
  have HZ1 := Lib.hid (HZ.out.kept hb)
  clear ho hb q0 q1
  have HBI1 := Lib.hid (HBI.out w1 A' c' HN.out)
  have HLI1 := Lib.hid (HLI.out w1 A' c' HN.out)
  obtain ⟨lb, lo, rfl, hlb, l0⟩ := (HP.out.kept HZ1.out.below) g (by omega)
  have hgi : (g : Int) < (M : Int) + 1 := by omega
  have hgn : g < M + 1 := by omega
  obtain ⟨q0, -⟩ := HZ1.out.cells
  have HBF := Lib.hid HZ1.out.below
  have hzl := HZ1.out.lt
  replace l0 := core.cell_kept hlb l0
  replace q0 := core.cell_kept hzl q0
  clear HBI HLI HBD
  go_wp2
  refine wp_region_quiet_kept (by assumption) (by kernel_rfl) ?_
  repeat (first | go_big_quiet_step (first | (go_at_call 84; with_reducible exact Calls.kept_of (HBI1.out _)) | (go_at_call 85; with_reducible exact Calls.kept_of (HLI1.out _))) | quiet_step (first | (go_at_call 84; with_reducible exact Calls.kept_of (HBI1.out _)) | (go_at_call 85; with_reducible exact Calls.kept_of (HLI1.out _))))
  refine wpQuiet_nil ?_
  intro w6 hw'
  have hB : Below w1.heap.size w1 w6 := by obtain ⟨⟨wk, hb0⟩, hw''⟩ := hw'; rw [hw'']; exact hb0
  have HB2 := Lib.hid (HBF.out.trans (hB.mono HBF.out.size))
  clear hw' hB
  go_wp2
  go_ret3
  exact ⟨rfl, HB2.out⟩
theorem specCl {c d cf : Nat} (A B L : Option Addr) (n m k : Nat) (s : Nat → ByteArray) (wn : Nat → Nat) (wf : Nat → Nat → Int) (f : Nat → P3) (w : World) (hl : PeL n m s wn) (hp : SsAt w A n s) (hq : WsAt w B m wn wf) (hk : k ≤ 1048576) (hf : PtsAt w L k f) (h : peB n m s wn wf = true ∧ okF k f = true) :
    Calls Try.prog 39 #[.agg #[.slice A n c, .slice B m d], .slice L k cf] w (Cl w (s (bst (scr wf (inN f k)) (n - 1))) (max (mg (scr wf (inN f k)) (bst (scr wf (inN f k)) (n - 1)) n) 0) 0) := by
  obtain ⟨hlb, hmn, -⟩ := pe_iff.1 h.1
  have h1 := hlb.1
  obtain ⟨M, rfl⟩ : ∃ M, n = M + 1 := ⟨n - 1, by omega⟩
  obtain rfl : m = M + 1 := by omega
  exact specCl_yes A B L M k s wn wf f w hl hp hq hk hf h.1 h.2
theorem implCl {c d cf : Nat} (A B L : Option Addr) (n m k : Nat) (s : Nat → ByteArray) (wn : Nat → Nat) (wf : Nat → Nat → Int) (f : Nat → P3) (w : World) (hl : PeL n m s wn) (hp : SsAt w A n s) (hq : WsAt w B m wn wf) (hk : k ≤ 1048576) (hf : PtsAt w L k f) (h : peB n m s wn wf = true ∧ okF k f = true) :
    Calls Try.prog 40 #[.agg #[.slice A n c, .slice B m d], .slice L k cf] w (Cl w (s (bst (scr wf (inN f k)) (n - 1))) (max (mg (scr wf (inN f k)) (bst (scr wf (inN f k)) (n - 1)) n) 0) 0) := by
  obtain ⟨hlb, hmn, -⟩ := pe_iff.1 h.1
  have h1 := hlb.1
  obtain ⟨M, rfl⟩ : ∃ M, n = M + 1 := ⟨n - 1, by omega⟩
  obtain rfl : m = M + 1 := by omega
  exact implCl_yes A B L M k s wn wf f w hl hp hq hk hf h.1 h.2
theorem meat (vs0 : Nat → Value) (g0 : Nat → Dat) (vs1 : Nat → Value) (g1 : Nat → Dat) (ht0 : tyrPerceptron g0) (ht1 : tyrFeatS g1) :
    costRec 2 g0 ≤ 1048576 → costRec 1 g1 ≤ 1048576 → ∃ (r0 : ByteArray) (r1 : Int) (r2 : Int), (∀ (W : World) (us0 : Nat → Value) (us1 : Nat → Value), ReadsRec W 2 us0 g0 → ReadsRec W 1 us1 g1 → (∃ (A : Option Addr) (n c : Nat), us1 0 = .slice A n c ∧ n ≤ c) → Calls Try.prog 39 #[.agg #[us0 0, us0 1], us1 0] W fun e W' => e = .returned (.tuple #[.string r0, .int .i64 r1, .int .i64 r2]) ∧ Below W.heap.size W W') ∧ (∀ (W : World) (us0 : Nat → Value) (us1 : Nat → Value), ReadsRec W 2 us0 g0 → ReadsRec W 1 us1 g1 → (∃ (A : Option Addr) (n c : Nat), us1 0 = .slice A n c ∧ n ≤ c) → Calls Try.prog 40 #[.agg #[us0 0, us0 1], us1 0] W fun e W' => e = .returned (.tuple #[.string r0, .int .i64 r1, .int .i64 r2]) ∧ Below W.heap.size W W') := by
  intro hq hq'
  by_cases hv : peB (peN g0) (peM g0) (peS g0) (peW g0) (peF g0) = true ∧ okF (ftN g1) (ftF g1) = true
  · refine ⟨peS g0 (bst (scr (peF g0) (inN (ftF g1) (ftN g1))) (peN g0 - 1)), max (mg (scr (peF g0) (inN (ftF g1) (ftN g1))) (bst (scr (peF g0) (inN (ftF g1) (ftN g1))) (peN g0 - 1)) (peN g0)) 0, 0, fun W us us' h h' _ => ?_, fun W us us' h h' _ => ?_⟩
    rotate_left
    · obtain ⟨A, c, B, d, e0, e1, -, -, hl, hp, hp'⟩ := reads_per h ht0 hq
      obtain ⟨L, cf, e, hn, hf⟩ := reads_fts h' ht1 hq'
      rw [e0, e1, e]
      exact implCl (c := c) (d := d) (cf := cf) A B L _ _ _ _ _ _ _ W hl hp hp' hn hf hv
    · obtain ⟨A, c, B, d, e0, e1, -, -, hl, hp, hp'⟩ := reads_per h ht0 hq
      obtain ⟨L, cf, e, hn, hf⟩ := reads_fts h' ht1 hq'
      rw [e0, e1, e]
      exact specCl (c := c) (d := d) (cf := cf) A B L _ _ _ _ _ _ _ W hl hp hp' hn hf hv
  · refine ⟨⟨#[]⟩, 0, 1, fun W us us' h h' _ => ?_, fun W us us' h h' _ => ?_⟩
    · obtain ⟨A, c, B, d, e0, e1, -, -, hl, hp, hp'⟩ := reads_per h ht0 hq
      obtain ⟨L, cf, e, hn, hf⟩ := reads_fts h' ht1 hq'
      rw [e0, e1, e]
      exact specCl_no (c := c) (d := d) (cf := cf) A B L _ _ _ _ _ _ _ W hl hp hp' hn hf hv
    · obtain ⟨A, c, B, d, e0, e1, -, -, hl, hp, hp'⟩ := reads_per h ht0 hq
      obtain ⟨L, cf, e, hn, hf⟩ := reads_fts h' ht1 hq'
      rw [e0, e1, e]
      exact implCl_no (c := c) (d := d) (cf := cf) A B L _ _ _ _ _ _ _ W hl hp hp' hn hf hv
end Go.Proofs.Ytimkochgnjggdaa.wClassify
