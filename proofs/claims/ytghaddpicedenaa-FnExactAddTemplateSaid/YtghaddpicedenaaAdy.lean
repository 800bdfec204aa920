/-
  Proved: what both functions that add a template return where it is added.
  Conditions: those of each theorem.
-/
import Derived.Test.YtghaddpicedenaaAdd
import Derived.Test.YtghaddpicedenaaRound
namespace Go.Proofs.Ytghaddpicedenaa.gro
open Go.ChangeShapes Go.WideShapes Go.ChangeAt Go.RowKit Go.Joins
open Go.Proofs.Ytghaddpicedenaa.core Go.Proofs.Ytghaddpicedenaa.rown Go.Proofs.Ytghaddpicedenaa.stk Go.Proofs.Ytghaddpicedenaa.boxed Go.Proofs.Ytghaddpicedenaa.tmp Go.Proofs.Ytghaddpicedenaa.ft Go.Proofs.Ytghaddpicedenaa.sto Go.Proofs.Ytghaddpicedenaa.seq Go.Proofs.Ytghaddpicedenaa.cln Go.Proofs.Ytghaddpicedenaa.put3
set_option linter.unusedVariables false
set_option linter.unusedSimpArgs false
/-- Place n is given anew. -/
def at1 {α : Type} (g : Nat → α) (n : Nat) (x : α) (i : Nat) : α := if i = n then x else g i
theorem at1_eq {α : Type} (g : Nat → α) (n : Nat) (x : α) : at1 g n x n = x := if_pos rfl
theorem at1_ne {α : Type} (g : Nat → α) {n i : Nat} (x : α) (h : i < n) : at1 g n x i = g i := if_neg (by omega)
theorem TD_cast {W : World} {L j C : Nat} {D : Option Addr} {lb lb' : Nat → ByteArray} {gi ln ln' ci : Nat → Nat} {lf lf' : Nat → Nat → P3} (h : TD W L D j C lb gi ln ci lf) (e : ∀ i, i < j → lb i = lb' i ∧ ln i = ln' i ∧ lf i = lf' i) : TD W L D j C lb' gi ln' ci lf' :=
  ⟨by
    have hr := h.row
    rwa [rws_congr (r := trow lb gi ln ci) (r' := trow lb' gi ln' ci) j fun i hi => by unfold trow; rw [(e i hi).1, (e i hi).2.1]] at hr,
   fun i hi => by have := h.el i hi; rwa [(e i hi).2.1, (e i hi).2.2] at this, h.inj⟩
theorem TD_set {W : World} {L j C : Nat} {D : Option Addr} {lb : Nat → ByteArray} {gi ln ci : Nat → Nat} {lf : Nat → Nat → P3} (h : TD W L D j C lb gi ln ci lf) {b q : Nat} {cs : Array Value} {fr : Nat × Nat} (hb : W.heap[b]? = some (.cells cs 32 fr)) (v : Value) : TD (W.setCell ⟨b, q, none⟩ v) L D j C lb gi ln ci lf := by
  have key : ∀ {E k n : Nat} {u : Value} {xs : List Value}, E ≠ 32 → W.ownsRow L E k u n xs → (W.setCell ⟨b, q, none⟩ v).ownsRow L E k u n xs := fun hE hr => ownsRow_setCell_other hr (a := ⟨b, q, none⟩) (fun e => by
    obtain ⟨_, cur, hc⟩ := rown.ownsRow_block hr e
    have hc' : W.heap[b]? = _ := hc
    rw [hb] at hc'
    injection hc' with hc'
    injection hc' with _ hc' _
    exact hE hc'.symm) v
  exact ⟨key (by decide) h.row, fun i hi => key (by decide) (h.el i hi), h.inj⟩
abbrev AdYes (w : World) (band : Int) (n : Nat) (lb : Nat → ByteArray) (ln : Nat → Nat) (lf : Nat → Nat → P3) (e : Ending) (w' : World) : Prop :=
  ∃ (D : Option Addr) (C : Nat) (gi ci : Nat → Nat), e = .returned (.tuple #[.agg #[.int .i64 band, .slice D (n + 1) C], .int .i64 0]) ∧ TD w' w.heap.size D (n + 1) C lb gi ln ci lf ∧ Below w.heap.size w w'
set_option maxRecDepth 100000 in
set_option maxHeartbeats 8000000 in
theorem addI_yes {c cu : Nat} (band : Int) (T : Option Addr) (n : Nat) (lb : Nat → ByteArray) (ln : Nat → Nat) (lf : Nat → Nat → P3) (s : ByteArray) (U : Option Addr) (m : Nat) (f : Nat → P3) (w : World) (hl : TsL n lb ln) (hp : TsAt w T n lb ln lf) (hs : s.size ≤ 1048576) (hm : m ≤ 1048576) (hu : PtsAt w U m f) (hv : stB band n lb ln lf = true) (ht : tmB s m f = true) (hn : ¬ 40 ≤ n) :
    Calls Try.prog 9 #[.agg #[.int .i64 band, .slice T n c], .agg #[.string s, .slice U m cu]] w (AdYes w band n (at1 lb n s) (at1 ln n m) (at1 lf n f)) := by
  obtain ⟨i0, hi0, hz0, hz1, hz2⟩ := rown.info_get infoFeat
  obtain ⟨j0, hj0, jz0, jz1, jz2⟩ := rown.info_get infoT
  have hst := st_iff.1 hv
  have hn40 := hst.2.1
  have hni : ¬ (40 : Int) ≤ (n : Int) := by omega
  have hnj : (n : Int) < 40 := by omega
  have hnk : ¬ (n : Int) = 40 := by omega
  have SL := Lib.hid (st_len hst)
  have hmm : 1 ≤ m ∧ m ≤ 72 := by
    unfold tmB at ht
    rw [Bool.and_eq_true] at ht
    have h2 := okQ_of ht.2
    exact ⟨h2.1, h2.2.1⟩
  clear hst
  have CS := Lib.hid (AW.start w (.slice T n c) band s (.slice U m cu))
  obtain ⟨W0, hW0⟩ : ∃ W0, ((w.alloc (.cells #[.int .i64 band, .slice T n c] 32)).alloc (.cells #[.string s, .slice U m cu] 38)).alloc (.cells #[.int .i64 0, .slice none 0 0] 32) = W0 := ⟨_, rfl⟩
  have HZ := Lib.hid (show W0.heap.size = w.heap.size + 3 by rw [← hW0]; simp)
  rw [hW0] at CS
  have x0 : W0.cell? ⟨w.heap.size, 0, none⟩ = some (.int .i64 band) := by rw [cell_of_block CS.out.b1]; rfl
  have x1 : W0.cell? ⟨w.heap.size, 1, none⟩ = some (.slice T n c) := by rw [cell_of_block CS.out.b1]; rfl
  have HP := Lib.hid hp
  have HV := Lib.hid (validStI (c := c) band T n lb ln lf W0 hl (hp.kept CS.out.below))
  have HU := Lib.hid hu
  rw [hv] at HV
  clear hp hu
  go_enter Try.func9, Try.ntmps9
  go_wp2_with fail
  refine HV.out.mono ?_
  rintro e w1 ⟨rfl, hb1⟩
  have CC := Lib.hid (CS.out.far (hb1.mono (by rw [HZ.out]; omega)))
  have y0 : w1.cell? ⟨w.heap.size, 0, none⟩ = some (.int .i64 band) := by rw [cell_of_block CC.out.b1]; rfl
  have y1 : w1.cell? ⟨w.heap.size, 1, none⟩ = some (.slice T n c) := by rw [cell_of_block CC.out.b1]; rfl
  have y2 : w1.cell? ⟨w.heap.size + 1, 0, none⟩ = some (.string s) := by rw [cell_of_block CC.out.b2]; rfl
  have y3 : w1.cell? ⟨w.heap.size + 1, 1, none⟩ = some (.slice U m cu) := by rw [cell_of_block CC.out.b2]; rfl
  have y4 : w1.cell? ⟨w.heap.size + 2, 0, none⟩ = some (.int .i64 0) := by rw [cell_of_block CC.out.b3]; rfl
  have y5 : w1.cell? ⟨w.heap.size + 2, 1, none⟩ = some (.slice none 0 0) := by rw [cell_of_block CC.out.b3]; rfl
  have y6 := unfrozen_of_block CC.out.b3 0
  have y7 := unfrozen_of_block CC.out.b3 1
  clear hb1 HV CS HZ x0 x1
  have HV2 := Lib.hid (noTemplI (c := cu) s U m f w1 hs hm (HU.out.kept CC.out.below))
  rw [ht] at HV2
  go_wp2_with fail
  refine HV2.out.mono ?_
  rintro e w2 ⟨rfl, hb2⟩
  have CD := Lib.hid (CC.out.far (hb2.mono CC.out.z))
  clear hb2 HV2 y0 y1 y2 y3 y4 y5 y6 y7
  have z0 : w2.cell? ⟨w.heap.size, 0, none⟩ = some (.int .i64 band) := by rw [cell_of_block CD.out.b1]; rfl
  have z1 : w2.cell? ⟨w.heap.size, 1, none⟩ = some (.slice T n c) := by rw [cell_of_block CD.out.b1]; rfl
  have z2 : w2.cell? ⟨w.heap.size + 1, 0, none⟩ = some (.string s) := by rw [cell_of_block CD.out.b2]; rfl
  have z3 : w2.cell? ⟨w.heap.size + 1, 1, none⟩ = some (.slice U m cu) := by rw [cell_of_block CD.out.b2]; rfl
  have z4 : w2.cell? ⟨w.heap.size + 2, 0, none⟩ = some (.int .i64 0) := by rw [cell_of_block CD.out.b3]; rfl
  have z5 : w2.cell? ⟨w.heap.size + 2, 1, none⟩ = some (.slice none 0 0) := by rw [cell_of_block CD.out.b3]; rfl
  have z6 := unfrozen_of_block CD.out.b3 0
  have z7 := unfrozen_of_block CD.out.b3 1
  have HO := Lib.hid (copyS (c := c) band T n lb ln lf w2 hn40 SL.out (HP.out.kept CD.out.below))
  go_wp2_with fail
  refine HO.out.mono ?_
  rintro e w3 ⟨D, C, gi, ci, rfl, htd, hb3⟩
  have CE := Lib.hid (CD.out.far (hb3.mono CD.out.z))
  have HL := Lib.hid (show w.heap.size + 3 ≤ w2.heap.size + 2 by have := CD.out.z; omega)
  have HT := Lib.hid (TD_cast (lb' := at1 lb n s) (ln' := at1 ln n m) (lf' := at1 lf n f) (TD_low htd HL.out) (fun i _ => ⟨(at1_ne lb s (by assumption)).symm, (at1_ne ln m (by assumption)).symm, (at1_ne lf f (by assumption)).symm⟩))
  have HL3 := Lib.hid (show w2.heap.size + 2 ≤ w3.heap.size + 2 by have := hb3.size; omega)
  obtain ⟨W6, hW6⟩ : ∃ W6, w3.alloc (.cells #[.int .i64 band, .slice D n C] 32) = W6 := ⟨_, rfl⟩
  have HZ6 := Lib.hid (show W6.heap.size = w3.heap.size + 1 by rw [← hW6]; simp)
  have H6 := Lib.hid (show W6.heap[w3.heap.size]? = some (.cells #[.int .i64 band, .slice D n C] 32 (0, 0)) by rw [← hW6]; exact heap_alloc_new _ _)
  have B36 := Lib.hid (show Below w3.heap.size w3 W6 by rw [← hW6]; exact below_alloc1 _ _)
  have hz3 : w.heap.size + 3 ≤ w3.heap.size := CE.out.z
  have HS := Lib.hid (fun V (hV : Below (w.heap.size + 3) w3 V) (h6 : V.heap[w3.heap.size]? = some (.cells #[.int .i64 band, .slice D n C] 32 (0, 0))) => (show V.cell? ⟨w3.heap.size, 1, none⟩ = some (.slice D n C) ∧ V.cell? ⟨w.heap.size + 1, 0, none⟩ = some (.string s) ∧ V.cell? ⟨w.heap.size + 1, 1, none⟩ = some (.slice U m cu) ∧ V.frozen? ⟨w3.heap.size, 1, none⟩ = false from
    ⟨by rw [cell_of_block h6]; rfl, by rw [cell_of_block (CE.out.far hV).b2]; rfl, by rw [cell_of_block (CE.out.far hV).b2]; rfl, unfrozen_of_block h6 1⟩))
  have H6L := Lib.hid (B36.out.mono hz3)
  have HT6 := Lib.hid (HT.out.kept B36.out)
  have hkd := HS.out W6.drew H6L.out.drew H6.out
  have HU6 := Lib.hid ((HU.out.kept CE.out.below).kept B36.out)
  obtain ⟨gu, ou, rfl, hgu, -, -, -⟩ := HU6.out 0 (by omega)
  clear htd hb3 HO z0 z1 z2 z3 z4 z5 z6 z7
  go_wp2
  try rw [hW6]
  clear hW6
  have hz6 : w.heap.size + 3 ≤ W6.heap.size := by have := HZ6.out; omega
  refine rnd.wp_regionU (fun V => V.cell? ⟨w.heap.size + 1, 0, none⟩ = some (.string s) ∧ V.cell? ⟨w.heap.size + 1, 1, none⟩ = some (.slice (some ⟨gu, ou, none⟩) m cu) ∧ V.frozen? ⟨w3.heap.size, 1, none⟩ = false) (fun V => V.cell? ⟨w3.heap.size, 1, none⟩ = some (.slice D n C)) 7 (by kernel_rfl) ⟨hkd.2, hkd.1⟩ (fun hH => ?_)
  have HCT := Lib.hid (copyT (c := cu) s (some ⟨gu, ou, none⟩) m f W6.drew hmm.1 hmm.2 (HU6.out.kept (Below.refl W6.heap.size W6).drew))
  refine rnd.wpAnyU_take (i := 0) (oi := { dst := some 22, op := Op.fieldAddr 32 (Operand.tmp 6) 1, type := 0, pos := "l11_templates.go:71", after := #[], guard := none }) (v := ?_) rfl (by kernel_rfl) (by kernel_rfl) (by kernel_rfl) (by kernel_rfl) (fun _ _ _ h => h) (Or.inl ⟨by rfl, ?_⟩) hH ?_
  rotate_left
  · intro V hSw
    obtain ⟨⟨s1, s2, s3⟩, s0⟩ := hSw
    go_simp
    try with_reducible rfl
  simp only [Act.put, List.setIfInBounds_toArray, List.set_cons_zero, List.set_cons_succ]
  refine rnd.wpAnyU_take (i := 1) (oi := { dst := some 23, op := Op.load 30 (Operand.tmp 22), type := 30, pos := "l11_templates.go:71", after := #[{ on := 0, ground := Ground.data }], guard := none }) (v := ?_) rfl (by kernel_rfl) (by kernel_rfl) (by kernel_rfl) (by kernel_rfl) (fun _ _ _ h => h) (Or.inl ⟨by rfl, ?_⟩) hH ?_
  rotate_left
  · intro V hSw
    obtain ⟨⟨s1, s2, s3⟩, s0⟩ := hSw
    go_simp
    try with_reducible rfl
  simp only [Act.put, List.setIfInBounds_toArray, List.set_cons_zero, List.set_cons_succ]
  refine rnd.wpAnyU_take (i := 2) (oi := { dst := some 24, op := Op.load 38 (Operand.tmp 3), type := 38, pos := "l11_templates.go:71", after := #[], guard := none }) (v := ?_) rfl (by kernel_rfl) (by kernel_rfl) (by kernel_rfl) (by kernel_rfl) (fun _ _ _ h => h) (Or.inl ⟨by rfl, ?_⟩) hH ?_
  rotate_left
  · intro V hSw
    obtain ⟨⟨s1, s2, s3⟩, s0⟩ := hSw
    go_simp
    try with_reducible rfl
  simp only [Act.put, List.setIfInBounds_toArray, List.set_cons_zero, List.set_cons_succ]
  clear hH
  refine rnd.wpAnyU_one (i := 3) (by kernel_rfl) rfl (fun K' hK' => ?_)
  go_simp
  refine HCT.out.mono ?_
  rintro e V1 ⟨gb, Cb, rfl, hown, hbv⟩
  have HF := Lib.hid (row_low (b' := w.heap.size + 3) hown (show w.heap.size + 3 ≤ W6.drew.heap.size from hz6))
  have HG := Lib.hid (show W6.heap.size ≤ gb from (rown.ownsRow_block hown (g := gb) rfl).1)
  have HV0 := Lib.hid ((Below.refl W6.heap.size W6).drew.trans hbv)
  dsimp only
  have HV1 := Lib.hid (H6L.out.trans (HV0.out.mono hz6))
  have h61 := (HV0.out.block w3.heap.size (by rw [HZ6.out]; omega)).trans H6.out
  have T1 := Lib.hid (HT6.out.kept HV0.out)
  have HZ1 := Lib.hid (show w.heap.size + 3 ≤ V1.heap.size from Nat.le_trans hz6 HV0.out.size)
  have hk1 := HS.out _ HV1.out h61
  have hk1a := HS.out _ (HV1.out.alloc HZ1.out (.cells #[.string s, .slice (some ⟨gb, 0, none⟩) m Cb] 38)) ((Below.heap_alloc _ _ _ (block_size h61)).trans h61)
  clear hown hbv
  refine hK'.out _ _ hk1.2 (fun _ => hk1.1) ?_
  clear hK'
  refine rnd.wpAnyU_one (i := 4) (by kernel_rfl) rfl (fun K' hK' => ?_)
  go_simp
  refine hK'.out _ _ hk1a.2 (fun _ => hk1a.1) ?_
  clear hK'
  refine rnd.wpAnyU_one (i := 5) (by kernel_rfl) rfl (fun K' hK' => ?_)
  refine step_append_lies _ (by rfl) (.tmp 23) (.tmp 26) _ (by rfl) (w.heap.size + 3) 38 j0 _ 2 40 Try.underlying30 hj0 jz0 jz1 jz2 rfl (by decide) (.slice D n C) n _ (by rfl) (T1.out.kept (below_alloc1 V1 (.cells #[.string s, .slice (some ⟨gb, 0, none⟩) m Cb] 38))).row ⟨V1.heap.size, 0, none⟩ 1 1 [.string s, .slice (some ⟨gb, 0, none⟩) m Cb] (by rfl) rfl (two_new rfl) (by simp [Value.oneCell']) (by decide) (by simp only [maxLen]; omega) (by omega) (Nat.le_trans HZ1.out (by simp)) _ rfl ?_
  intro g2 C2 V2 hown2 hgr2 hat2 hlt2
  have HV2 := Lib.hid (HV1.out.trans (rown.under T1.out.row HZ1.out hgr2))
  have h62 := grown_block T1.out.row hgr2 h61 (by decide)
  have T2 := Lib.hid (T1.out.push (gb := gb) (Cb := Cb) (by rw [at1_eq, at1_eq]; exact HF.out) (fun i hi => by have h1 := (HT6.out.lt hi).2; have h2 := HG.out; omega) hgr2 (by rw [at1_eq, at1_eq]; exact hown2))
  have hk2 := HS.out V2 HV2.out h62
  have h63 := block_setCell h62 (.slice (some ⟨g2, 0, none⟩) (n + 1) C2) (i := 1)
  have T3 := Lib.hid (TD_set (q := 1) T2.out h62 (.slice (some ⟨g2, 0, none⟩) (n + 1) C2))
  have hn2 : ∀ (p : Addr), p.block < w3.heap.size → (V2.setCell ⟨w3.heap.size, 1, none⟩ (.slice (some ⟨g2, 0, none⟩) (n + 1) C2)).cell? p = V2.cell? p := fun p hp => World.cell?_of_block (Below.heap_setCell _ _ _ _ (by simp; omega))
  have hk3 : (V2.setCell ⟨w3.heap.size, 1, none⟩ (.slice (some ⟨g2, 0, none⟩) (n + 1) C2)).cell? ⟨w.heap.size + 1, 0, none⟩ = some (.string s) ∧ (V2.setCell ⟨w3.heap.size, 1, none⟩ (.slice (some ⟨g2, 0, none⟩) (n + 1) C2)).cell? ⟨w.heap.size + 1, 1, none⟩ = some (.slice (some ⟨gu, ou, none⟩) m cu) ∧ (V2.setCell ⟨w3.heap.size, 1, none⟩ (.slice (some ⟨g2, 0, none⟩) (n + 1) C2)).frozen? ⟨w3.heap.size, 1, none⟩ = false := ⟨(hn2 _ (by simp; omega)).trans hk2.2.1, (hn2 _ (by simp; omega)).trans hk2.2.2.1, unfrozen_of_block h63 1⟩
  have CF := Lib.hid (CE.out.far (HV2.out.setCell (p := ⟨w3.heap.size, 1, none⟩) (show w.heap.size + 3 ≤ w3.heap.size from hz3) (.slice (some ⟨g2, 0, none⟩) (n + 1) C2)))
  obtain ⟨k21, k22, k23, k24⟩ := id hk2
  clear hown2 hgr2 hat2 hn2
  simp only [Act.put, List.setIfInBounds_toArray, List.set_cons_zero, List.set_cons_succ]
  refine hK'.out _ _ hk2.2 (fun _ => hk2.1) ?_
  clear hK'
  refine rnd.wpAnyU_one (i := 6) (by kernel_rfl) rfl (fun K' hK' => ?_)
  go_simp
  refine hK'.out _ _ hk2.2 (fun _ => hk2.1) ?_
  clear hK'
  refine rnd.wpAnyU_one (i := 7) (by kernel_rfl) rfl (fun K' hK' => ?_)
  go_simp
  refine hK'.out _ _ hk3 (fun h => absurd rfl h) ?_
  clear hK'
  refine rnd.wpAnyU_done (by kernel_rfl) ?_ _
  clear hkd hk1 hk1a hk2 hk3 T2 k21 k22 k23 k24 HS
  generalize V2.setCell ⟨w3.heap.size, 1, none⟩ (.slice (some ⟨g2, 0, none⟩) (n + 1) C2) = V3 at *
  have r0 : V3.cell? ⟨w3.heap.size, 0, none⟩ = some (.int .i64 band) := by rw [cell_of_block h63]; rfl
  have r1 : V3.cell? ⟨w3.heap.size, 1, none⟩ = some (.slice (some ⟨g2, 0, none⟩) (n + 1) C2) := by rw [cell_of_block h63]; rfl
  have r2 : V3.cell? ⟨w.heap.size + 2, 0, none⟩ = some (.int .i64 0) := by rw [cell_of_block CF.out.b3]; rfl
  have r3 : V3.cell? ⟨w.heap.size + 2, 1, none⟩ = some (.slice none 0 0) := by rw [cell_of_block CF.out.b3]; rfl
  have r4 := unfrozen_of_block CF.out.b3 0
  have r5 := unfrozen_of_block CF.out.b3 1
  have TR := Lib.hid ((T3.out.set (b := w.heap.size + 2) (q := 0) (by omega) (.int .i64 band)).set (b := w.heap.size + 2) (q := 1) (by omega) (.slice (some ⟨g2, 0, none⟩) (n + 1) C2))
  have BR2 := Lib.hid ((CF.out.below.setCell (p := ⟨w.heap.size + 2, 0, none⟩) (show w.heap.size ≤ w.heap.size + 2 by omega) (.int .i64 band)).setCell (p := ⟨w.heap.size + 2, 1, none⟩) (show w.heap.size ≤ w.heap.size + 2 by omega) (.slice (some ⟨g2, 0, none⟩) (n + 1) C2))
  clear h61 h62 h63 hz3 hz6
  go_wp2
  refine bodyPost_ret (v := .tuple #[.agg #[.int .i64 band, .slice (some ⟨g2, 0, none⟩) (n + 1) C2], .int .i64 0]) (by simp [results, Try.results9, go_sem, r2, r3]) rfl ⟨some ⟨g2, 0, none⟩, C2, _, _, rfl, TD_low TR.out (by omega), BR2.out⟩
set_option maxRecDepth 100000 in
set_option maxHeartbeats 8000000 in
theorem addS_yes {c cu : Nat} (band : Int) (T : Option Addr) (n : Nat) (lb : Nat → ByteArray) (ln : Nat → Nat) (lf : Nat → Nat → P3) (s : ByteArray) (U : Option Addr) (m : Nat) (f : Nat → P3) (w : World) (hl : TsL n lb ln) (hp : TsAt w T n lb ln lf) (hs : s.size ≤ 1048576) (hm : m ≤ 1048576) (hu : PtsAt w U m f) (hv : stB band n lb ln lf = true) (ht : tmB s m f = true) (hn : ¬ 40 ≤ n) :
    Calls Try.prog 6 #[.agg #[.int .i64 band, .slice T n c], .agg #[.string s, .slice U m cu]] w (AdYes w band n (at1 lb n s) (at1 ln n m) (at1 lf n f)) := by
  obtain ⟨i0, hi0, hz0, hz1, hz2⟩ := rown.info_get infoFeat
  obtain ⟨j0, hj0, jz0, jz1, jz2⟩ := rown.info_get infoT
  have hst := st_iff.1 hv
  have hn40 := hst.2.1
  have hni : ¬ (40 : Int) ≤ (n : Int) := by omega
  have hnj : (n : Int) < 40 := by omega
  have hnk : ¬ (n : Int) = 40 := by omega
  have SL := Lib.hid (st_len hst)
  have hmm : 1 ≤ m ∧ m ≤ 72 := by
    unfold tmB at ht
    rw [Bool.and_eq_true] at ht
    have h2 := okQ_of ht.2
    exact ⟨h2.1, h2.2.1⟩
  clear hst
  have CS := Lib.hid (AW.start w (.slice T n c) band s (.slice U m cu))
  obtain ⟨W0, hW0⟩ : ∃ W0, ((w.alloc (.cells #[.int .i64 band, .slice T n c] 32)).alloc (.cells #[.string s, .slice U m cu] 38)).alloc (.cells #[.int .i64 0, .slice none 0 0] 32) = W0 := ⟨_, rfl⟩
  have HZ := Lib.hid (show W0.heap.size = w.heap.size + 3 by rw [← hW0]; simp)
  rw [hW0] at CS
  have x0 : W0.cell? ⟨w.heap.size, 0, none⟩ = some (.int .i64 band) := by rw [cell_of_block CS.out.b1]; rfl
  have x1 : W0.cell? ⟨w.heap.size, 1, none⟩ = some (.slice T n c) := by rw [cell_of_block CS.out.b1]; rfl
  have HP := Lib.hid hp
  have HV := Lib.hid (storeOkS (c := c) w.heap.size 0 band T n lb ln lf W0 (by rw [HZ.out]; omega) x0 x1 hl (hp.kept CS.out.below))
  have HU := Lib.hid hu
  rw [hv] at HV
  clear hp hu
  go_enter Try.func6, Try.ntmps6
  go_wp2_with fail
  refine HV.out.mono ?_
  rintro e w1 ⟨rfl, hb1⟩
  have CC := Lib.hid (CS.out.far (hb1.mono (by rw [HZ.out]; omega)))
  have y0 : w1.cell? ⟨w.heap.size, 0, none⟩ = some (.int .i64 band) := by rw [cell_of_block CC.out.b1]; rfl
  have y1 : w1.cell? ⟨w.heap.size, 1, none⟩ = some (.slice T n c) := by rw [cell_of_block CC.out.b1]; rfl
  have y2 : w1.cell? ⟨w.heap.size + 1, 0, none⟩ = some (.string s) := by rw [cell_of_block CC.out.b2]; rfl
  have y3 : w1.cell? ⟨w.heap.size + 1, 1, none⟩ = some (.slice U m cu) := by rw [cell_of_block CC.out.b2]; rfl
  have y4 : w1.cell? ⟨w.heap.size + 2, 0, none⟩ = some (.int .i64 0) := by rw [cell_of_block CC.out.b3]; rfl
  have y5 : w1.cell? ⟨w.heap.size + 2, 1, none⟩ = some (.slice none 0 0) := by rw [cell_of_block CC.out.b3]; rfl
  have y6 := unfrozen_of_block CC.out.b3 0
  have y7 := unfrozen_of_block CC.out.b3 1
  clear hb1 HV CS HZ x0 x1
  have HV2 := Lib.hid (templS (c := cu) (w.heap.size + 1) 0 s U m f w1 (by have := CC.out.z; omega) y2 y3 hs hm (HU.out.kept CC.out.below))
  rw [ht] at HV2
  go_wp2_with fail
  refine HV2.out.mono ?_
  rintro e w2 ⟨rfl, hb2⟩
  have CD := Lib.hid (CC.out.far (hb2.mono CC.out.z))
  clear hb2 HV2 y0 y1 y2 y3 y4 y5 y6 y7
  have z0 : w2.cell? ⟨w.heap.size, 0, none⟩ = some (.int .i64 band) := by rw [cell_of_block CD.out.b1]; rfl
  have z1 : w2.cell? ⟨w.heap.size, 1, none⟩ = some (.slice T n c) := by rw [cell_of_block CD.out.b1]; rfl
  have z2 : w2.cell? ⟨w.heap.size + 1, 0, none⟩ = some (.string s) := by rw [cell_of_block CD.out.b2]; rfl
  have z3 : w2.cell? ⟨w.heap.size + 1, 1, none⟩ = some (.slice U m cu) := by rw [cell_of_block CD.out.b2]; rfl
  have z4 : w2.cell? ⟨w.heap.size + 2, 0, none⟩ = some (.int .i64 0) := by rw [cell_of_block CD.out.b3]; rfl
  have z5 : w2.cell? ⟨w.heap.size + 2, 1, none⟩ = some (.slice none 0 0) := by rw [cell_of_block CD.out.b3]; rfl
  have z6 := unfrozen_of_block CD.out.b3 0
  have z7 := unfrozen_of_block CD.out.b3 1
  have HO := Lib.hid (ownS (c := c) w.heap.size 0 band T n (-1) lb ln lf w2 (by have := CD.out.z; omega) z0 z1 hn40 SL.out (HP.out.kept CD.out.below))
  rw [show kK (-1) n = n by unfold kK; rw [if_neg (by omega)]] at HO
  go_wp2_with fail
  refine HO.out.mono ?_
  rintro e w3 ⟨D, C, gi, ci, rfl, htd, hb3⟩
  have CE := Lib.hid (CD.out.far (hb3.mono CD.out.z))
  have HL := Lib.hid (show w.heap.size + 3 ≤ w2.heap.size + 2 by have := CD.out.z; omega)
  have HT := Lib.hid (TD_cast (lb' := at1 lb n s) (ln' := at1 ln n m) (lf' := at1 lf n f) (TD_low htd HL.out) (fun i _ => by unfold kE; rw [if_neg (by omega)]; exact ⟨(at1_ne lb s (by assumption)).symm, (at1_ne ln m (by assumption)).symm, (at1_ne lf f (by assumption)).symm⟩))
  have HL3 := Lib.hid (show w2.heap.size + 2 ≤ w3.heap.size + 2 by have := hb3.size; omega)
  obtain ⟨W6, hW6⟩ : ∃ W6, w3.alloc (.cells #[.int .i64 band, .slice D n C] 32) = W6 := ⟨_, rfl⟩
  have HZ6 := Lib.hid (show W6.heap.size = w3.heap.size + 1 by rw [← hW6]; simp)
  have H6 := Lib.hid (show W6.heap[w3.heap.size]? = some (.cells #[.int .i64 band, .slice D n C] 32 (0, 0)) by rw [← hW6]; exact heap_alloc_new _ _)
  have B36 := Lib.hid (show Below w3.heap.size w3 W6 by rw [← hW6]; exact below_alloc1 _ _)
  have hz3 : w.heap.size + 3 ≤ w3.heap.size := CE.out.z
  have HS := Lib.hid (fun V (hV : Below (w.heap.size + 3) w3 V) (h6 : V.heap[w3.heap.size]? = some (.cells #[.int .i64 band, .slice D n C] 32 (0, 0))) => (show V.cell? ⟨w3.heap.size, 1, none⟩ = some (.slice D n C) ∧ V.cell? ⟨w.heap.size + 1, 0, none⟩ = some (.string s) ∧ V.cell? ⟨w.heap.size + 1, 1, none⟩ = some (.slice U m cu) ∧ V.frozen? ⟨w3.heap.size, 1, none⟩ = false from
    ⟨by rw [cell_of_block h6]; rfl, by rw [cell_of_block (CE.out.far hV).b2]; rfl, by rw [cell_of_block (CE.out.far hV).b2]; rfl, unfrozen_of_block h6 1⟩))
  have H6L := Lib.hid (B36.out.mono hz3)
  have HT6 := Lib.hid (HT.out.kept B36.out)
  have hkd := HS.out W6.drew H6L.out.drew H6.out
  have HU6 := Lib.hid ((HU.out.kept CE.out.below).kept B36.out)
  obtain ⟨gu, ou, rfl, hgu, -, -, -⟩ := HU6.out 0 (by omega)
  clear htd hb3 HO z0 z1 z2 z3 z4 z5 z6 z7
  go_wp2
  try rw [hW6]
  clear hW6
  have hz6 : w.heap.size + 3 ≤ W6.heap.size := by have := HZ6.out; omega
  refine rnd.wp_regionU (fun V => V.cell? ⟨w.heap.size + 1, 0, none⟩ = some (.string s) ∧ V.cell? ⟨w.heap.size + 1, 1, none⟩ = some (.slice (some ⟨gu, ou, none⟩) m cu) ∧ V.frozen? ⟨w3.heap.size, 1, none⟩ = false) (fun V => V.cell? ⟨w3.heap.size, 1, none⟩ = some (.slice D n C)) 12 (by kernel_rfl) ⟨hkd.2, hkd.1⟩ (fun hH => ?_)
  have hke := HS.out (W6.drew.alloc (.cells #[] 66)) (H6L.out.drew.alloc hz6 _) ((Below.heap_alloc _ _ _ (show w3.heap.size < W6.drew.heap.size by show w3.heap.size < W6.heap.size; rw [HZ6.out]; omega)).trans H6.out)
  have BR := Lib.hid ((Below.refl W6.heap.size W6).drew.alloc (Nat.le_refl _) (.cells #[] 66))
  have EM := Lib.hid (empty_row W6.drew 66 3)
  have HPE := Lib.hid (HU6.out.kept BR.out)
  refine rnd.wpAnyU_take (i := 0) (oi := { dst := some 20, op := Op.fieldAddr 32 (Operand.tmp 6) 1, type := 0, pos := "l11_templates.go:76", after := #[], guard := none }) (v := ?_) rfl (by kernel_rfl) (by kernel_rfl) (by kernel_rfl) (by kernel_rfl) (fun _ _ _ h => h) (Or.inl ⟨by rfl, ?_⟩) hH ?_
  rotate_left
  · intro V hSw
    obtain ⟨⟨s1, s2, s3⟩, s0⟩ := hSw
    go_simp
    try with_reducible rfl
  simp only [Act.put, List.setIfInBounds_toArray, List.set_cons_zero, List.set_cons_succ]
  refine rnd.wpAnyU_take (i := 1) (oi := { dst := some 21, op := Op.load 30 (Operand.tmp 20), type := 30, pos := "l11_templates.go:76", after := #[{ on := 0, ground := Ground.data }], guard := none }) (v := ?_) rfl (by kernel_rfl) (by kernel_rfl) (by kernel_rfl) (by kernel_rfl) (fun _ _ _ h => h) (Or.inl ⟨by rfl, ?_⟩) hH ?_
  rotate_left
  · intro V hSw
    obtain ⟨⟨s1, s2, s3⟩, s0⟩ := hSw
    go_simp
    try with_reducible rfl
  simp only [Act.put, List.setIfInBounds_toArray, List.set_cons_zero, List.set_cons_succ]
  refine rnd.wpAnyU_take (i := 2) (oi := { dst := some 22, op := Op.fieldAddr 38 (Operand.tmp 3) 0, type := 0, pos := "l11_templates.go:76", after := #[], guard := none }) (v := ?_) rfl (by kernel_rfl) (by kernel_rfl) (by kernel_rfl) (by kernel_rfl) (fun _ _ _ h => h) (Or.inl ⟨by rfl, ?_⟩) hH ?_
  rotate_left
  · intro V hSw
    obtain ⟨⟨s1, s2, s3⟩, s0⟩ := hSw
    go_simp
    try with_reducible rfl
  simp only [Act.put, List.setIfInBounds_toArray, List.set_cons_zero, List.set_cons_succ]
  refine rnd.wpAnyU_take (i := 3) (oi := { dst := some 23, op := Op.load 9 (Operand.tmp 22), type := 9, pos := "l11_templates.go:76", after := #[{ on := 2, ground := Ground.data }], guard := none }) (v := ?_) rfl (by kernel_rfl) (by kernel_rfl) (by kernel_rfl) (by kernel_rfl) (fun _ _ _ h => h) (Or.inl ⟨by rfl, ?_⟩) hH ?_
  rotate_left
  · intro V hSw
    obtain ⟨⟨s1, s2, s3⟩, s0⟩ := hSw
    go_simp
    try with_reducible rfl
  simp only [Act.put, List.setIfInBounds_toArray, List.set_cons_zero, List.set_cons_succ]
  refine rnd.wpAnyU_take (i := 5) (oi := { dst := some 25, op := Op.fieldAddr 38 (Operand.tmp 3) 1, type := 0, pos := "l11_templates.go:76", after := #[], guard := none }) (v := ?_) rfl (by kernel_rfl) (by kernel_rfl) (by kernel_rfl) (by kernel_rfl) (fun _ _ _ h => h) (Or.inl ⟨by rfl, ?_⟩) hH ?_
  rotate_left
  · intro V hSw
    obtain ⟨⟨s1, s2, s3⟩, s0⟩ := hSw
    go_simp
    try with_reducible rfl
  simp only [Act.put, List.setIfInBounds_toArray, List.set_cons_zero, List.set_cons_succ]
  refine rnd.wpAnyU_take (i := 6) (oi := { dst := some 26, op := Op.load 36 (Operand.tmp 25), type := 36, pos := "l11_templates.go:76", after := #[{ on := 5, ground := Ground.data }], guard := none }) (v := ?_) rfl (by kernel_rfl) (by kernel_rfl) (by kernel_rfl) (by kernel_rfl) (fun _ _ _ h => h) (Or.inl ⟨by rfl, ?_⟩) hH ?_
  rotate_left
  · intro V hSw
    obtain ⟨⟨s1, s2, s3⟩, s0⟩ := hSw
    go_simp
    try with_reducible rfl
  simp only [Act.put, List.setIfInBounds_toArray, List.set_cons_zero, List.set_cons_succ]
  clear hH
  refine rnd.wpAnyU_one (i := 4) (by kernel_rfl) rfl (fun K' hK' => ?_)
  go_simp
  refine hK'.out _ _ hke.2 (fun _ => hke.1) ?_
  clear hK'
  refine rnd.wpAnyU_one (i := 7) (by kernel_rfl) rfl (fun K' hK' => ?_)
  refine step_append_lies _ (by rfl) (.tmp 24) (.tmp 26) _ (by rfl) W6.drew.heap.size 66 i0 _ 3 24 Try.underlying36 hi0 hz0 hz1 hz2 rfl (by decide) (.slice (some ⟨W6.drew.heap.size, 0, none⟩) 0 0) 0 [] (by rfl) EM.out ⟨gu, ou, none⟩ m cu (rws (row3 f) m) (by rfl) (rws_len (row3_len f) m) (pts_news HPE.out) (rws_one f m) (by omega) (by simp only [maxLen]; omega) (by omega) (by simp) _ rfl ?_
  intro gb Cb V1 hown hgr hat hlt9
  rw [Nat.zero_add] at hown ⊢
  have HF := Lib.hid (show V1.ownsRow (w.heap.size + 3) 66 3 (.slice (some ⟨gb, 0, none⟩) m Cb) m (rws (row3 f) m) by simpa using row_low hown (show w.heap.size + 3 ≤ W6.drew.heap.size from hz6))
  have HG := Lib.hid (show W6.heap.size ≤ gb from (rown.ownsRow_block hown (g := gb) rfl).1)
  have HV0 := Lib.hid (BR.out.grown hgr BR.out.size (fun kk hkk => (by simp [Value.ownBlock] at hkk; omega)))
  have HV1 := Lib.hid (H6L.out.trans (HV0.out.mono hz6))
  have h61 := (HV0.out.block w3.heap.size (by rw [HZ6.out]; omega)).trans H6.out
  have T1 := Lib.hid (HT6.out.kept HV0.out)
  have HZ1 := Lib.hid (show w.heap.size + 3 ≤ V1.heap.size from Nat.le_trans hz6 HV0.out.size)
  have hk1 := HS.out _ HV1.out h61
  have hk1a := HS.out _ (HV1.out.alloc HZ1.out (.cells #[.string s, .slice (some ⟨gb, 0, none⟩) m Cb] 38)) ((Below.heap_alloc _ _ _ (block_size h61)).trans h61)
  clear hown hgr hat
  simp only [Act.put, List.setIfInBounds_toArray, List.set_cons_zero, List.set_cons_succ]
  refine hK'.out _ _ hk1.2 (fun _ => hk1.1) ?_
  clear hK'
  refine rnd.wpAnyU_one (i := 8) (by kernel_rfl) rfl (fun K' hK' => ?_)
  go_simp
  refine hK'.out _ _ hk1.2 (fun _ => hk1.1) ?_
  clear hK'
  refine rnd.wpAnyU_one (i := 9) (by kernel_rfl) rfl (fun K' hK' => ?_)
  go_simp
  refine hK'.out _ _ hk1a.2 (fun _ => hk1a.1) ?_
  clear hK'
  refine rnd.wpAnyU_one (i := 10) (by kernel_rfl) rfl (fun K' hK' => ?_)
  refine step_append_lies _ (by rfl) (.tmp 21) (.tmp 29) _ (by rfl) (w.heap.size + 3) 38 j0 _ 2 40 Try.underlying30 hj0 jz0 jz1 jz2 rfl (by decide) (.slice D n C) n _ (by rfl) (T1.out.kept (below_alloc1 V1 (.cells #[.string s, .slice (some ⟨gb, 0, none⟩) m Cb] 38))).row ⟨V1.heap.size, 0, none⟩ 1 1 [.string s, .slice (some ⟨gb, 0, none⟩) m Cb] (by rfl) rfl (two_new rfl) (by simp [Value.oneCell']) (by decide) (by simp only [maxLen]; omega) (by omega) (Nat.le_trans HZ1.out (by simp)) _ rfl ?_
  intro g2 C2 V2 hown2 hgr2 hat2 hlt2
  have HV2 := Lib.hid (HV1.out.trans (rown.under T1.out.row HZ1.out hgr2))
  have h62 := grown_block T1.out.row hgr2 h61 (by decide)
  have T2 := Lib.hid (T1.out.push (gb := gb) (Cb := Cb) (by rw [at1_eq, at1_eq]; exact HF.out) (fun i hi => by have h1 := (HT6.out.lt hi).2; have h2 := HG.out; omega) hgr2 (by rw [at1_eq, at1_eq]; exact hown2))
  have hk2 := HS.out V2 HV2.out h62
  have h63 := block_setCell h62 (.slice (some ⟨g2, 0, none⟩) (n + 1) C2) (i := 1)
  have T3 := Lib.hid (TD_set (q := 1) T2.out h62 (.slice (some ⟨g2, 0, none⟩) (n + 1) C2))
  have hn2 : ∀ (p : Addr), p.block < w3.heap.size → (V2.setCell ⟨w3.heap.size, 1, none⟩ (.slice (some ⟨g2, 0, none⟩) (n + 1) C2)).cell? p = V2.cell? p := fun p hp => World.cell?_of_block (Below.heap_setCell _ _ _ _ (by simp; omega))
  have hk3 : (V2.setCell ⟨w3.heap.size, 1, none⟩ (.slice (some ⟨g2, 0, none⟩) (n + 1) C2)).cell? ⟨w.heap.size + 1, 0, none⟩ = some (.string s) ∧ (V2.setCell ⟨w3.heap.size, 1, none⟩ (.slice (some ⟨g2, 0, none⟩) (n + 1) C2)).cell? ⟨w.heap.size + 1, 1, none⟩ = some (.slice (some ⟨gu, ou, none⟩) m cu) ∧ (V2.setCell ⟨w3.heap.size, 1, none⟩ (.slice (some ⟨g2, 0, none⟩) (n + 1) C2)).frozen? ⟨w3.heap.size, 1, none⟩ = false := ⟨(hn2 _ (by simp; omega)).trans hk2.2.1, (hn2 _ (by simp; omega)).trans hk2.2.2.1, unfrozen_of_block h63 1⟩
  have CF := Lib.hid (CE.out.far (HV2.out.setCell (p := ⟨w3.heap.size, 1, none⟩) (show w.heap.size + 3 ≤ w3.heap.size from hz3) (.slice (some ⟨g2, 0, none⟩) (n + 1) C2)))
  obtain ⟨k21, k22, k23, k24⟩ := id hk2
  clear hown2 hgr2 hat2 hn2
  simp only [Act.put, List.setIfInBounds_toArray, List.set_cons_zero, List.set_cons_succ]
  refine hK'.out _ _ hk2.2 (fun _ => hk2.1) ?_
  clear hK'
  refine rnd.wpAnyU_one (i := 11) (by kernel_rfl) rfl (fun K' hK' => ?_)
  go_simp
  refine hK'.out _ _ hk2.2 (fun _ => hk2.1) ?_
  clear hK'
  refine rnd.wpAnyU_one (i := 12) (by kernel_rfl) rfl (fun K' hK' => ?_)
  go_simp
  refine hK'.out _ _ hk3 (fun h => absurd rfl h) ?_
  clear hK'
  refine rnd.wpAnyU_done (by kernel_rfl) ?_ _
  clear hkd hk1 hk1a hk2 hk3 T2 k21 k22 k23 k24 HS hke
  generalize V2.setCell ⟨w3.heap.size, 1, none⟩ (.slice (some ⟨g2, 0, none⟩) (n + 1) C2) = V3 at *
  have r0 : V3.cell? ⟨w3.heap.size, 0, none⟩ = some (.int .i64 band) := by rw [cell_of_block h63]; rfl
  have r1 : V3.cell? ⟨w3.heap.size, 1, none⟩ = some (.slice (some ⟨g2, 0, none⟩) (n + 1) C2) := by rw [cell_of_block h63]; rfl
  have r2 : V3.cell? ⟨w.heap.size + 2, 0, none⟩ = some (.int .i64 0) := by rw [cell_of_block CF.out.b3]; rfl
  have r3 : V3.cell? ⟨w.heap.size + 2, 1, none⟩ = some (.slice none 0 0) := by rw [cell_of_block CF.out.b3]; rfl
  have r4 := unfrozen_of_block CF.out.b3 0
  have r5 := unfrozen_of_block CF.out.b3 1
  have TR := Lib.hid ((T3.out.set (b := w.heap.size + 2) (q := 0) (by omega) (.int .i64 band)).set (b := w.heap.size + 2) (q := 1) (by omega) (.slice (some ⟨g2, 0, none⟩) (n + 1) C2))
  have BR2 := Lib.hid ((CF.out.below.setCell (p := ⟨w.heap.size + 2, 0, none⟩) (show w.heap.size ≤ w.heap.size + 2 by omega) (.int .i64 band)).setCell (p := ⟨w.heap.size + 2, 1, none⟩) (show w.heap.size ≤ w.heap.size + 2 by omega) (.slice (some ⟨g2, 0, none⟩) (n + 1) C2))
  clear h61 h62 h63 hz3 hz6
  go_wp2
  refine bodyPost_ret (v := .tuple #[.agg #[.int .i64 band, .slice (some ⟨g2, 0, none⟩) (n + 1) C2], .int .i64 0]) (by simp [results, Try.results6, go_sem, r2, r3]) rfl ⟨some ⟨g2, 0, none⟩, C2, _, _, rfl, TD_low TR.out (by omega), BR2.out⟩
end Go.Proofs.Ytghaddpicedenaa.gro
