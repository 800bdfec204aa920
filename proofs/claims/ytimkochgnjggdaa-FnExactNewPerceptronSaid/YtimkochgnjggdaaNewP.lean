/-
  Proved: what both functions that make a new perceptron return.
  Conditions: none.
-/
import Derived.Test.YtimkochgnjggdaaNew
import Derived.Test.YtimkochgnjggdaaRnU
import Derived.Deep.RegionHeld3
import Derived.Deep.DeepCutAuto
namespace Go.Proofs.Ytimkochgnjggdaa.new
open Go.ChangeShapes Go.WideShapes Go.ChangeAt Go.RowKit Go.Joins
open Go.Proofs.Ytimkochgnjggdaa.core Go.Proofs.Ytimkochgnjggdaa.rown Go.Proofs.Ytimkochgnjggdaa.stk Go.Proofs.Ytimkochgnjggdaa.boxed Go.Proofs.Ytimkochgnjggdaa.ft Go.Proofs.Ytimkochgnjggdaa.one1 Go.Proofs.Ytimkochgnjggdaa.wts Go.Proofs.Ytimkochgnjggdaa.inp Go.Proofs.Ytimkochgnjggdaa.per
set_option linter.unusedVariables false
set_option linter.unusedSimpArgs false
theorem one_newR {w : World} {a : Value} {E H : Nat} (h : w.heap.size = H) : ∀ j u, [a][j]? = some u → (w.alloc (.cells #[a] E)).cell? ((⟨H, 0, none⟩ : Addr).add j) = some u := by
  subst h
  exact new_cells (l := [a])
/-- What is returned where the labels are valid, and where they are not. -/
def NewP (w : World) (n : Nat) (s : Nat → ByteArray) (e : Ending) (w' : World) : Prop :=
  ∃ xs : Nat → Value, e = .returned (.tuple #[.agg #[xs 0, xs 1], .int .i64 0]) ∧ OwnRec w' 2 xs (pdat n n s (fun _ => 25) (fun _ _ => 0)) (iv w.heap.size w'.heap.size) ∧ Below w.heap.size w w'
def NewN (w : World) (e : Ending) (w' : World) : Prop := e = .returned (.tuple #[.agg #[.slice none 0 0, .slice none 0 0], .int .i64 1]) ∧ Below w.heap.size w w'
/-- The zero perceptron in the result's box. -/
structure ZB (w W : World) : Prop where
  below : Below w.heap.size w W
  box : W.heap[w.heap.size]? = some (.cells #[.slice none 0 0, .slice none 0 0] 38 (0, 0))
theorem ZB.start (w : World) : ZB w (w.alloc (.cells #[.slice none 0 0, .slice none 0 0] 38)) := ⟨below_alloc1 _ _, heap_alloc_new _ _⟩
theorem ZB.lt {w W : World} (h : ZB w W) : w.heap.size < W.heap.size := block_size h.box
theorem ZB.kept {w W V : World} (h : ZB w W) (hb : Below W.heap.size W V) : ZB w V := ⟨h.below.trans (hb.mono h.below.size), (hb.block _ h.lt).trans h.box⟩
theorem ZB.cells {w W : World} (h : ZB w W) : W.cell? ⟨w.heap.size, 0, none⟩ = some (.slice none 0 0) ∧ W.cell? ⟨w.heap.size, 1, none⟩ = some (.slice none 0 0) ∧ W.frozen? ⟨w.heap.size, 0, none⟩ = false ∧ W.frozen? ⟨w.heap.size, 1, none⟩ = false :=
  ⟨by rw [cell_of_block h.box]; rfl, by rw [cell_of_block h.box]; rfl, unfrozen_of_block h.box 0, unfrozen_of_block h.box 1⟩
theorem fin_new {w w2 W : World} {n C B : Nat} {s : Nat → ByteArray} {v : Value} {D : Option Addr} {gi ci ln : Nat → Nat} {lf : Nat → Nat → Int} {m : Nat} (hz : ZB w w2) (hl : Own w2 v (.sl n 1 fun a _ => .str (s a)) (iv B w2.heap.size)) (hB : w.heap.size < B) (hN : NS w2 v D m C gi ln ci lf W) (hf : ∀ i a, i < m → a < ln i → inI64 (lf i a)) :
    OwnRec ((W.setCell ⟨w.heap.size, 0, none⟩ v).setCell ⟨w.heap.size, 1, none⟩ (.slice D m C)) 2 (fun q => if q = 0 then v else .slice D m C) (pdat n m s ln lf) (iv w.heap.size ((W.setCell ⟨w.heap.size, 0, none⟩ v).setCell ⟨w.heap.size, 1, none⟩ (.slice D m C)).heap.size) ∧ Below w.heap.size w ((W.setCell ⟨w.heap.size, 0, none⟩ v).setCell ⟨w.heap.size, 1, none⟩ (.slice D m C)) := by
  have hlt := hz.lt
  have hs := hN.lt
  have hzW := hz.kept hN.below
  have e : ((W.setCell ⟨w.heap.size, 0, none⟩ v).setCell ⟨w.heap.size, 1, none⟩ (.slice D m C)).heap.size = W.heap.size := by simp [World.setCell]
  have hl2 : Own ((W.setCell ⟨w.heap.size, 0, none⟩ v).setCell ⟨w.heap.size, 1, none⟩ (.slice D m C)) v (.sl n 1 fun a _ => .str (s a)) (iv B w2.heap.size) :=
    ((hl.kept hN.below).far (fun h => by unfold iv at h; omega) _).far (fun h => by unfold iv at h; omega) _
  have hw := ((hN.wd.far (show w.heap.size < w2.heap.size + 1 by omega) (q := 0) v).far (show w.heap.size < w2.heap.size + 1 by omega) (q := 1) (.slice D m C)).own hf
  exact ⟨own_per (hl2.mono fun x hx => (⟨by have := hx.1; omega, by have := hx.2; omega⟩ : iv w.heap.size (w2.heap.size + 1) x)) (Nat.le_refl _) (by rw [e]; omega) hw (by omega), (hzW.below.setCell (Nat.le_refl _) _).setCell (Nat.le_refl _) _⟩
set_option maxRecDepth 100000 in
set_option maxHeartbeats 2000000 in
theorem newS_no {c : Nat} (A : Option Addr) (n : Nat) (s : Nat → ByteArray) (w : World) (hn : n ≤ 1048576) (hs : ∀ i, i < n → (s i).size ≤ maxLen) (hp : SsAt w A n s) (hv : labsB n s = false) :
    Calls Try.prog 23 #[.slice A n c] w (NewN w) := by
  have HZ0 := Lib.hid (ZB.start w)
  have HL := Lib.hid (labelsS (c := c) A n s _ hn hs (hp.kept HZ0.out.below))
  rw [hv] at HL
  clear hp hv hs
  go_enter Try.func23, Try.ntmps23
  go_wp2_with fail
  refine HL.out.mono ?_
  rintro e w1 ⟨rfl, hb⟩
  have HZ := Lib.hid (HZ0.out.kept hb)
  clear hb HZ0 HL
  obtain ⟨y2, y3, y4, y5⟩ := HZ.out.cells
  have hlt := HZ.out.lt
  have BR := Lib.hid ((HZ.out.below.setCell (p := ⟨w.heap.size, 0, none⟩) (Nat.le_refl _) (.slice none 0 0)).setCell (p := ⟨w.heap.size, 1, none⟩) (Nat.le_refl _) (.slice none 0 0))
  go_wp2
  refine bodyPost_ret (v := .tuple #[.agg #[.slice none 0 0, .slice none 0 0], .int .i64 1]) (by simp [results, Try.results23, go_sem, y2, y3]) rfl ⟨rfl, BR.out⟩
set_option maxRecDepth 100000 in
set_option maxHeartbeats 2000000 in
theorem newI_no {c : Nat} (A : Option Addr) (n : Nat) (s : Nat → ByteArray) (w : World) (hn : n ≤ 1048576) (hs : ∀ i, i < n → (s i).size ≤ maxLen) (hp : SsAt w A n s) (hv : labsB n s = false) :
    Calls Try.prog 25 #[.slice A n c] w (NewN w) := by
  have HZ0 := Lib.hid (ZB.start w)
  have HL := Lib.hid (labelsI (c := c) A n s _ hn hs (hp.kept HZ0.out.below))
  rw [hv] at HL
  clear hp hv hs
  go_enter Try.func25, Try.ntmps25
  go_wp2_with fail
  refine HL.out.mono ?_
  rintro e w1 ⟨rfl, hb⟩
  have HZ := Lib.hid (HZ0.out.kept hb)
  clear hb HZ0 HL
  obtain ⟨y2, y3, y4, y5⟩ := HZ.out.cells
  have hlt := HZ.out.lt
  have BR := Lib.hid ((HZ.out.below.setCell (p := ⟨w.heap.size, 0, none⟩) (Nat.le_refl _) (.slice none 0 0)).setCell (p := ⟨w.heap.size, 1, none⟩) (Nat.le_refl _) (.slice none 0 0))
  go_wp2
  refine bodyPost_ret (v := .tuple #[.agg #[.slice none 0 0, .slice none 0 0], .int .i64 1]) (by simp [results, Try.results25, go_sem, y2, y3]) rfl ⟨rfl, BR.out⟩
set_option maxRecDepth 100000 in
set_option maxHeartbeats 8000000 in
theorem newI_yes {c : Nat} (A : Option Addr) (n : Nat) (s : Nat → ByteArray) (w : World) (hs : ∀ i, i < n → (s i).size ≤ maxLen) (hp : SsAt w A n s) (hc : n ≤ c) (hv : labsB n s = true) :
    Calls Try.prog 25 #[.slice A n c] w (NewP w n s) := by
  obtain ⟨i0, hi0, hz0, hz1, hz2⟩ := rown.info_get infoS
  obtain ⟨j0, hj0, jz0, jz1, jz2⟩ := rown.info_get infoL
  have hn := (labs_iff.1 hv).1
  have HS := Lib.hid hs
  have HZ0 := Lib.hid (ZB.start w)
  have HL := Lib.hid (labelsI (c := c) A n s _ (by omega) hs (hp.kept HZ0.out.below))
  have HPP := Lib.hid hp
  obtain ⟨g0, o0, rfl, hg0, -⟩ := hp 0 (by omega)
  rw [hv] at HL
  clear hp hv hs hg0
  go_enter Try.func25, Try.ntmps25
  go_wp2_with fail
  refine HL.out.mono ?_
  rintro e w1 ⟨rfl, hb⟩
  have HZ := Lib.hid (HZ0.out.kept hb)
  have HP := Lib.hid (HPP.out.kept HZ.out.below)
  clear hb HZ0 HL HPP
  have HC := Lib.hid (cloneS (c := c) (some ⟨g0, o0, none⟩) n s w1 hn.1 hn.2 HP.out)
  go_wp2_with fail
  refine HC.out.mono ?_
  rintro e w2 ⟨gs, ds, rfl, ho, hb⟩
  have HO := Lib.hid (own_strs ho HS.out)
  have HZ2 := Lib.hid (HZ.out.kept hb)
  have hw1 := HZ.out.lt
  clear ho hb HC
  have hmk := fun W => make25 W
  go_wp2
  go_loopw [14] (fun i w' => ∃ (k : Nat) (D : Option Addr) (C : Nat) (gi ci : Nat → Nat), k ≤ n ∧ i = .int .i64 (k : Int) ∧ Hid (NS w2 (.slice (some ⟨gs, 0, none⟩) n ds) D k C gi (fun _ => 25) ci (fun _ _ => 0) w')) (fun i _ => n - (intOf i).toNat)
  case atStart => exact ⟨0, none, 0, fun _ => 0, fun _ => 0, Nat.zero_le _, rfl, Lib.hid (NS.start w2 _ _ _ _ _)⟩
  case round =>
    obtain ⟨k, D, C, gi, ci, hk, rfl, HN⟩ := hrel
    by_cases hlt : k < n
    · have hli : (k : Int) < (n : Int) := by omega
      have hz := HN.out.lt
      have BD := Lib.hid ((Below.refl (w2.heap.size + 1) wr).drew)
      obtain ⟨cur, hcu, hmk⟩ := make25 wr.drew
      have HR := Lib.hid (RW.start wr.drew hcu (F := fun _ => 0) fun _ => rfl)
      have BM := Lib.hid (show Below wr.heap.size wr (wr.drew.alloc (.cells cur 2)) from (Below.refl wr.heap.size wr).drew.alloc (Nat.le_refl _) _)
      obtain ⟨VM, hVM⟩ : ∃ VM, wr.drew.alloc (.cells cur 2) = VM := ⟨_, rfl⟩
      rw [hVM] at hmk HR BM
      have HSN := Lib.hid (fun V (hB : Below (w2.heap.size + 1) wr V) => HN.out.seen hB)
      have hkd := HSN.out wr.drew BD.out
      have hke := HSN.out _ (BM.out.mono hz)
      have hkf := HSN.out _ ((BM.out.mono hz).alloc (Nat.le_trans hz BM.out.size) (.cells #[.slice (some ⟨wr.drew.heap.size, 0, none⟩) 25 25] 24))
      have hk0 := HN.out.cells.2
      have TE := Lib.hid ((HN.out.wd.kept BM.out).kept (below_alloc1 _ (.cells #[.slice (some ⟨wr.drew.heap.size, 0, none⟩) 25 25] 24)))
      have Z5 := Lib.hid (show k + 1 ≤ maxLen by simp only [maxLen]; omega)
      have Z6 := Lib.hid (show (k + 1) * 24 ≤ 140737488355328 by omega)
      have Z7 := Lib.hid (show w2.heap.size + 1 ≤ (VM.alloc (.cells #[.slice (some ⟨wr.drew.heap.size, 0, none⟩) 25 25] 24)).heap.size from Nat.le_trans (Nat.le_trans hz BM.out.size) (by simp))
      have hms : n - (k + 1) < n - k := by omega
      clear hcu hVM
      go_wp2
      refine rnd.wp_regionU (fun V => V.frozen? ⟨w2.heap.size, 1, none⟩ = false) (fun V => V.cell? ⟨w2.heap.size, 1, none⟩ = some (.slice D k C)) 6 (by kernel_rfl) ⟨hkd.2, hkd.1⟩ (fun hH => ?_)
      refine rnd.wpAnyU_take (i := 0) (oi := { dst := some 16, op := Op.fieldAddr 38 (Operand.tmp 4) 1, type := 0, pos := "l12_classifier.go:51", after := #[], guard := none }) (v := ?_) rfl (by kernel_rfl) (by kernel_rfl) (by kernel_rfl) (by kernel_rfl) (fun _ _ _ h => h) (Or.inl ⟨by rfl, ?_⟩) hH ?_
      rotate_left
      · intro V hSw
        obtain ⟨s1, s0⟩ := hSw
        go_simp
        try with_reducible rfl
      simp only [Act.put, List.setIfInBounds_toArray, List.set_cons_zero, List.set_cons_succ]
      refine rnd.wpAnyU_take (i := 1) (oi := { dst := some 17, op := Op.load 36 (Operand.tmp 16), type := 36, pos := "l12_classifier.go:51", after := #[{ on := 0, ground := Ground.data }], guard := none }) (v := ?_) rfl (by kernel_rfl) (by kernel_rfl) (by kernel_rfl) (by kernel_rfl) (fun _ _ _ h => h) (Or.inl ⟨by rfl, ?_⟩) hH ?_
      rotate_left
      · intro V hSw
        obtain ⟨s1, s0⟩ := hSw
        go_simp
        try with_reducible rfl
      simp only [Act.put, List.setIfInBounds_toArray, List.set_cons_zero, List.set_cons_succ]
      clear hH
      refine rnd.wpAnyU_one (i := 2) (by kernel_rfl) rfl (fun K' hK' => ?_)
      go_simp
      refine hK'.out _ _ hke.2 (fun _ => hke.1) ?_
      clear hK'
      refine rnd.wpAnyU_one (i := 3) (by kernel_rfl) rfl (fun K' hK' => ?_)
      go_simp
      refine hK'.out _ _ hkf.2 (fun _ => hkf.1) ?_
      clear hK'
      refine rnd.wpAnyU_one (i := 4) (by kernel_rfl) rfl (fun K' hK' => ?_)
      refine step_append_lies _ (by rfl) (.tmp 17) (.tmp 19) _ (by rfl) (w2.heap.size + 1) 24 j0 _ 1 24 Try.underlying36 hj0 jz0 jz1 jz2 rfl (by decide) (.slice D k C) k _ (by rfl) TE.out.row ⟨VM.heap.size, 0, none⟩ 1 1 [.slice (some ⟨wr.drew.heap.size, 0, none⟩) 25 25] (by rfl) rfl (one_newR rfl) (by simp [Value.oneCell']) (by decide) Z5.out Z6.out Z7.out _ rfl ?_
      intro g2 C2 V2 hown2 hgr2 hat2 hlt2
      obtain ⟨hNX, hB2⟩ := HN.out.next (gb := wr.drew.heap.size) (Cb := 25) BM.out HR.out.row hgr2 hown2
      have HNX := Lib.hid hNX
      have hk2 := HSN.out V2 hB2
      have hk3 : (V2.setCell ⟨w2.heap.size, 1, none⟩ (.slice (some ⟨g2, 0, none⟩) (k + 1) C2)).frozen? ⟨w2.heap.size, 1, none⟩ = false := unfrozen_of_block hNX.box 1
      obtain ⟨k21, k22⟩ := id hk2
      clear hown2 hgr2 hat2 hNX hB2
      simp only [Act.put, List.setIfInBounds_toArray, List.set_cons_zero, List.set_cons_succ]
      refine hK'.out _ _ hk2.2 (fun _ => hk2.1) ?_
      clear hK'
      refine rnd.wpAnyU_one (i := 5) (by kernel_rfl) rfl (fun K' hK' => ?_)
      go_simp
      refine hK'.out _ _ hk2.2 (fun _ => hk2.1) ?_
      clear hK'
      refine rnd.wpAnyU_one (i := 6) (by kernel_rfl) rfl (fun K' hK' => ?_)
      go_simp
      refine hK'.out _ _ hk3 (fun h => absurd rfl h) ?_
      clear hK'
      refine rnd.wpAnyU_done (by kernel_rfl) ?_ _
      clear hkd hke hkf hk0 hk2 hk3 k21 k22 HSN TE HR BM BD HN hmk
      go_wp2
      go_roundw
      case rel => exact ⟨k + 1, some ⟨g2, 0, none⟩, C2, _, _, hlt, by go_num, HNX⟩
      case measure => simp [intOf]; omega
    · obtain rfl : k = n := by omega
      have HZW := Lib.hid (HZ2.out.kept HN.out.below)
      obtain ⟨y2, y3, y4, y5⟩ := HZW.out.cells
      obtain ⟨b0, b1⟩ := HN.out.cells
      have hz := HN.out.lt
      have hz2 := HZ2.out.lt
      have HF := Lib.hid (fin_new HZ2.out HO.out hw1 HN.out fun i a _ _ => by unfold inI64; omega)
      clear hlt
      go_wp2
      refine bodyPost_ret (v := .tuple #[.agg #[.slice (some ⟨gs, 0, none⟩) k ds, .slice D k C], .int .i64 0]) (by simp [results, Try.results25, go_sem, y2, y3]) rfl ⟨_, rfl, HF.out.1, HF.out.2⟩
set_option maxRecDepth 100000 in
set_option maxHeartbeats 8000000 in
theorem newS_yes {c : Nat} (A : Option Addr) (n : Nat) (s : Nat → ByteArray) (w : World) (hs : ∀ i, i < n → (s i).size ≤ maxLen) (hp : SsAt w A n s) (hc : n ≤ c) (hv : labsB n s = true) :
    Calls Try.prog 23 #[.slice A n c] w (NewP w n s) := by
  obtain ⟨i0, hi0, hz0, hz1, hz2⟩ := rown.info_get infoS
  obtain ⟨j0, hj0, jz0, jz1, jz2⟩ := rown.info_get infoL
  have hn := (labs_iff.1 hv).1
  have HS := Lib.hid hs
  have HZ0 := Lib.hid (ZB.start w)
  have HL := Lib.hid (labelsS (c := c) A n s _ (by omega) hs (hp.kept HZ0.out.below))
  have HPP := Lib.hid hp
  obtain ⟨g0, o0, rfl, hg0, -⟩ := hp 0 (by omega)
  rw [hv] at HL
  clear hp hv hs hg0
  go_enter Try.func23, Try.ntmps23
  go_wp2_with fail
  refine HL.out.mono ?_
  rintro e w1 ⟨rfl, hb⟩
  have HZ := Lib.hid (HZ0.out.kept hb)
  have HP := Lib.hid (HPP.out.kept HZ.out.below)
  clear hb HZ0 HL HPP
  have B0 := Lib.hid (below_alloc1 w1 (.cells #[] 9))
  have HPE := Lib.hid (HP.out.kept B0.out)
  have HE := Lib.hid (empty_row w1 9 1)
  have hw1 := HZ.out.lt
  go_wp2_with (first
    | (at_builtin
       have z1 : ∀ u ∈ rws (srow s) n, u.oneCell' = true := ss_one s n
       have z2 : 0 + n ≤ maxLen := (by simp only [maxLen]; omega)
       have z3 : (0 + n) * 16 ≤ 140737488355328 := (by omega)
       have z4 : w1.heap.size ≤ (w1.alloc (.cells #[] 9)).heap.size := B0.out.size
       refine wpList_append_lies (w1.alloc (.cells #[] 9)) rfl _ _ 34 rfl w1.heap.size 9 i0 _ 1 16 Try.underlying34 hi0 hz0 hz1 hz2 rfl (by decide) (.slice (some ⟨w1.heap.size, 0, none⟩) 0 0) 0 [] rfl HE.out ⟨g0, o0, none⟩ n c (rws (srow s) n) rfl (rws_len (srow_len s) n) (ss_news HPE.out) z1 (by omega) z2 z3 z4 _ rfl ?_
       intro gs ds w2 hown hgr hat hlt3
       rw [Nat.zero_add] at hown
       have hown2 : w2.ownsRow w1.heap.size 9 1 (.slice (some ⟨gs, 0, none⟩) n ds) n (rws (srow s) n) := (by simpa using hown)
       have HO := Lib.hid (own_strs hown2 HS.out)
       have HZ2 := Lib.hid (HZ.out.kept (B0.out.grown hgr B0.out.size (fun kk hkk => (by simp [Value.ownBlock] at hkk; omega))))
       clear hown hown2 hgr hat z1 z2 z3 z4)
)
  go_loopw [15] (fun i w' => ∃ (k : Nat) (D : Option Addr) (C : Nat) (gi ci : Nat → Nat), k ≤ n ∧ i = .int .i64 (k : Int) ∧ Hid (NS w2 (.slice (some ⟨gs, 0, none⟩) n ds) D k C gi (fun _ => 25) ci (fun _ _ => 0) w')) (fun i _ => n - (intOf i).toNat)
  case atStart => exact ⟨0, none, 0, fun _ => 0, fun _ => 0, Nat.zero_le _, rfl, Lib.hid (by simpa using NS.start w2 _ _ _ _ _)⟩
  case round =>
    obtain ⟨k, D, C, gi, ci, hk, rfl, HN⟩ := hrel
    by_cases hlt : k < n
    · have hli : (k : Int) < (n : Int) := by omega
      have hz := HN.out.lt
      have BD := Lib.hid ((Below.refl (w2.heap.size + 1) wr).drew)
      obtain ⟨cur, hcu, hmk⟩ := make25 wr.drew
      have HR := Lib.hid (RW.start wr.drew hcu (F := fun _ => 0) fun _ => rfl)
      have BM := Lib.hid (show Below wr.heap.size wr (wr.drew.alloc (.cells cur 2)) from (Below.refl wr.heap.size wr).drew.alloc (Nat.le_refl _) _)
      obtain ⟨VM, hVM⟩ : ∃ VM, wr.drew.alloc (.cells cur 2) = VM := ⟨_, rfl⟩
      rw [hVM] at hmk HR BM
      have HSN := Lib.hid (fun V (hB : Below (w2.heap.size + 1) wr V) => HN.out.seen hB)
      have hkd := HSN.out wr.drew BD.out
      have hke := HSN.out _ (BM.out.mono hz)
      have hkf := HSN.out _ ((BM.out.mono hz).alloc (Nat.le_trans hz BM.out.size) (.cells #[.slice (some ⟨wr.drew.heap.size, 0, none⟩) 25 25] 24))
      have hk0 := HN.out.cells.2
      have TE := Lib.hid ((HN.out.wd.kept BM.out).kept (below_alloc1 _ (.cells #[.slice (some ⟨wr.drew.heap.size, 0, none⟩) 25 25] 24)))
      have Z5 := Lib.hid (show k + 1 ≤ maxLen by simp only [maxLen]; omega)
      have Z6 := Lib.hid (show (k + 1) * 24 ≤ 140737488355328 by omega)
      have Z7 := Lib.hid (show w2.heap.size + 1 ≤ (VM.alloc (.cells #[.slice (some ⟨wr.drew.heap.size, 0, none⟩) 25 25] 24)).heap.size from Nat.le_trans (Nat.le_trans hz BM.out.size) (by simp))
      have hms : n - (k + 1) < n - k := by omega
      clear hcu hVM
      go_wp2
      refine rnd.wp_regionU (fun V => V.frozen? ⟨w2.heap.size, 1, none⟩ = false) (fun V => V.cell? ⟨w2.heap.size, 1, none⟩ = some (.slice D k C)) 6 (by kernel_rfl) ⟨hkd.2, hkd.1⟩ (fun hH => ?_)
      refine rnd.wpAnyU_take (i := 0) (oi := { dst := some 17, op := Op.fieldAddr 38 (Operand.tmp 4) 1, type := 0, pos := "l12_classifier.go:44", after := #[], guard := none }) (v := ?_) rfl (by kernel_rfl) (by kernel_rfl) (by kernel_rfl) (by kernel_rfl) (fun _ _ _ h => h) (Or.inl ⟨by rfl, ?_⟩) hH ?_
      rotate_left
      · intro V hSw
        obtain ⟨s1, s0⟩ := hSw
        go_simp
        try with_reducible rfl
      simp only [Act.put, List.setIfInBounds_toArray, List.set_cons_zero, List.set_cons_succ]
      refine rnd.wpAnyU_take (i := 1) (oi := { dst := some 18, op := Op.load 36 (Operand.tmp 17), type := 36, pos := "l12_classifier.go:44", after := #[{ on := 0, ground := Ground.data }], guard := none }) (v := ?_) rfl (by kernel_rfl) (by kernel_rfl) (by kernel_rfl) (by kernel_rfl) (fun _ _ _ h => h) (Or.inl ⟨by rfl, ?_⟩) hH ?_
      rotate_left
      · intro V hSw
        obtain ⟨s1, s0⟩ := hSw
        go_simp
        try with_reducible rfl
      simp only [Act.put, List.setIfInBounds_toArray, List.set_cons_zero, List.set_cons_succ]
      clear hH
      refine rnd.wpAnyU_one (i := 2) (by kernel_rfl) rfl (fun K' hK' => ?_)
      go_simp
      refine hK'.out _ _ hke.2 (fun _ => hke.1) ?_
      clear hK'
      refine rnd.wpAnyU_one (i := 3) (by kernel_rfl) rfl (fun K' hK' => ?_)
      go_simp
      refine hK'.out _ _ hkf.2 (fun _ => hkf.1) ?_
      clear hK'
      refine rnd.wpAnyU_one (i := 4) (by kernel_rfl) rfl (fun K' hK' => ?_)
      refine step_append_lies _ (by rfl) (.tmp 18) (.tmp 20) _ (by rfl) (w2.heap.size + 1) 24 j0 _ 1 24 Try.underlying36 hj0 jz0 jz1 jz2 rfl (by decide) (.slice D k C) k _ (by rfl) TE.out.row ⟨VM.heap.size, 0, none⟩ 1 1 [.slice (some ⟨wr.drew.heap.size, 0, none⟩) 25 25] (by rfl) rfl (one_newR rfl) (by simp [Value.oneCell']) (by decide) Z5.out Z6.out Z7.out _ rfl ?_
      intro g2 C2 V2 hown2 hgr2 hat2 hlt2
      obtain ⟨hNX, hB2⟩ := HN.out.next (gb := wr.drew.heap.size) (Cb := 25) BM.out HR.out.row hgr2 hown2
      have HNX := Lib.hid hNX
      have hk2 := HSN.out V2 hB2
      have hk3 : (V2.setCell ⟨w2.heap.size, 1, none⟩ (.slice (some ⟨g2, 0, none⟩) (k + 1) C2)).frozen? ⟨w2.heap.size, 1, none⟩ = false := unfrozen_of_block hNX.box 1
      obtain ⟨k21, k22⟩ := id hk2
      clear hown2 hgr2 hat2 hNX hB2
      simp only [Act.put, List.setIfInBounds_toArray, List.set_cons_zero, List.set_cons_succ]
      refine hK'.out _ _ hk2.2 (fun _ => hk2.1) ?_
      clear hK'
      refine rnd.wpAnyU_one (i := 5) (by kernel_rfl) rfl (fun K' hK' => ?_)
      go_simp
      refine hK'.out _ _ hk2.2 (fun _ => hk2.1) ?_
      clear hK'
      refine rnd.wpAnyU_one (i := 6) (by kernel_rfl) rfl (fun K' hK' => ?_)
      go_simp
      refine hK'.out _ _ hk3 (fun h => absurd rfl h) ?_
      clear hK'
      refine rnd.wpAnyU_done (by kernel_rfl) ?_ _
      clear hkd hke hkf hk0 hk2 hk3 k21 k22 HSN TE HR BM BD HN hmk
      go_wp2
      go_roundw
      case rel => exact ⟨k + 1, some ⟨g2, 0, none⟩, C2, _, _, hlt, by go_num, HNX⟩
      case measure => simp [intOf]; omega
    · obtain rfl : k = n := by omega
      have HZW := Lib.hid (HZ2.out.kept HN.out.below)
      obtain ⟨y2, y3, y4, y5⟩ := HZW.out.cells
      obtain ⟨b0, b1⟩ := HN.out.cells
      have hz := HN.out.lt
      have hz2 := HZ2.out.lt
      have HF := Lib.hid (fin_new HZ2.out HO.out hw1 HN.out fun i a _ _ => by unfold inI64; omega)
      clear hlt
      go_wp2
      refine bodyPost_ret (v := .tuple #[.agg #[.slice (some ⟨gs, 0, none⟩) k ds, .slice D k C], .int .i64 0]) (by simp [results, Try.results23, go_sem, y2, y3]) rfl ⟨_, rfl, HF.out.1, HF.out.2⟩
end Go.Proofs.Ytimkochgnjggdaa.new
