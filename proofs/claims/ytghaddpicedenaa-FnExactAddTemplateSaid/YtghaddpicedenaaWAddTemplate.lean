/-
  Proved: the walk of the law on AddTemplate, out of what the two functions return.
  Conditions: what the two functions return for arguments that read as the law's own.
-/
import Derived.Test.YtghaddpicedenaaOpen
import Derived.Test.YtghaddpicedenaaWid
import Derived.Deep.RegionHeld3
import Derived.Deep.DeepCutAuto
namespace Go.Proofs.Ytghaddpicedenaa.wAddTemplate
open Go.ChangeShapes Go.WideShapes Go.ChangeAt Go.RowKit Go.Joins
set_option linter.unusedVariables false
set_option linter.unusedSimpArgs false
open Go.Proofs.Ytghaddpicedenaa.core
section
variable {W W' : World}
theorem bx2_at {b T : Nat} {us : Nat → Value} (h : W.heap[b]? = some (.cells #[us 0, us 1] T (0, 0))) : W.cell? ⟨b, 0, none⟩ = some (us 0) ∧ W.cell? ⟨b, 1, none⟩ = some (us 1) := ⟨by rw [cell_of_block h]; rfl, by rw [cell_of_block h]; rfl⟩
theorem blk_lt {b : Nat} {o : Obj} (h : W.heap[b]? = some o) : b < W.heap.size := (Array.getElem?_eq_some_iff.1 h).1
end
structure InvR0 (w0 : World) (kx ka : Nat) (W : World) : Prop where
  hx : kx < W.heap.size
  ha : ka < W.heap.size
  below : Below w0.heap.size w0 W
abbrev SR0 (w0 : World) (kx ka : Nat) (us vs : Nat → Value) (W : World) : Prop := W.cell? ⟨kx, 0, none⟩ = some (us 0) ∧ W.cell? ⟨kx, 1, none⟩ = some (us 1) ∧ W.cell? ⟨ka, 0, none⟩ = some (vs 0) ∧ W.cell? ⟨ka, 1, none⟩ = some (vs 1) ∧ InvR0 w0 kx ka W
section
variable {w0 W W' : World} {kx ka : Nat} {us vs : Nat → Value}
theorem SR0_kept (hb : Below W.heap.size W W') (h : SR0 w0 kx ka us vs W) : SR0 w0 kx ka us vs W' := by
  obtain ⟨h0, h1, h2, h3, hi⟩ := h
  have zx := hi.hx
  have za := hi.ha
  exact ⟨(hb.cell (p := ⟨kx, 0, none⟩) zx).trans h0, (hb.cell (p := ⟨kx, 1, none⟩) zx).trans h1, (hb.cell (p := ⟨ka, 0, none⟩) za).trans h2, (hb.cell (p := ⟨ka, 1, none⟩) za).trans h3, ⟨Nat.lt_of_lt_of_le zx hb.size, Nat.lt_of_lt_of_le za hb.size, hi.below.trans (hb.mono hi.below.size)⟩⟩
theorem SR0_drew (h : SR0 w0 kx ka us vs W) : SR0 w0 kx ka us vs W.drew := SR0_kept ((Below.refl _ _).drew) h
theorem SR0_b (h : SR0 w0 kx ka us vs W) : Below w0.heap.size w0 W := h.2.2.2.2.below
theorem SR0_of {T T' : Nat} (h : W.heap[kx]? = some (.cells #[us 0, us 1] T (0, 0))) (h' : W.heap[ka]? = some (.cells #[vs 0, vs 1] T' (0, 0))) : SR0 W kx ka us vs W :=
  ⟨by rw [cell_of_block h]; rfl, by rw [cell_of_block h]; rfl, by rw [cell_of_block h']; rfl, by rw [cell_of_block h']; rfl, ⟨(Array.getElem?_eq_some_iff.1 h).1, (Array.getElem?_eq_some_iff.1 h').1, Below.refl _ _⟩⟩
end
structure InvR1 (w0 : World) (kx ka : Nat) (W : World) : Prop where
  hx : kx < W.heap.size
  ha : ka < W.heap.size
  below : Below w0.heap.size w0 W
abbrev SR1 (w0 : World) (kx ka : Nat) (us vs : Nat → Value) (W : World) : Prop := W.cell? ⟨kx, 0, none⟩ = some (us 0) ∧ W.cell? ⟨kx, 1, none⟩ = some (us 1) ∧ W.cell? ⟨ka, 0, none⟩ = some (vs 0) ∧ W.cell? ⟨ka, 1, none⟩ = some (vs 1) ∧ InvR1 w0 kx ka W
section
variable {w0 W W' : World} {kx ka : Nat} {us vs : Nat → Value}
theorem SR1_kept (hb : Below W.heap.size W W') (h : SR1 w0 kx ka us vs W) : SR1 w0 kx ka us vs W' := by
  obtain ⟨h0, h1, h2, h3, hi⟩ := h
  have zx := hi.hx
  have za := hi.ha
  exact ⟨(hb.cell (p := ⟨kx, 0, none⟩) zx).trans h0, (hb.cell (p := ⟨kx, 1, none⟩) zx).trans h1, (hb.cell (p := ⟨ka, 0, none⟩) za).trans h2, (hb.cell (p := ⟨ka, 1, none⟩) za).trans h3, ⟨Nat.lt_of_lt_of_le zx hb.size, Nat.lt_of_lt_of_le za hb.size, hi.below.trans (hb.mono hi.below.size)⟩⟩
theorem SR1_drew (h : SR1 w0 kx ka us vs W) : SR1 w0 kx ka us vs W.drew := SR1_kept ((Below.refl _ _).drew) h
theorem SR1_b (h : SR1 w0 kx ka us vs W) : Below w0.heap.size w0 W := h.2.2.2.2.below
theorem SR1_of {T T' : Nat} (h : W.heap[kx]? = some (.cells #[us 0, us 1] T (0, 0))) (h' : W.heap[ka]? = some (.cells #[vs 0, vs 1] T' (0, 0))) : SR1 W kx ka us vs W :=
  ⟨by rw [cell_of_block h]; rfl, by rw [cell_of_block h]; rfl, by rw [cell_of_block h']; rfl, by rw [cell_of_block h']; rfl, ⟨(Array.getElem?_eq_some_iff.1 h).1, (Array.getElem?_eq_some_iff.1 h').1, Below.refl _ _⟩⟩
end
structure InvK (w0 : World) (base : Nat) (W : World) : Prop where
  hw : base + 2 ≤ w0.heap.size
  below : Below w0.heap.size w0 W
abbrev SK (w0 : World) (base : Nat) (vs0 vs1 : Nat → Value) (W : World) : Prop := W.cell? ⟨base, 0, none⟩ = some (vs0 0) ∧ W.cell? ⟨base, 1, none⟩ = some (vs0 1) ∧ W.cell? ⟨base + 1, 0, none⟩ = some (vs1 0) ∧ W.cell? ⟨base + 1, 1, none⟩ = some (vs1 1) ∧ InvK w0 base W
section
variable {w0 W W' : World} {base : Nat} {vs0 vs1 : Nat → Value}
theorem SK_kept (hb : Below W.heap.size W W') (h : SK w0 base vs0 vs1 W) : SK w0 base vs0 vs1 W' := by
  obtain ⟨h0, h1, h2, h3, hi⟩ := h
  have z1 := hi.hw
  have z2 := hi.below.size
  exact ⟨(hb.cell (p := ⟨base, 0, none⟩) (by show base < W.heap.size; omega)).trans h0, (hb.cell (p := ⟨base, 1, none⟩) (by show base < W.heap.size; omega)).trans h1, (hb.cell (p := ⟨base + 1, 0, none⟩) (by show base + 1 < W.heap.size; omega)).trans h2, (hb.cell (p := ⟨base + 1, 1, none⟩) (by show base + 1 < W.heap.size; omega)).trans h3, ⟨z1, hi.below.trans (hb.mono hi.below.size)⟩⟩
theorem SK_drew (h : SK w0 base vs0 vs1 W) : SK w0 base vs0 vs1 W.drew := SK_kept ((Below.refl _ _).drew) h
theorem SK_al {o : Obj} (h : SK w0 base vs0 vs1 W) : SK w0 base vs0 vs1 (W.alloc o) := SK_kept (below_alloc1 _ _) h
theorem SK_b (h : SK w0 base vs0 vs1 W) : Below w0.heap.size w0 W := h.2.2.2.2.below
theorem SK_set {K q : Nat} {v : Value} (h : SK w0 base vs0 vs1 W) (hK : w0.heap.size ≤ K) : SK w0 base vs0 vs1 (W.setCell ⟨K, q, none⟩ v) := by
  obtain ⟨h0, h1, h2, h3, hi⟩ := h
  have z1 := hi.hw
  have hn : ∀ (p : Addr), p.block < base + 2 → (W.setCell ⟨K, q, none⟩ v).cell? p = W.cell? p := fun p hp => World.cell?_of_block (Below.heap_setCell _ _ _ _ (by intro e; simp at e; omega))
  exact ⟨(hn ⟨base, 0, none⟩ (by show base < base + 2; omega)).trans h0, (hn ⟨base, 1, none⟩ (by show base < base + 2; omega)).trans h1, (hn ⟨base + 1, 0, none⟩ (by show base + 1 < base + 2; omega)).trans h2, (hn ⟨base + 1, 1, none⟩ (by show base + 1 < base + 2; omega)).trans h3, ⟨z1, hi.below.setCell hK _⟩⟩
end
theorem below_al {v V : World} {o : Obj} (h : Below (v.alloc o).heap.size (v.alloc o) V) : Below v.heap.size v V := (below_alloc1 v o).trans (h.mono (by simp))
theorem ch {V V' : World} {K : Nat} {o : Obj} (hb : Below V.heap.size V V') (h : V.heap[K]? = some o) : V'.heap[K]? = some o := (hb.block _ (blk_lt h)).trans h
structure RB (w0 : World) (K lo hi : Nat) (x : Nat → Value) (R : Nat → Dat) (W : World) : Prop where
  below : Below w0.heap.size w0 W
  own : OwnRec W 2 x R (iv lo hi)
  box : W.heap[K]? = some (.cells #[x 0, x 1] 32 (0, 0))
  h1 : w0.heap.size ≤ lo
  h2 : lo ≤ hi
  h3 : hi ≤ W.heap.size
  hK : w0.heap.size ≤ K
theorem bxz {V : World} {K T : Nat} {z0 z1 : Value} (h : V.heap[K]? = some (.cells #[z0, z1] T (0, 0))) : V.cell? ⟨K, 0, none⟩ = some z0 ∧ V.cell? ⟨K, 1, none⟩ = some z1 ∧ V.frozen? ⟨K, 0, none⟩ = false ∧ V.frozen? ⟨K, 1, none⟩ = false := ⟨by rw [cell_of_block h]; rfl, by rw [cell_of_block h]; rfl, unfrozen_of_block h 0, unfrozen_of_block h 1⟩
theorem RB_of {w0 V : World} {K lo hi : Nat} {x : Nat → Value} {R : Nat → Dat} {z0 z1 : Value} (hB : Below w0.heap.size w0 V) (ho : OwnRec V 2 x R (iv lo hi)) (hx : V.heap[K]? = some (.cells #[z0, z1] 32 (0, 0))) (h1 : w0.heap.size ≤ lo) (h2 : lo ≤ hi) (h3 : hi ≤ V.heap.size) (hK : w0.heap.size ≤ K) (hn : K < lo ∨ hi ≤ K) : RB w0 K lo hi x R ((V.setCell ⟨K, 0, none⟩ (x 0)).setCell ⟨K, 1, none⟩ (x 1)) := by
  exact ⟨((hB.setCell (p := ⟨K, 0, none⟩) hK (x 0)).setCell (p := ⟨K, 1, none⟩) hK (x 1)), ho.only (((OnlyF.refl (fun y => y = K) V).setCell (i := 0) rfl (x 0)).setCell (i := 1) rfl (x 1)) (fun y h1 h2 => by have h2 : y = K := h2; unfold iv at h1; omega), (block_setCell (block_setCell hx (x 0) (i := 0)) (x 1) (i := 1)), h1, h2, by simpa [World.setCell] using h3, hK⟩
theorem RB_al {w0 V : World} {lo hi : Nat} {x : Nat → Value} {R : Nat → Dat} (hB : Below w0.heap.size w0 V) (ho : OwnRec V 2 x R (iv lo hi)) (h1 : w0.heap.size ≤ lo) (h2 : lo ≤ hi) (h3 : hi ≤ V.heap.size) : RB w0 V.heap.size lo hi x R (V.alloc (.cells #[x 0, x 1] 32)) :=
  ⟨hB.trans ((below_alloc1 _ _).mono hB.size), ho.kept (below_alloc1 _ _), heap_alloc_new _ _, h1, h2, by simp; omega, hB.size⟩

set_option maxRecDepth 100000 in
set_option maxHeartbeats 16000000 in
theorem walk (vs0 : Nat → Value) (g0 : Nat → Dat) (vs1 : Nat → Value) (g1 : Nat → Dat) (w : World) (hr0 : ReadsRec w 2 vs0 g0) (ht0 : tyrStore g0) (hr1 : ReadsRec w 2 vs1 g1) (ht1 : tyrTemplate g1)
    (hm : costRec 2 g0 ≤ 1048576 → costRec 2 g1 ≤ 1048576 → ∃ (R : Nat → Dat) (r1 : Int), tyrStore R ∧ cntRec 2 R ≤ 100000000000 ∧ (∀ (W : World) (us0 : Nat → Value) (us1 : Nat → Value), ReadsRec W 2 us0 g0 → ReadsRec W 2 us1 g1 → Calls Try.prog 6 #[.agg #[us0 0, us0 1], .agg #[us1 0, us1 1]] W fun e W' => ∃ xs : Nat → Value, e = .returned (.tuple #[.agg #[xs 0, xs 1], .int .i64 r1]) ∧ OwnRec W' 2 xs R (iv W.heap.size W'.heap.size) ∧ Below W.heap.size W W') ∧ (∀ (W : World) (us0 : Nat → Value) (us1 : Nat → Value), ReadsRec W 2 us0 g0 → ReadsRec W 2 us1 g1 → Calls Try.prog 9 #[.agg #[us0 0, us0 1], .agg #[us1 0, us1 1]] W fun e W' => ∃ xs : Nat → Value, e = .returned (.tuple #[.agg #[xs 0, xs 1], .int .i64 r1]) ∧ OwnRec W' 2 xs R (iv W.heap.size W'.heap.size) ∧ Below W.heap.size W W')) :
    Calls Try.prog 3 #[.agg #[vs0 0, vs0 1], .agg #[vs1 0, vs1 1]] w fun e w' => e = .returned (.bool true) ∧ Below w.heap.size w w' := by
  have HT0 := Lib.hid ht0
  have HRD0 := Lib.hid (fun (V : World) (hV : Below w.heap.size w V) => hr0.kept hV)
  have HT1 := Lib.hid ht1
  have HRD1 := Lib.hid (fun (V : World) (hV : Below w.heap.size w V) => hr1.kept hV)
  have HTO0 := Lib.hid (fun (hq : costRec 2 g0 ≤ 1048576) (V : World) (hV : Below w.heap.size w V) => toStore_rec vs0 g0 V hq (HRD0.out V hV) HT0.out)
  have HSZ0 := Lib.hid (fun (left : Int) (V : World) (hV : Below w.heap.size w V) (h1 : _) (h2 : _) => szStore_rec vs0 g0 left V h1 h2 (HRD0.out V hV) HT0.out)
  clear hr0 ht0
  have HTO1 := Lib.hid (fun (hq : costRec 2 g1 ≤ 1048576) (V : World) (hV : Below w.heap.size w V) => toTemplate_rec vs1 g1 V hq (HRD1.out V hV) HT1.out)
  have HSZ1 := Lib.hid (fun (left : Int) (V : World) (hV : Below w.heap.size w V) (h1 : _) (h2 : _) => szTemplate_rec vs1 g1 left V h1 h2 (HRD1.out V hV) HT1.out)
  clear hr1 ht1
  have HM := Lib.hid hm
  clear hm
  have hw0 := below_alloc1 w (.cells #[vs0 0, vs0 1] 24)
  have HB := Lib.hid hw0
  have KA0 := Lib.hid (heap_alloc_new w (.cells #[vs0 0, vs0 1] 24))
  clear hw0
  have hw1 := below_alloc1 (w.alloc (.cells #[vs0 0, vs0 1] 24)) (.cells #[vs1 0, vs1 1] 27)
  have HB1 := Lib.hid (HB.out.trans (hw1.mono HB.out.size))
  clear HB
  have HB := HB1
  clear HB1
  have KA01 := Lib.hid ((hw1.block _ (blk_lt KA0.out)).trans KA0.out)
  clear KA0
  have KA0 := KA01
  clear KA01
  have hka1 := heap_alloc_new (w.alloc (.cells #[vs0 0, vs0 1] 24)) (.cells #[vs1 0, vs1 1] 27)
  rw [show (w.alloc (.cells #[vs0 0, vs0 1] 24)).heap.size = w.heap.size + 1 by simp] at hka1
  have KA1 := Lib.hid hka1
  clear hw1 hka1
  go_enter Try.func3, Try.ntmps3
  obtain ⟨pa0, pa1⟩ := bx2_at (us := vs0) KA0.out
  have paz := blk_lt KA0.out
  go_wp2_with fail
  refine (HSZ0.out _ _ HB.out (by omega) (by omega)).mono ?_
  rintro e wz0 ⟨rfl, hb⟩
  clear pa0 pa1 paz
  have zwz0 : w.heap.size + 2 ≤ wz0.heap.size := by have h := hb.size; (try simp at h); omega
  have HB1 := Lib.hid (HB.out.trans (hb.mono HB.out.size))
  clear HB
  have HB := HB1
  clear HB1
  have KA01 := Lib.hid ((hb.block _ (blk_lt KA0.out)).trans KA0.out)
  clear KA0
  have KA0 := KA01
  clear KA01
  have KA11 := Lib.hid ((hb.block _ (blk_lt KA1.out)).trans KA1.out)
  clear KA1
  have KA1 := KA11
  clear KA11
  clear hb HSZ0
  by_cases hq0 : ((costRec 2 g0 : Nat) : Int) ≤ 1048576
  rotate_left
  · rw [left_no hq0]
    go_wp2
    go_ret
    exact ⟨rfl, HB.out⟩
  rw [left_yes hq0]
  have hq0' : ¬ (1048576 - ((costRec 2 g0 : Nat) : Int) < 0) := by omega
  obtain ⟨pa0, pa1⟩ := bx2_at (us := vs1) KA1.out
  have paz := blk_lt KA1.out
  go_wp2_with fail
  refine (HSZ1.out _ _ HB.out (by omega) (by omega)).mono ?_
  rintro e wz1 ⟨rfl, hb⟩
  clear pa0 pa1 paz
  have zwz1 : wz0.heap.size ≤ wz1.heap.size := by have h := hb.size; (try simp at h); omega
  have HB1 := Lib.hid (HB.out.trans (hb.mono HB.out.size))
  clear HB
  have HB := HB1
  clear HB1
  have KA01 := Lib.hid ((hb.block _ (blk_lt KA0.out)).trans KA0.out)
  clear KA0
  have KA0 := KA01
  clear KA01
  have KA11 := Lib.hid ((hb.block _ (blk_lt KA1.out)).trans KA1.out)
  clear KA1
  have KA1 := KA11
  clear KA11
  clear hb HSZ1
  by_cases hq1 : ((costRec 2 g1 : Nat) : Int) ≤ 1048576 - ((costRec 2 g0 : Nat) : Int)
  rotate_left
  · rw [left_no hq1]
    go_wp2
    go_ret
    exact ⟨rfl, HB.out⟩
  rw [left_yes hq1]
  have hq1' : ¬ (1048576 - ((costRec 2 g0 : Nat) : Int) - ((costRec 2 g1 : Nat) : Int) < 0) := by omega
  obtain ⟨R, r1, htR, hcR, hS, hI⟩ := HM.out (by omega) (by omega)
  have HS := Lib.hid hS
  have HI := Lib.hid hI
  clear hS hI HM
  have HTO20 := Lib.hid (HTO0.out (by omega))
  clear HTO0
  have HTO21 := Lib.hid (HTO1.out (by omega))
  clear HTO1
  have HTR := Lib.hid htR
  have HCR := Lib.hid hcR
  clear htR hcR
  have HCX0 := Lib.hid (show cntRec 2 g0 ≤ 100000000000 by have h1 := cntRec_le (widrStore HT0.out); omega)
  have HCX1 := Lib.hid (show cntRec 2 g1 ≤ 100000000000 by have h1 := cntRec_le (widrTemplate HT1.out); omega)
  obtain ⟨pk0_0, pk0_1⟩ := bx2_at (us := vs0) KA0.out
  have pk0_z := blk_lt KA0.out
  obtain ⟨pk1_0, pk1_1⟩ := bx2_at (us := vs1) KA1.out
  have pk1_z := blk_lt KA1.out
  have hbz : w.heap.size + 2 ≤ wz1.heap.size := by omega
  have hk : SK wz1 w.heap.size vs0 vs1 wz1 := ⟨pk0_0, pk0_1, pk1_0, pk1_1, ⟨hbz, Below.refl _ _⟩⟩
  have HTO30 := Lib.hid (fun (V : World) (hV : Below wz1.heap.size wz1 V) => HTO20.out V (HB.out.trans (hV.mono HB.out.size)))
  have HTO31 := Lib.hid (fun (V : World) (hV : Below wz1.heap.size wz1 V) => HTO21.out V (HB.out.trans (hV.mono HB.out.size)))
  go_upto_region 8 with fail
  go_cut [6, 7] (fun s6 s7 wx => ∃ (K lo hi : Nat) (xw : Nat → Value), s6 = .pointer (some ⟨K, 0, none⟩) ∧ s7 = (.int .i64 r1) ∧ Hid (RB wz1 K lo hi xw R wx))
  case first =>
    go_region_held3 (fun W => W.cell? ⟨w.heap.size, 0, none⟩ = some (vs0 0) ∧ W.cell? ⟨w.heap.size, 1, none⟩ = some (vs0 1) ∧ W.cell? ⟨w.heap.size + 1, 0, none⟩ = some (vs1 0) ∧ W.cell? ⟨w.heap.size + 1, 1, none⟩ = some (vs1 1) ∧ InvK wz1 w.heap.size W) (first | assumption | exact SK_drew hk | exact SK_al (SK_drew hk) | exact SK_al (by assumption) | exact (SK_set (SK_set (by assumption) (by have q0 := tab0.size; (try simp at q0); have q1 := tab1.size; (try simp at q1); have q2 := tab2.size; (try simp at q2); first | omega | (simp; omega))) (by have q0 := tab0.size; (try simp at q0); have q1 := tab1.size; (try simp at q1); have q2 := tab2.size; (try simp at q2); first | omega | (simp; omega))) | exact (SK_set (SK_set (by assumption) (by have q0 := tab0.size; (try simp at q0); have q1 := tab1.size; (try simp at q1); have q2 := tab2.size; (try simp at q2); first | omega | (simp; omega))) (by have q0 := tab0.size; (try simp at q0); have q1 := tab1.size; (try simp at q1); have q2 := tab2.size; (try simp at q2); first | omega | (simp; omega))) | exact (SK_set (SK_set (by assumption) (by have q0 := tab0.size; (try simp at q0); have q1 := tab1.size; (try simp at q1); have q2 := tab2.size; (try simp at q2); first | omega | (simp; omega))) (by have q0 := tab0.size; (try simp at q0); have q1 := tab1.size; (try simp at q1); have q2 := tab2.size; (try simp at q2); first | omega | (simp; omega))) | exact (SK_set (SK_set (SK_al (by assumption)) (by have q0 := tab0.size; (try simp at q0); have q1 := tab1.size; (try simp at q1); have q2 := tab2.size; (try simp at q2); first | omega | (simp; omega))) (by have q0 := tab0.size; (try simp at q0); have q1 := tab1.size; (try simp at q1); have q2 := tab2.size; (try simp at q2); first | omega | (simp; omega))) | go_keep) (first | (go_at_call 7; (with_reducible refine (HTO30.out _ (SK_b (by first | assumption | exact SK_drew hk | exact SK_al (SK_drew hk) | exact SK_al (by assumption)))).mono ?_); rintro e tav1 ⟨ut0, rfl, tao0, tab0⟩; (try have tax0 : tav1.heap[wz1.heap.size]? = _ := ch tab0 (heap_alloc_new (wz1.drew) (.cells #[.int .i64 0, .slice none 0 0] 32))); have taU0_0 := Lib.hid tao0.reads; have tak0 := SK_kept tab0 (by first | assumption | exact SK_drew hk | exact SK_al (SK_drew hk) | exact SK_al (by assumption))) | (go_at_call 8; (with_reducible refine (HTO31.out _ (SK_b (by first | assumption | exact SK_drew hk | exact SK_al (SK_drew hk) | exact SK_al (by assumption)))).mono ?_); rintro e tav2 ⟨ut1, rfl, tao1, tab1⟩; have tae1 : Below tav1.heap.size tav1 tav2 := (by first | exact tab1 | exact below_al tab1); have taU0_1 := Lib.hid (taU0_0.out.kept tae1); (try have tax1 := ch tab1 tax0); (try have tax1 := ch tab1 (heap_alloc_new (tav1) (.cells #[.int .i64 0, .slice none 0 0] 32))); have taU1_1 := Lib.hid tao1.reads; have tak1 := SK_kept tab1 (by first | assumption | exact SK_drew hk | exact SK_al (SK_drew hk) | exact SK_al (by assumption))) | (go_at_call 6; (with_reducible refine (HS.out _ ut0 ut1 (by first | exact taU0_1.out | exact taU0_1.out.kept (below_alloc1 _ _)) (by first | exact taU1_1.out | exact taU1_1.out.kept (below_alloc1 _ _))).mono ?_); rintro e tav3 ⟨xw, rfl, tao, tab2⟩; have tas0 : ∀ (a : Addr) (W : World), (store a (xw 0)).run Try.prog W = stored Try.prog W a (xw 0) .plain := fun a W => run_store _ _ _ _ _ (tao.reads 0 (by omega)).one; have tas1 : ∀ (a : Addr) (W : World), (store a (xw 1)).run Try.prog W = stored Try.prog W a (xw 1) .plain := fun a W => run_store _ _ _ _ _ (tao.reads 1 (by omega)).one; (try have tax2 := ch tab2 tax1); (try have tax2 := ch tab2 (heap_alloc_new (tav2) (.cells #[.int .i64 0, .slice none 0 0] 32))); (try (have tay := bxz tax2; obtain ⟨tac0, tac1, taf0, taf1⟩ := tay)); have tak := SK_kept tab2 (by first | assumption | exact SK_drew hk | exact SK_al (SK_drew hk) | exact SK_al (by assumption))))
    all_goals
      go_wp2_with fail
      go_meet
      first
        | exact ⟨tav3.heap.size, tav2.heap.size, tav3.heap.size, xw, rfl, rfl, Lib.hid (RB_al (SK_b tak) tao (by have q0 := tab0.size; (try simp at q0); have q1 := tab1.size; (try simp at q1); have q2 := tab2.size; (try simp at q2); (try simp); first | done | omega) (by have q0 := tab0.size; (try simp at q0); have q1 := tab1.size; (try simp at q1); have q2 := tab2.size; (try simp at q2); (try simp); first | done | omega) (by have q0 := tab0.size; (try simp at q0); have q1 := tab1.size; (try simp at q1); have q2 := tab2.size; (try simp at q2); (try simp); first | done | omega))⟩
        | exact ⟨tav3.heap.size, tav2.heap.size, tav3.heap.size, xw, rfl, rfl, Lib.hid (RB_of (V := (tav3.alloc (.cells #[.int .i64 0, .slice none 0 0] 32))) (SK_b (SK_al tak)) (tao.kept (below_alloc1 _ _)) (heap_alloc_new tav3 (.cells #[.int .i64 0, .slice none 0 0] 32)) (by have q0 := tab0.size; (try simp at q0); have q1 := tab1.size; (try simp at q1); have q2 := tab2.size; (try simp at q2); (try simp); first | done | omega) (by have q0 := tab0.size; (try simp at q0); have q1 := tab1.size; (try simp at q1); have q2 := tab2.size; (try simp at q2); (try simp); first | done | omega) (by have q0 := tab0.size; (try simp at q0); have q1 := tab1.size; (try simp at q1); have q2 := tab2.size; (try simp at q2); (try simp); first | done | omega) (by have q0 := tab0.size; (try simp at q0); have q1 := tab1.size; (try simp at q1); have q2 := tab2.size; (try simp at q2); (try simp); first | done | omega) (by have q0 := tab0.size; (try simp at q0); have q1 := tab1.size; (try simp at q1); have q2 := tab2.size; (try simp at q2); (try simp); first | done | omega))⟩
        | exact ⟨tav2.heap.size, (tav2.alloc (.cells #[.int .i64 0, .slice none 0 0] 32)).heap.size, tav3.heap.size, xw, rfl, rfl, Lib.hid (RB_of (V := tav3) (SK_b tak) tao (ch tab2 (heap_alloc_new (tav2) (.cells #[.int .i64 0, .slice none 0 0] 32))) (by have q0 := tab0.size; (try simp at q0); have q1 := tab1.size; (try simp at q1); have q2 := tab2.size; (try simp at q2); (try simp); first | done | omega) (by have q0 := tab0.size; (try simp at q0); have q1 := tab1.size; (try simp at q1); have q2 := tab2.size; (try simp at q2); (try simp); first | done | omega) (by have q0 := tab0.size; (try simp at q0); have q1 := tab1.size; (try simp at q1); have q2 := tab2.size; (try simp at q2); (try simp); first | done | omega) (by have q0 := tab0.size; (try simp at q0); have q1 := tab1.size; (try simp at q1); have q2 := tab2.size; (try simp at q2); (try simp); first | done | omega) (by have q0 := tab0.size; (try simp at q0); have q1 := tab1.size; (try simp at q1); have q2 := tab2.size; (try simp at q2); (try simp); first | done | omega))⟩
        | exact ⟨tav1.heap.size, tav2.heap.size, tav3.heap.size, xw, rfl, rfl, Lib.hid (RB_of (V := tav3) (SK_b tak) tao (ch tab2 (ch tab1 (heap_alloc_new (tav1) (.cells #[.int .i64 0, .slice none 0 0] 32)))) (by have q0 := tab0.size; (try simp at q0); have q1 := tab1.size; (try simp at q1); have q2 := tab2.size; (try simp at q2); (try simp); first | done | omega) (by have q0 := tab0.size; (try simp at q0); have q1 := tab1.size; (try simp at q1); have q2 := tab2.size; (try simp at q2); (try simp); first | done | omega) (by have q0 := tab0.size; (try simp at q0); have q1 := tab1.size; (try simp at q1); have q2 := tab2.size; (try simp at q2); (try simp); first | done | omega) (by have q0 := tab0.size; (try simp at q0); have q1 := tab1.size; (try simp at q1); have q2 := tab2.size; (try simp at q2); (try simp); first | done | omega) (by have q0 := tab0.size; (try simp at q0); have q1 := tab1.size; (try simp at q1); have q2 := tab2.size; (try simp at q2); (try simp); first | done | omega))⟩
        | exact ⟨wz1.heap.size, tav2.heap.size, tav3.heap.size, xw, rfl, rfl, Lib.hid (RB_of (V := tav3) (SK_b tak) tao (ch tab2 (ch tab1 (ch tab0 (heap_alloc_new (wz1.drew) (.cells #[.int .i64 0, .slice none 0 0] 32))))) (by have q0 := tab0.size; (try simp at q0); have q1 := tab1.size; (try simp at q1); have q2 := tab2.size; (try simp at q2); (try simp); first | done | omega) (by have q0 := tab0.size; (try simp at q0); have q1 := tab1.size; (try simp at q1); have q2 := tab2.size; (try simp at q2); (try simp); first | done | omega) (by have q0 := tab0.size; (try simp at q0); have q1 := tab1.size; (try simp at q1); have q2 := tab2.size; (try simp at q2); (try simp); first | done | omega) (by have q0 := tab0.size; (try simp at q0); have q1 := tab1.size; (try simp at q1); have q2 := tab2.size; (try simp at q2); (try simp); first | done | omega) (by have q0 := tab0.size; (try simp at q0); have q1 := tab1.size; (try simp at q1); have q2 := tab2.size; (try simp at q2); (try simp); first | done | omega))⟩
  case rest =>
    obtain ⟨taK, talo, tahi, xw, rfl, rfl, HRB⟩ := hcut
    have hb := HRB.out.below
    clear hk hbz HTO30 HTO31
    clear pk0_0 pk0_1 pk0_z
    clear pk1_0 pk1_1 pk1_z
    have zta1 := HRB.out.h1
    have zta2 := HRB.out.h2
    have zta3 := HRB.out.h3
    have zta4 := HRB.out.hK
    have zta5 := blk_lt HRB.out.box
    have zta6 : wz1.heap.size ≤ talo := by omega
    have zta7 : wz1.heap.size ≤ wc.heap.size := by omega
    have HB1 := Lib.hid (HB.out.trans (hb.mono HB.out.size))
    clear HB
    have HB := HB1
    clear HB1
    have KA01 := Lib.hid ((hb.block _ (blk_lt KA0.out)).trans KA0.out)
    clear KA0
    have KA0 := KA01
    clear KA01
    have KA11 := Lib.hid ((hb.block _ (blk_lt KA1.out)).trans KA1.out)
    clear KA1
    have KA1 := KA11
    clear KA11
    have HW := Lib.hid HRB.out.own
    have KW := Lib.hid HRB.out.box
    clear hb HRB
    obtain ⟨pa0, pa1⟩ := bx2_at (us := vs0) KA0.out
    have paz := blk_lt KA0.out
    go_wp2_with fail
    refine (HTO20.out _ HB.out).mono ?_
    rintro e wx0 ⟨us0, rfl, ho, hb⟩
    clear pa0 pa1 paz
    have zwx0 : wc.heap.size ≤ wx0.heap.size := by have h := hb.size; (try simp at h); omega
    have HB1 := Lib.hid (HB.out.trans (hb.mono HB.out.size))
    clear HB
    have HB := HB1
    clear HB1
    have KA01 := Lib.hid ((hb.block _ (blk_lt KA0.out)).trans KA0.out)
    clear KA0
    have KA0 := KA01
    clear KA01
    have KA11 := Lib.hid ((hb.block _ (blk_lt KA1.out)).trans KA1.out)
    clear KA1
    have KA1 := KA11
    clear KA11
    have KW1 := Lib.hid ((hb.block _ (blk_lt KW.out)).trans KW.out)
    clear KW
    have KW := KW1
    clear KW1
    have HW1 := Lib.hid (HW.out.kept hb)
    clear HW
    have HW := HW1
    clear HW1
    have HX0 := Lib.hid (ho.mono (F' := iv (wc.heap.size) wx0.heap.size) (fun x hx => by unfold iv at *; (try simp at hx); omega))
    have stKX0_0 : ∀ (a : Addr) (W : World), (store a (us0 0)).run Try.prog W = stored Try.prog W a (us0 0) .plain := fun a W => run_store _ _ _ _ _ (ho.reads 0 (by omega)).one
    have stKX0_1 : ∀ (a : Addr) (W : World), (store a (us0 1)).run Try.prog W = stored Try.prog W a (us0 1) .plain := fun a W => run_store _ _ _ _ _ (ho.reads 1 (by omega)).one
    clear ho hb
    have ha := below_alloc1 wx0 (.cells #[us0 0, us0 1] 32)
    have HB1 := Lib.hid (HB.out.trans (ha.mono HB.out.size))
    clear HB
    have HB := HB1
    clear HB1
    have KA01 := Lib.hid ((ha.block _ (blk_lt KA0.out)).trans KA0.out)
    clear KA0
    have KA0 := KA01
    clear KA01
    have KA11 := Lib.hid ((ha.block _ (blk_lt KA1.out)).trans KA1.out)
    clear KA1
    have KA1 := KA11
    clear KA11
    have KW1 := Lib.hid ((ha.block _ (blk_lt KW.out)).trans KW.out)
    clear KW
    have KW := KW1
    clear KW1
    have HW1 := Lib.hid (HW.out.kept ha)
    clear HW
    have HW := HW1
    clear HW1
    have HX01 := Lib.hid (HX0.out.kept ha)
    clear HX0
    have HX0 := HX01
    clear HX01
    have KX0 := Lib.hid (heap_alloc_new wx0 (.cells #[us0 0, us0 1] 32))
    clear ha
    obtain ⟨pa0, pa1⟩ := bx2_at (us := vs1) KA1.out
    have paz := blk_lt KA1.out
    go_wp2_with fail
    refine (HTO21.out _ HB.out).mono ?_
    rintro e wx1 ⟨us1, rfl, ho, hb⟩
    clear pa0 pa1 paz
    have zwx1 : wx0.heap.size + 1 ≤ wx1.heap.size := by have h := hb.size; (try simp at h); omega
    have HB1 := Lib.hid (HB.out.trans (hb.mono HB.out.size))
    clear HB
    have HB := HB1
    clear HB1
    have KA01 := Lib.hid ((hb.block _ (blk_lt KA0.out)).trans KA0.out)
    clear KA0
    have KA0 := KA01
    clear KA01
    have KA11 := Lib.hid ((hb.block _ (blk_lt KA1.out)).trans KA1.out)
    clear KA1
    have KA1 := KA11
    clear KA11
    have KW1 := Lib.hid ((hb.block _ (blk_lt KW.out)).trans KW.out)
    clear KW
    have KW := KW1
    clear KW1
    have KX01 := Lib.hid ((hb.block _ (blk_lt KX0.out)).trans KX0.out)
    clear KX0
    have KX0 := KX01
    clear KX01
    have HW1 := Lib.hid (HW.out.kept hb)
    clear HW
    have HW := HW1
    clear HW1
    have HX01 := Lib.hid (HX0.out.kept hb)
    clear HX0
    have HX0 := HX01
    clear HX01
    clear stKX0_0 stKX0_1
    have HX1 := Lib.hid (ho.mono (F' := iv (wx0.heap.size + 1) wx1.heap.size) (fun x hx => by unfold iv at *; (try simp at hx); omega))
    have stKX1_0 : ∀ (a : Addr) (W : World), (store a (us1 0)).run Try.prog W = stored Try.prog W a (us1 0) .plain := fun a W => run_store _ _ _ _ _ (ho.reads 0 (by omega)).one
    have stKX1_1 : ∀ (a : Addr) (W : World), (store a (us1 1)).run Try.prog W = stored Try.prog W a (us1 1) .plain := fun a W => run_store _ _ _ _ _ (ho.reads 1 (by omega)).one
    clear ho hb
    have ha := below_alloc1 wx1 (.cells #[us1 0, us1 1] 38)
    have HB1 := Lib.hid (HB.out.trans (ha.mono HB.out.size))
    clear HB
    have HB := HB1
    clear HB1
    have KA01 := Lib.hid ((ha.block _ (blk_lt KA0.out)).trans KA0.out)
    clear KA0
    have KA0 := KA01
    clear KA01
    have KA11 := Lib.hid ((ha.block _ (blk_lt KA1.out)).trans KA1.out)
    clear KA1
    have KA1 := KA11
    clear KA11
    have KW1 := Lib.hid ((ha.block _ (blk_lt KW.out)).trans KW.out)
    clear KW
    have KW := KW1
    clear KW1
    have KX01 := Lib.hid ((ha.block _ (blk_lt KX0.out)).trans KX0.out)
    clear KX0
    have KX0 := KX01
    clear KX01
    have HW1 := Lib.hid (HW.out.kept ha)
    clear HW
    have HW := HW1
    clear HW1
    have HX01 := Lib.hid (HX0.out.kept ha)
    clear HX0
    have HX0 := HX01
    clear HX01
    have HX11 := Lib.hid (HX1.out.kept ha)
    clear HX1
    have HX1 := HX11
    clear HX11
    have KX1 := Lib.hid (heap_alloc_new wx1 (.cells #[us1 0, us1 1] 38))
    clear ha
    obtain ⟨px0_0, px0_1⟩ := bx2_at (us := us0) KX0.out
    have px0_z := blk_lt KX0.out
    obtain ⟨px1_0, px1_1⟩ := bx2_at (us := us1) KX1.out
    have px1_z := blk_lt KX1.out
    go_wp2_with fail
    refine (HI.out _ us0 us1 HX0.out.reads HX1.out.reads).mono ?_
    rintro e wG ⟨xg, rfl, ho, hb⟩
    have zwG : wx1.heap.size + 1 ≤ wG.heap.size := by have h := hb.size; (try simp at h); omega
    have HB1 := Lib.hid (HB.out.trans (hb.mono HB.out.size))
    clear HB
    have HB := HB1
    clear HB1
    have KA01 := Lib.hid ((hb.block _ (blk_lt KA0.out)).trans KA0.out)
    clear KA0
    have KA0 := KA01
    clear KA01
    have KA11 := Lib.hid ((hb.block _ (blk_lt KA1.out)).trans KA1.out)
    clear KA1
    have KA1 := KA11
    clear KA11
    have KW1 := Lib.hid ((hb.block _ (blk_lt KW.out)).trans KW.out)
    clear KW
    have KW := KW1
    clear KW1
    have KX01 := Lib.hid ((hb.block _ (blk_lt KX0.out)).trans KX0.out)
    clear KX0
    have KX0 := KX01
    clear KX01
    have KX11 := Lib.hid ((hb.block _ (blk_lt KX1.out)).trans KX1.out)
    clear KX1
    have KX1 := KX11
    clear KX11
    have HW1 := Lib.hid (HW.out.kept hb)
    clear HW
    have HW := HW1
    clear HW1
    have HX01 := Lib.hid (HX0.out.kept hb)
    clear HX0
    have HX0 := HX01
    clear HX01
    have HX11 := Lib.hid (HX1.out.kept hb)
    clear HX1
    have HX1 := HX11
    clear HX11
    have stKG_0 : ∀ (a : Addr) (W : World), (store a (xg 0)).run Try.prog W = stored Try.prog W a (xg 0) .plain := fun a W => run_store _ _ _ _ _ (ho.reads 0 (by omega)).one
    have stKG_1 : ∀ (a : Addr) (W : World), (store a (xg 1)).run Try.prog W = stored Try.prog W a (xg 1) .plain := fun a W => run_store _ _ _ _ _ (ho.reads 1 (by omega)).one
    have HG := Lib.hid (ho.mono (F' := iv (wx1.heap.size + 1) wG.heap.size) (fun x hx => by unfold iv at *; (try simp at hx); omega))
    clear ho hb
    clear stKX1_0 stKX1_1
    clear px0_0 px0_1 px0_z
    clear px1_0 px1_1 px1_z
    have ha := below_alloc1 wG (.cells #[xg 0, xg 1] 32)
    have HB1 := Lib.hid (HB.out.trans (ha.mono HB.out.size))
    clear HB
    have HB := HB1
    clear HB1
    have KA01 := Lib.hid ((ha.block _ (blk_lt KA0.out)).trans KA0.out)
    clear KA0
    have KA0 := KA01
    clear KA01
    have KA11 := Lib.hid ((ha.block _ (blk_lt KA1.out)).trans KA1.out)
    clear KA1
    have KA1 := KA11
    clear KA11
    have KW1 := Lib.hid ((ha.block _ (blk_lt KW.out)).trans KW.out)
    clear KW
    have KW := KW1
    clear KW1
    have KX01 := Lib.hid ((ha.block _ (blk_lt KX0.out)).trans KX0.out)
    clear KX0
    have KX0 := KX01
    clear KX01
    have KX11 := Lib.hid ((ha.block _ (blk_lt KX1.out)).trans KX1.out)
    clear KX1
    have KX1 := KX11
    clear KX11
    have HW1 := Lib.hid (HW.out.kept ha)
    clear HW
    have HW := HW1
    clear HW1
    have HX01 := Lib.hid (HX0.out.kept ha)
    clear HX0
    have HX0 := HX01
    clear HX01
    have HX11 := Lib.hid (HX1.out.kept ha)
    clear HX1
    have HX1 := HX11
    clear HX11
    have HG1 := Lib.hid (HG.out.kept ha)
    clear HG
    have HG := HG1
    clear HG1
    have KG := Lib.hid (heap_alloc_new wG (.cells #[xg 0, xg 1] 32))
    clear ha
    have HDW_X0 := Lib.hid (show ∀ x, iv (talo) tahi x → iv (wc.heap.size) wx0.heap.size x → False from fun x h1 h2 => by unfold iv at *; omega)
    have HDG_X0 := Lib.hid (show ∀ x, iv (wx1.heap.size + 1) wG.heap.size x → iv (wc.heap.size) wx0.heap.size x → False from fun x h1 h2 => by unfold iv at *; omega)
    have HDX1_X0 := Lib.hid (show ∀ x, iv (wx0.heap.size + 1) wx1.heap.size x → iv (wc.heap.size) wx0.heap.size x → False from fun x h1 h2 => by unfold iv at *; omega)
    have HDW_X1 := Lib.hid (show ∀ x, iv (talo) tahi x → iv (wx0.heap.size + 1) wx1.heap.size x → False from fun x h1 h2 => by unfold iv at *; omega)
    have HDG_X1 := Lib.hid (show ∀ x, iv (wx1.heap.size + 1) wG.heap.size x → iv (wx0.heap.size + 1) wx1.heap.size x → False from fun x h1 h2 => by unfold iv at *; omega)
    have HDW_G := Lib.hid (show ∀ x, iv (talo) tahi x → iv (wx1.heap.size + 1) wG.heap.size x → False from fun x h1 h2 => by unfold iv at *; omega)
    have HEX0 := Lib.hid (show ∀ x, iv (wc.heap.size) wx0.heap.size x → w.heap.size + 2 ≤ x from fun x h => by unfold iv at *; omega)
    have HNKW_X0 := Lib.hid (show ¬ iv (wc.heap.size) wx0.heap.size (taK) from fun h => by unfold iv at *; omega)
    have HNKX0_X0 := Lib.hid (show ¬ iv (wc.heap.size) wx0.heap.size (wx0.heap.size) from fun h => by unfold iv at *; omega)
    have HNKX1_X0 := Lib.hid (show ¬ iv (wc.heap.size) wx0.heap.size (wx1.heap.size) from fun h => by unfold iv at *; omega)
    have HNKG_X0 := Lib.hid (show ¬ iv (wc.heap.size) wx0.heap.size (wG.heap.size) from fun h => by unfold iv at *; omega)
    have HEX1 := Lib.hid (show ∀ x, iv (wx0.heap.size + 1) wx1.heap.size x → w.heap.size + 2 ≤ x from fun x h => by unfold iv at *; omega)
    have HNKW_X1 := Lib.hid (show ¬ iv (wx0.heap.size + 1) wx1.heap.size (taK) from fun h => by unfold iv at *; omega)
    have HNKX0_X1 := Lib.hid (show ¬ iv (wx0.heap.size + 1) wx1.heap.size (wx0.heap.size) from fun h => by unfold iv at *; omega)
    have HNKX1_X1 := Lib.hid (show ¬ iv (wx0.heap.size + 1) wx1.heap.size (wx1.heap.size) from fun h => by unfold iv at *; omega)
    have HNKG_X1 := Lib.hid (show ¬ iv (wx0.heap.size + 1) wx1.heap.size (wG.heap.size) from fun h => by unfold iv at *; omega)
    have HEG := Lib.hid (show ∀ x, iv (wx1.heap.size + 1) wG.heap.size x → w.heap.size + 2 ≤ x from fun x h => by unfold iv at *; omega)
    have HNKW_G := Lib.hid (show ¬ iv (wx1.heap.size + 1) wG.heap.size (taK) from fun h => by unfold iv at *; omega)
    have HNKX0_G := Lib.hid (show ¬ iv (wx1.heap.size + 1) wG.heap.size (wx0.heap.size) from fun h => by unfold iv at *; omega)
    have HNKX1_G := Lib.hid (show ¬ iv (wx1.heap.size + 1) wG.heap.size (wx1.heap.size) from fun h => by unfold iv at *; omega)
    have HNKG_G := Lib.hid (show ¬ iv (wx1.heap.size + 1) wG.heap.size (wG.heap.size) from fun h => by unfold iv at *; omega)
    clear zwz0 zwz1 zta1 zta2 zta3 zta4 zta5 zta6 zta7 zwx0 zwx1 zwG
    obtain ⟨pg0, pg1⟩ := bx2_at (us := xg) KG.out
    have pgz := blk_lt KG.out
    obtain ⟨pw0, pw1⟩ := bx2_at (us := xw) KW.out
    have pwz := blk_lt KW.out
    go_wp2_with fail
    refine (eqStore_rec xg xw R _ HG.out.reads HW.out.reads HTR.out).mono ?_
    rintro e w5 ⟨rfl, hb⟩
    clear stKG_0 stKG_1
    clear pg0 pg1 pgz
    clear pw0 pw1 pwz
    have HB1 := Lib.hid (HB.out.trans (hb.mono HB.out.size))
    clear HB
    have HB := HB1
    clear HB1
    have KA01 := Lib.hid ((hb.block _ (blk_lt KA0.out)).trans KA0.out)
    clear KA0
    have KA0 := KA01
    clear KA01
    have KA11 := Lib.hid ((hb.block _ (blk_lt KA1.out)).trans KA1.out)
    clear KA1
    have KA1 := KA11
    clear KA11
    have KW1 := Lib.hid ((hb.block _ (blk_lt KW.out)).trans KW.out)
    clear KW
    have KW := KW1
    clear KW1
    have KX01 := Lib.hid ((hb.block _ (blk_lt KX0.out)).trans KX0.out)
    clear KX0
    have KX0 := KX01
    clear KX01
    have KX11 := Lib.hid ((hb.block _ (blk_lt KX1.out)).trans KX1.out)
    clear KX1
    have KX1 := KX11
    clear KX11
    have KG1 := Lib.hid ((hb.block _ (blk_lt KG.out)).trans KG.out)
    clear KG
    have KG := KG1
    clear KG1
    have HW1 := Lib.hid (HW.out.kept hb)
    clear HW
    have HW := HW1
    clear HW1
    have HX01 := Lib.hid (HX0.out.kept hb)
    clear HX0
    have HX0 := HX01
    clear HX01
    have HX11 := Lib.hid (HX1.out.kept hb)
    clear HX1
    have HX1 := HX11
    clear HX11
    have HG1 := Lib.hid (HG.out.kept hb)
    clear HG
    have HG := HG1
    clear HG1
    clear hb
    have hk := SR0_of KX0.out KA0.out
    obtain ⟨cx0, cx1, ca0, ca1, -⟩ := id hk
    have HTO3 := Lib.hid (fun (V : World) (hV : Below w5.heap.size w5 V) => HTO20.out V (HB.out.trans (hV.mono HB.out.size)))
    have HX0R := Lib.hid HX0.out.reads
    have HLA := Lib.hid (blk_lt KA0.out)
    go_upto_region 14 with fail
    go_cut [58] (fun s wx => s = .bool false ∧ Hid (SR0 w5 wx0.heap.size (w.heap.size) us0 vs0 wx))
    case first =>
      go_region_held3 (fun W => W.cell? ⟨wx0.heap.size, 0, none⟩ = some (us0 0) ∧ W.cell? ⟨wx0.heap.size, 1, none⟩ = some (us0 1) ∧ W.cell? ⟨w.heap.size, 0, none⟩ = some (vs0 0) ∧ W.cell? ⟨w.heap.size, 1, none⟩ = some (vs0 1) ∧ InvR0 w5 wx0.heap.size (w.heap.size) W) (first | assumption | exact SR0_drew hk | go_keep) (first | (go_at_call 7; (with_reducible refine (HTO3.out _ (SR0_b (by first | assumption | exact SR0_drew hk))).mono ?_); rintro e wa ⟨ua, rfl, hoa, hba⟩; have hra := hoa.reads; have hk2 := SR0_kept hba (by first | assumption | exact SR0_drew hk)) | (go_at_call 10; (with_reducible refine (eqStore_rec us0 _ g0 _ (by exact HX0R.out.kept (SR0_b (by assumption))) (by assumption) HT0.out).mono ?_); rintro e wd ⟨rfl, hbd⟩; have hk3 := SR0_kept hbd (by assumption)))
      all_goals
        rename_i hh
        have HH := Lib.hid hh
        clear hh
        go_wp2_with fail
        go_meet
        exact ⟨rfl, HH⟩
    case rest =>
      obtain ⟨rfl, HC⟩ := hcut
      have hb := SR0_b HC.out
      clear hk HTO3 HX0R HLA cx0 cx1 ca0 ca1
      have HB1 := Lib.hid (HB.out.trans (hb.mono HB.out.size))
      clear HB
      have HB := HB1
      clear HB1
      have KA01 := Lib.hid ((hb.block _ (blk_lt KA0.out)).trans KA0.out)
      clear KA0
      have KA0 := KA01
      clear KA01
      have KA11 := Lib.hid ((hb.block _ (blk_lt KA1.out)).trans KA1.out)
      clear KA1
      have KA1 := KA11
      clear KA11
      have KW1 := Lib.hid ((hb.block _ (blk_lt KW.out)).trans KW.out)
      clear KW
      have KW := KW1
      clear KW1
      have KX01 := Lib.hid ((hb.block _ (blk_lt KX0.out)).trans KX0.out)
      clear KX0
      have KX0 := KX01
      clear KX01
      have KX11 := Lib.hid ((hb.block _ (blk_lt KX1.out)).trans KX1.out)
      clear KX1
      have KX1 := KX11
      clear KX11
      have KG1 := Lib.hid ((hb.block _ (blk_lt KG.out)).trans KG.out)
      clear KG
      have KG := KG1
      clear KG1
      have HW1 := Lib.hid (HW.out.kept hb)
      clear HW
      have HW := HW1
      clear HW1
      have HX01 := Lib.hid (HX0.out.kept hb)
      clear HX0
      have HX0 := HX01
      clear HX01
      have HX11 := Lib.hid (HX1.out.kept hb)
      clear HX1
      have HX1 := HX11
      clear HX11
      have HG1 := Lib.hid (HG.out.kept hb)
      clear HG
      have HG := HG1
      clear HG1
      clear hb HC
      have hk := SR1_of KX1.out KA1.out
      obtain ⟨cx0, cx1, ca0, ca1, -⟩ := id hk
      have HTO3 := Lib.hid (fun (V : World) (hV : Below wc.heap.size wc V) => HTO21.out V (HB.out.trans (hV.mono HB.out.size)))
      have HX0R := Lib.hid HX1.out.reads
      have HLA := Lib.hid (blk_lt KA1.out)
      go_upto_region 16 with fail
      go_cut [63] (fun s wx => s = .bool false ∧ Hid (SR1 wc wx1.heap.size (w.heap.size + 1) us1 vs1 wx))
      case first =>
        go_region_held3 (fun W => W.cell? ⟨wx1.heap.size, 0, none⟩ = some (us1 0) ∧ W.cell? ⟨wx1.heap.size, 1, none⟩ = some (us1 1) ∧ W.cell? ⟨w.heap.size + 1, 0, none⟩ = some (vs1 0) ∧ W.cell? ⟨w.heap.size + 1, 1, none⟩ = some (vs1 1) ∧ InvR1 wc wx1.heap.size (w.heap.size + 1) W) (first | assumption | exact SR1_drew hk | go_keep) (first | (go_at_call 8; (with_reducible refine (HTO3.out _ (SR1_b (by first | assumption | exact SR1_drew hk))).mono ?_); rintro e wa ⟨ua, rfl, hoa, hba⟩; have hra := hoa.reads; have hk2 := SR1_kept hba (by first | assumption | exact SR1_drew hk)) | (go_at_call 11; (with_reducible refine (eqTemplate_rec us1 _ g1 _ (by exact HX0R.out.kept (SR1_b (by assumption))) (by assumption) HT1.out).mono ?_); rintro e wd ⟨rfl, hbd⟩; have hk3 := SR1_kept hbd (by assumption)))
        all_goals
          rename_i hh
          have HH := Lib.hid hh
          clear hh
          go_wp2_with fail
          go_meet
          exact ⟨rfl, HH⟩
      case rest =>
        obtain ⟨rfl, HC⟩ := hcut
        have hb := SR1_b HC.out
        clear hk HTO3 HX0R HLA cx0 cx1 ca0 ca1
        have HB1 := Lib.hid (HB.out.trans (hb.mono HB.out.size))
        clear HB
        have HB := HB1
        clear HB1
        have KA01 := Lib.hid ((hb.block _ (blk_lt KA0.out)).trans KA0.out)
        clear KA0
        have KA0 := KA01
        clear KA01
        have KA11 := Lib.hid ((hb.block _ (blk_lt KA1.out)).trans KA1.out)
        clear KA1
        have KA1 := KA11
        clear KA11
        have KW1 := Lib.hid ((hb.block _ (blk_lt KW.out)).trans KW.out)
        clear KW
        have KW := KW1
        clear KW1
        have KX01 := Lib.hid ((hb.block _ (blk_lt KX0.out)).trans KX0.out)
        clear KX0
        have KX0 := KX01
        clear KX01
        have KX11 := Lib.hid ((hb.block _ (blk_lt KX1.out)).trans KX1.out)
        clear KX1
        have KX1 := KX11
        clear KX11
        have KG1 := Lib.hid ((hb.block _ (blk_lt KG.out)).trans KG.out)
        clear KG
        have KG := KG1
        clear KG1
        have HW1 := Lib.hid (HW.out.kept hb)
        clear HW
        have HW := HW1
        clear HW1
        have HX01 := Lib.hid (HX0.out.kept hb)
        clear HX0
        have HX0 := HX01
        clear HX01
        have HX11 := Lib.hid (HX1.out.kept hb)
        clear HX1
        have HX1 := HX11
        clear HX11
        have HG1 := Lib.hid (HG.out.kept hb)
        clear HG
        have HG := HG1
        clear HG1
        clear hb HC
        obtain ⟨px0, px1⟩ := bx2_at (us := us0) KX0.out
        have pxz := blk_lt KX0.out
        go_wp2_with fail
        refine (markStore_rec us0 g0 _ 1 _ _ (by rfl) (by omega) (by have := HCX0.out; omega) HX0.out HT0.out).mono ?_
        rintro e w8_0 ⟨rfl, -, ho⟩
        clear px0 px1 pxz
        clear KX0
        have HB1 := Lib.hid (HB.out.trans (ho.below (fun x hx => Nat.le_trans (by omega) (HEX0.out x hx)) HB.out.size))
        clear HB
        have HB := HB1
        clear HB1
        have KA01 := Lib.hid ((ho.block _ (blk_lt KA0.out) (fun hx => by have := HEX0.out _ hx; omega)).trans KA0.out)
        clear KA0
        have KA0 := KA01
        clear KA01
        have KA11 := Lib.hid ((ho.block _ (blk_lt KA1.out) (fun hx => by have := HEX0.out _ hx; omega)).trans KA1.out)
        clear KA1
        have KA1 := KA11
        clear KA11
        have KW1 := Lib.hid ((ho.block _ (blk_lt KW.out) HNKW_X0.out).trans KW.out)
        clear KW
        have KW := KW1
        clear KW1
        have KX11 := Lib.hid ((ho.block _ (blk_lt KX1.out) HNKX1_X0.out).trans KX1.out)
        clear KX1
        have KX1 := KX11
        clear KX11
        have KG1 := Lib.hid ((ho.block _ (blk_lt KG.out) HNKG_X0.out).trans KG.out)
        clear KG
        have KG := KG1
        clear KG1
        have HW1 := Lib.hid (HW.out.only ho HDW_X0.out)
        clear HW
        have HW := HW1
        clear HW1
        have HX11 := Lib.hid (HX1.out.only ho HDX1_X0.out)
        clear HX1
        have HX1 := HX11
        clear HX11
        have HG1 := Lib.hid (HG.out.only ho HDG_X0.out)
        clear HG
        have HG := HG1
        clear HG1
        clear ho HX0
        obtain ⟨y0, hy0⟩ : ∃ y, 1 + cntRec 2 g0 = y := ⟨_, rfl⟩
        rw [hy0]
        have hyb0 : 1 ≤ y0 ∧ y0 ≤ 100000000001 := by have := HCX0.out; omega
        clear hy0
        obtain ⟨px0, px1⟩ := bx2_at (us := us1) KX1.out
        have pxz := blk_lt KX1.out
        go_wp2_with fail
        refine (markTemplate_rec us1 g1 _ y0 _ _ (by rfl) (by omega) (by have := HCX1.out; omega) HX1.out HT1.out).mono ?_
        rintro e w8_1 ⟨rfl, -, ho⟩
        clear px0 px1 pxz
        clear KX1
        have HB1 := Lib.hid (HB.out.trans (ho.below (fun x hx => Nat.le_trans (by omega) (HEX1.out x hx)) HB.out.size))
        clear HB
        have HB := HB1
        clear HB1
        have KA01 := Lib.hid ((ho.block _ (blk_lt KA0.out) (fun hx => by have := HEX1.out _ hx; omega)).trans KA0.out)
        clear KA0
        have KA0 := KA01
        clear KA01
        have KA11 := Lib.hid ((ho.block _ (blk_lt KA1.out) (fun hx => by have := HEX1.out _ hx; omega)).trans KA1.out)
        clear KA1
        have KA1 := KA11
        clear KA11
        have KW1 := Lib.hid ((ho.block _ (blk_lt KW.out) HNKW_X1.out).trans KW.out)
        clear KW
        have KW := KW1
        clear KW1
        have KG1 := Lib.hid ((ho.block _ (blk_lt KG.out) HNKG_X1.out).trans KG.out)
        clear KG
        have KG := KG1
        clear KG1
        have HW1 := Lib.hid (HW.out.only ho HDW_X1.out)
        clear HW
        have HW := HW1
        clear HW1
        have HG1 := Lib.hid (HG.out.only ho HDG_X1.out)
        clear HG
        have HG := HG1
        clear HG1
        clear ho HX1
        obtain ⟨y1, hy1⟩ : ∃ y, y0 + cntRec 2 g1 = y := ⟨_, rfl⟩
        rw [hy1]
        have hyb1 : 1 ≤ y1 ∧ y1 ≤ 200000000001 := by have := HCX1.out; omega
        clear hy1
        have hn1 : ¬ ((y1 : Int) < 0) := by omega
        obtain ⟨pg0, pg1⟩ := bx2_at (us := xg) KG.out
        have pgz := blk_lt KG.out
        obtain ⟨pw0, pw1⟩ := bx2_at (us := xw) KW.out
        have pwz := blk_lt KW.out
        go_wp2_with fail
        refine (eqStore_rec xg xw R _ HG.out.reads HW.out.reads HTR.out).mono ?_
        rintro e w9 ⟨rfl, hb⟩
        clear pg0 pg1 pgz
        clear pw0 pw1 pwz
        have HB1 := Lib.hid (HB.out.trans (hb.mono HB.out.size))
        clear HB
        have HB := HB1
        clear HB1
        have KA01 := Lib.hid ((hb.block _ (blk_lt KA0.out)).trans KA0.out)
        clear KA0
        have KA0 := KA01
        clear KA01
        have KA11 := Lib.hid ((hb.block _ (blk_lt KA1.out)).trans KA1.out)
        clear KA1
        have KA1 := KA11
        clear KA11
        have KW1 := Lib.hid ((hb.block _ (blk_lt KW.out)).trans KW.out)
        clear KW
        have KW := KW1
        clear KW1
        have KG1 := Lib.hid ((hb.block _ (blk_lt KG.out)).trans KG.out)
        clear KG
        have KG := KG1
        clear KG1
        have HW1 := Lib.hid (HW.out.kept hb)
        clear HW
        have HW := HW1
        clear HW1
        have HG1 := Lib.hid (HG.out.kept hb)
        clear HG
        have HG := HG1
        clear HG1
        clear hb
        obtain ⟨pg0, pg1⟩ := bx2_at (us := xg) KG.out
        have pgz := blk_lt KG.out
        go_wp2_with fail
        refine (markStore_rec xg R _ 1 _ _ (by rfl) (by omega) (by have := HCR.out; omega) HG.out HTR.out).mono ?_
        rintro e w10 ⟨rfl, hq, ho⟩
        clear pg0 pg1 pgz
        have HB1 := Lib.hid (HB.out.trans (ho.below (fun x hx => Nat.le_trans (by omega) (HEG.out x hx)) HB.out.size))
        clear HB
        have HB := HB1
        clear HB1
        have KA01 := Lib.hid ((ho.block _ (blk_lt KA0.out) (fun hx => by have := HEG.out _ hx; omega)).trans KA0.out)
        clear KA0
        have KA0 := KA01
        clear KA01
        have KA11 := Lib.hid ((ho.block _ (blk_lt KA1.out) (fun hx => by have := HEG.out _ hx; omega)).trans KA1.out)
        clear KA1
        have KA1 := KA11
        clear KA11
        have KW1 := Lib.hid ((ho.block _ (blk_lt KW.out) HNKW_G.out).trans KW.out)
        clear KW
        have KW := KW1
        clear KW1
        have KG1 := Lib.hid ((ho.block _ (blk_lt KG.out) HNKG_G.out).trans KG.out)
        clear KG
        have KG := KG1
        clear KG1
        have HW1 := Lib.hid (HW.out.only ho HDW_G.out)
        clear HW
        have HW := HW1
        clear HW1
        clear HG ho
        have HG := Lib.hid hq
        clear hq
        generalize hz2n : 1 + cntRec 2 R = z2
        have HN2 := Lib.hid hz2n
        clear hz2n
        have hn2 : ¬ ((z2 : Int) < 0) := by omega
        have hn3 : ((z2 : Int) != (z2 : Int)) = false := by simp
        obtain ⟨pg0, pg1⟩ := bx2_at (us := xg) KG.out
        have pgz := blk_lt KG.out
        go_wp2_with fail
        refine (heldStore_rec xg R 1 _ _ (by rfl) (by omega) (by have := HCR.out; omega) HG.out.reads HTR.out).mono ?_
        rintro e w11 ⟨rfl, hb⟩
        rw [HN2.out]
        clear pg0 pg1 pgz
        have HB1 := Lib.hid (HB.out.trans (hb.mono HB.out.size))
        clear HB
        have HB := HB1
        clear HB1
        have KA01 := Lib.hid ((hb.block _ (blk_lt KA0.out)).trans KA0.out)
        clear KA0
        have KA0 := KA01
        clear KA01
        have KA11 := Lib.hid ((hb.block _ (blk_lt KA1.out)).trans KA1.out)
        clear KA1
        have KA1 := KA11
        clear KA11
        have KW1 := Lib.hid ((hb.block _ (blk_lt KW.out)).trans KW.out)
        clear KW
        have KW := KW1
        clear KW1
        have KG1 := Lib.hid ((hb.block _ (blk_lt KG.out)).trans KG.out)
        clear KG
        have KG := KG1
        clear KG1
        have HW1 := Lib.hid (HW.out.kept hb)
        clear HW
        have HW := HW1
        clear HW1
        have HG1 := Lib.hid (HG.out.kept hb)
        clear HG
        have HG := HG1
        clear HG1
        clear hb
        have hzz : w.heap.size + 2 ≤ w11.heap.size := by have h1 := blk_lt KA1.out; omega
        obtain ⟨pk0_0, pk0_1⟩ := bx2_at (us := vs0) KA0.out
        have pk0_z := blk_lt KA0.out
        obtain ⟨pk1_0, pk1_1⟩ := bx2_at (us := vs1) KA1.out
        have pk1_z := blk_lt KA1.out
        have hbz : w.heap.size + 2 ≤ w11.heap.size := by omega
        have hk : SK w11 w.heap.size vs0 vs1 w11 := ⟨pk0_0, pk0_1, pk1_0, pk1_1, ⟨hbz, Below.refl _ _⟩⟩
        have HTO30 := Lib.hid (fun (V : World) (hV : Below w11.heap.size w11 V) => HTO20.out V (HB.out.trans (hV.mono HB.out.size)))
        have HTO31 := Lib.hid (fun (V : World) (hV : Below w11.heap.size w11 V) => HTO21.out V (HB.out.trans (hV.mono HB.out.size)))
        go_upto_region 31 with fail
        go_cut [15, 16] (fun s15 s16 wx => ∃ (K lo hi : Nat) (xh : Nat → Value), s15 = .pointer (some ⟨K, 0, none⟩) ∧ s16 = (.int .i64 r1) ∧ Hid (RB w11 K lo hi xh R wx))
        case first =>
          go_region_held3 (fun W => W.cell? ⟨w.heap.size, 0, none⟩ = some (vs0 0) ∧ W.cell? ⟨w.heap.size, 1, none⟩ = some (vs0 1) ∧ W.cell? ⟨w.heap.size + 1, 0, none⟩ = some (vs1 0) ∧ W.cell? ⟨w.heap.size + 1, 1, none⟩ = some (vs1 1) ∧ InvK w11 w.heap.size W) (first | assumption | exact SK_drew hk | exact SK_al (SK_drew hk) | exact SK_al (by assumption) | exact (SK_set (SK_set (by assumption) (by have q0 := tbb0.size; (try simp at q0); have q1 := tbb1.size; (try simp at q1); have q2 := tbb2.size; (try simp at q2); first | omega | (simp; omega))) (by have q0 := tbb0.size; (try simp at q0); have q1 := tbb1.size; (try simp at q1); have q2 := tbb2.size; (try simp at q2); first | omega | (simp; omega))) | exact (SK_set (SK_set (by assumption) (by have q0 := tbb0.size; (try simp at q0); have q1 := tbb1.size; (try simp at q1); have q2 := tbb2.size; (try simp at q2); first | omega | (simp; omega))) (by have q0 := tbb0.size; (try simp at q0); have q1 := tbb1.size; (try simp at q1); have q2 := tbb2.size; (try simp at q2); first | omega | (simp; omega))) | exact (SK_set (SK_set (by assumption) (by have q0 := tbb0.size; (try simp at q0); have q1 := tbb1.size; (try simp at q1); have q2 := tbb2.size; (try simp at q2); first | omega | (simp; omega))) (by have q0 := tbb0.size; (try simp at q0); have q1 := tbb1.size; (try simp at q1); have q2 := tbb2.size; (try simp at q2); first | omega | (simp; omega))) | exact (SK_set (SK_set (SK_al (by assumption)) (by have q0 := tbb0.size; (try simp at q0); have q1 := tbb1.size; (try simp at q1); have q2 := tbb2.size; (try simp at q2); first | omega | (simp; omega))) (by have q0 := tbb0.size; (try simp at q0); have q1 := tbb1.size; (try simp at q1); have q2 := tbb2.size; (try simp at q2); first | omega | (simp; omega))) | go_keep) (first | (go_at_call 7; (with_reducible refine (HTO30.out _ (SK_b (by first | assumption | exact SK_drew hk | exact SK_al (SK_drew hk) | exact SK_al (by assumption)))).mono ?_); rintro e tbv1 ⟨uu0, rfl, tbo0, tbb0⟩; (try have tbx0 : tbv1.heap[w11.heap.size]? = _ := ch tbb0 (heap_alloc_new (w11.drew) (.cells #[.int .i64 0, .slice none 0 0] 32))); have tbU0_0 := Lib.hid tbo0.reads; have tbk0 := SK_kept tbb0 (by first | assumption | exact SK_drew hk | exact SK_al (SK_drew hk) | exact SK_al (by assumption))) | (go_at_call 8; (with_reducible refine (HTO31.out _ (SK_b (by first | assumption | exact SK_drew hk | exact SK_al (SK_drew hk) | exact SK_al (by assumption)))).mono ?_); rintro e tbv2 ⟨uu1, rfl, tbo1, tbb1⟩; have tbe1 : Below tbv1.heap.size tbv1 tbv2 := (by first | exact tbb1 | exact below_al tbb1); have tbU0_1 := Lib.hid (tbU0_0.out.kept tbe1); (try have tbx1 := ch tbb1 tbx0); (try have tbx1 := ch tbb1 (heap_alloc_new (tbv1) (.cells #[.int .i64 0, .slice none 0 0] 32))); have tbU1_1 := Lib.hid tbo1.reads; have tbk1 := SK_kept tbb1 (by first | assumption | exact SK_drew hk | exact SK_al (SK_drew hk) | exact SK_al (by assumption))) | (go_at_call 9; (with_reducible refine (HI.out _ uu0 uu1 (by first | exact tbU0_1.out | exact tbU0_1.out.kept (below_alloc1 _ _)) (by first | exact tbU1_1.out | exact tbU1_1.out.kept (below_alloc1 _ _))).mono ?_); rintro e tbv3 ⟨xh, rfl, tbo, tbb2⟩; have tbs0 : ∀ (a : Addr) (W : World), (store a (xh 0)).run Try.prog W = stored Try.prog W a (xh 0) .plain := fun a W => run_store _ _ _ _ _ (tbo.reads 0 (by omega)).one; have tbs1 : ∀ (a : Addr) (W : World), (store a (xh 1)).run Try.prog W = stored Try.prog W a (xh 1) .plain := fun a W => run_store _ _ _ _ _ (tbo.reads 1 (by omega)).one; (try have tbx2 := ch tbb2 tbx1); (try have tbx2 := ch tbb2 (heap_alloc_new (tbv2) (.cells #[.int .i64 0, .slice none 0 0] 32))); (try (have tby := bxz tbx2; obtain ⟨tbc0, tbc1, tbf0, tbf1⟩ := tby)); have tbk := SK_kept tbb2 (by first | assumption | exact SK_drew hk | exact SK_al (SK_drew hk) | exact SK_al (by assumption))))
          all_goals
            go_wp2_with fail
            go_meet
            first
              | exact ⟨tbv3.heap.size, tbv2.heap.size, tbv3.heap.size, xh, rfl, rfl, Lib.hid (RB_al (SK_b tbk) tbo (by have q0 := tbb0.size; (try simp at q0); have q1 := tbb1.size; (try simp at q1); have q2 := tbb2.size; (try simp at q2); (try simp); first | done | omega) (by have q0 := tbb0.size; (try simp at q0); have q1 := tbb1.size; (try simp at q1); have q2 := tbb2.size; (try simp at q2); (try simp); first | done | omega) (by have q0 := tbb0.size; (try simp at q0); have q1 := tbb1.size; (try simp at q1); have q2 := tbb2.size; (try simp at q2); (try simp); first | done | omega))⟩
              | exact ⟨tbv3.heap.size, tbv2.heap.size, tbv3.heap.size, xh, rfl, rfl, Lib.hid (RB_of (V := (tbv3.alloc (.cells #[.int .i64 0, .slice none 0 0] 32))) (SK_b (SK_al tbk)) (tbo.kept (below_alloc1 _ _)) (heap_alloc_new tbv3 (.cells #[.int .i64 0, .slice none 0 0] 32)) (by have q0 := tbb0.size; (try simp at q0); have q1 := tbb1.size; (try simp at q1); have q2 := tbb2.size; (try simp at q2); (try simp); first | done | omega) (by have q0 := tbb0.size; (try simp at q0); have q1 := tbb1.size; (try simp at q1); have q2 := tbb2.size; (try simp at q2); (try simp); first | done | omega) (by have q0 := tbb0.size; (try simp at q0); have q1 := tbb1.size; (try simp at q1); have q2 := tbb2.size; (try simp at q2); (try simp); first | done | omega) (by have q0 := tbb0.size; (try simp at q0); have q1 := tbb1.size; (try simp at q1); have q2 := tbb2.size; (try simp at q2); (try simp); first | done | omega) (by have q0 := tbb0.size; (try simp at q0); have q1 := tbb1.size; (try simp at q1); have q2 := tbb2.size; (try simp at q2); (try simp); first | done | omega))⟩
              | exact ⟨tbv2.heap.size, (tbv2.alloc (.cells #[.int .i64 0, .slice none 0 0] 32)).heap.size, tbv3.heap.size, xh, rfl, rfl, Lib.hid (RB_of (V := tbv3) (SK_b tbk) tbo (ch tbb2 (heap_alloc_new (tbv2) (.cells #[.int .i64 0, .slice none 0 0] 32))) (by have q0 := tbb0.size; (try simp at q0); have q1 := tbb1.size; (try simp at q1); have q2 := tbb2.size; (try simp at q2); (try simp); first | done | omega) (by have q0 := tbb0.size; (try simp at q0); have q1 := tbb1.size; (try simp at q1); have q2 := tbb2.size; (try simp at q2); (try simp); first | done | omega) (by have q0 := tbb0.size; (try simp at q0); have q1 := tbb1.size; (try simp at q1); have q2 := tbb2.size; (try simp at q2); (try simp); first | done | omega) (by have q0 := tbb0.size; (try simp at q0); have q1 := tbb1.size; (try simp at q1); have q2 := tbb2.size; (try simp at q2); (try simp); first | done | omega) (by have q0 := tbb0.size; (try simp at q0); have q1 := tbb1.size; (try simp at q1); have q2 := tbb2.size; (try simp at q2); (try simp); first | done | omega))⟩
              | exact ⟨tbv1.heap.size, tbv2.heap.size, tbv3.heap.size, xh, rfl, rfl, Lib.hid (RB_of (V := tbv3) (SK_b tbk) tbo (ch tbb2 (ch tbb1 (heap_alloc_new (tbv1) (.cells #[.int .i64 0, .slice none 0 0] 32)))) (by have q0 := tbb0.size; (try simp at q0); have q1 := tbb1.size; (try simp at q1); have q2 := tbb2.size; (try simp at q2); (try simp); first | done | omega) (by have q0 := tbb0.size; (try simp at q0); have q1 := tbb1.size; (try simp at q1); have q2 := tbb2.size; (try simp at q2); (try simp); first | done | omega) (by have q0 := tbb0.size; (try simp at q0); have q1 := tbb1.size; (try simp at q1); have q2 := tbb2.size; (try simp at q2); (try simp); first | done | omega) (by have q0 := tbb0.size; (try simp at q0); have q1 := tbb1.size; (try simp at q1); have q2 := tbb2.size; (try simp at q2); (try simp); first | done | omega) (by have q0 := tbb0.size; (try simp at q0); have q1 := tbb1.size; (try simp at q1); have q2 := tbb2.size; (try simp at q2); (try simp); first | done | omega))⟩
              | exact ⟨w11.heap.size, tbv2.heap.size, tbv3.heap.size, xh, rfl, rfl, Lib.hid (RB_of (V := tbv3) (SK_b tbk) tbo (ch tbb2 (ch tbb1 (ch tbb0 (heap_alloc_new (w11.drew) (.cells #[.int .i64 0, .slice none 0 0] 32))))) (by have q0 := tbb0.size; (try simp at q0); have q1 := tbb1.size; (try simp at q1); have q2 := tbb2.size; (try simp at q2); (try simp); first | done | omega) (by have q0 := tbb0.size; (try simp at q0); have q1 := tbb1.size; (try simp at q1); have q2 := tbb2.size; (try simp at q2); (try simp); first | done | omega) (by have q0 := tbb0.size; (try simp at q0); have q1 := tbb1.size; (try simp at q1); have q2 := tbb2.size; (try simp at q2); (try simp); first | done | omega) (by have q0 := tbb0.size; (try simp at q0); have q1 := tbb1.size; (try simp at q1); have q2 := tbb2.size; (try simp at q2); (try simp); first | done | omega) (by have q0 := tbb0.size; (try simp at q0); have q1 := tbb1.size; (try simp at q1); have q2 := tbb2.size; (try simp at q2); (try simp); first | done | omega))⟩
        case rest =>
          obtain ⟨tbK, tblo, tbhi, xh, rfl, rfl, HRB⟩ := hcut
          have hb := HRB.out.below
          clear hk hbz HTO30 HTO31
          clear pk0_0 pk0_1 pk0_z
          clear pk1_0 pk1_1 pk1_z
          have HB1 := Lib.hid (HB.out.trans (hb.mono HB.out.size))
          clear HB
          have HB := HB1
          clear HB1
          have KA01 := Lib.hid ((hb.block _ (blk_lt KA0.out)).trans KA0.out)
          clear KA0
          have KA0 := KA01
          clear KA01
          have KA11 := Lib.hid ((hb.block _ (blk_lt KA1.out)).trans KA1.out)
          clear KA1
          have KA1 := KA11
          clear KA11
          have KW1 := Lib.hid ((hb.block _ (blk_lt KW.out)).trans KW.out)
          clear KW
          have KW := KW1
          clear KW1
          have KG1 := Lib.hid ((hb.block _ (blk_lt KG.out)).trans KG.out)
          clear KG
          have KG := KG1
          clear KG1
          have HW1 := Lib.hid (HW.out.kept hb)
          clear HW
          have HW := HW1
          clear HW1
          have HG1 := Lib.hid (HG.out.kept hb)
          clear HG
          have HG := HG1
          clear HG1
          have HH := Lib.hid HRB.out.own.reads
          have KH := Lib.hid HRB.out.box
          clear hb HRB
          obtain ⟨pg0, pg1⟩ := bx2_at (us := xh) KH.out
          have pgz := blk_lt KH.out
          obtain ⟨pw0, pw1⟩ := bx2_at (us := xw) KW.out
          have pwz := blk_lt KW.out
          go_wp2_with fail
          refine (eqStore_rec xh xw R _ HH.out HW.out.reads HTR.out).mono ?_
          rintro e w14 ⟨rfl, hb⟩
          clear pg0 pg1 pgz
          clear pw0 pw1 pwz
          have HB1 := Lib.hid (HB.out.trans (hb.mono HB.out.size))
          clear HB
          have HB := HB1
          clear HB1
          have KA01 := Lib.hid ((hb.block _ (blk_lt KA0.out)).trans KA0.out)
          clear KA0
          have KA0 := KA01
          clear KA01
          have KA11 := Lib.hid ((hb.block _ (blk_lt KA1.out)).trans KA1.out)
          clear KA1
          have KA1 := KA11
          clear KA11
          have KW1 := Lib.hid ((hb.block _ (blk_lt KW.out)).trans KW.out)
          clear KW
          have KW := KW1
          clear KW1
          have KG1 := Lib.hid ((hb.block _ (blk_lt KG.out)).trans KG.out)
          clear KG
          have KG := KG1
          clear KG1
          have KH1 := Lib.hid ((hb.block _ (blk_lt KH.out)).trans KH.out)
          clear KH
          have KH := KH1
          clear KH1
          have HW1 := Lib.hid (HW.out.kept hb)
          clear HW
          have HW := HW1
          clear HW1
          have HG1 := Lib.hid (HG.out.kept hb)
          clear HG
          have HG := HG1
          clear HG1
          have HH1 := Lib.hid (HH.out.kept hb)
          clear HH
          have HH := HH1
          clear HH1
          clear hb
          obtain ⟨pg0, pg1⟩ := bx2_at (us := xg) KG.out
          have pgz := blk_lt KG.out
          go_wp2_with fail
          refine (heldStore_rec xg R 1 _ _ (by rfl) (by omega) (by have := HCR.out; omega) HG.out.reads HTR.out).mono ?_
          rintro e w15 ⟨rfl, hb⟩
          rw [HN2.out]
          clear pg0 pg1 pgz
          have HB1 := Lib.hid (HB.out.trans (hb.mono HB.out.size))
          clear HB
          have HB := HB1
          clear HB1
          have KA01 := Lib.hid ((hb.block _ (blk_lt KA0.out)).trans KA0.out)
          clear KA0
          have KA0 := KA01
          clear KA01
          have KA11 := Lib.hid ((hb.block _ (blk_lt KA1.out)).trans KA1.out)
          clear KA1
          have KA1 := KA11
          clear KA11
          have KW1 := Lib.hid ((hb.block _ (blk_lt KW.out)).trans KW.out)
          clear KW
          have KW := KW1
          clear KW1
          have KG1 := Lib.hid ((hb.block _ (blk_lt KG.out)).trans KG.out)
          clear KG
          have KG := KG1
          clear KG1
          have KH1 := Lib.hid ((hb.block _ (blk_lt KH.out)).trans KH.out)
          clear KH
          have KH := KH1
          clear KH1
          have HW1 := Lib.hid (HW.out.kept hb)
          clear HW
          have HW := HW1
          clear HW1
          have HG1 := Lib.hid (HG.out.kept hb)
          clear HG
          have HG := HG1
          clear HG1
          have HH1 := Lib.hid (HH.out.kept hb)
          clear HH
          have HH := HH1
          clear HH1
          clear hb
          go_wp2
          go_ret
          exact ⟨rfl, HB.out⟩
end Go.Proofs.Ytghaddpicedenaa.wAddTemplate
