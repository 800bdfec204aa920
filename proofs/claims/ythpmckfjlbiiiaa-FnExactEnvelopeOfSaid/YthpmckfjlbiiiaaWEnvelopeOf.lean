/-
  Proved: the walk of the law on EnvelopeOf, out of what the two functions return.
  Conditions: what the two functions return for arguments that read as the law's own.
-/
import Derived.Test.YthpmckfjlbiiiaaOpen
import Derived.Test.YthpmckfjlbiiiaaWid
namespace Go.Proofs.Ythpmckfjlbiiiaa.wEnvelopeOf
open Go.ChangeShapes Go.WideShapes Go.ChangeAt Go.RowKit Go.Joins
set_option linter.unusedVariables false
set_option linter.unusedSimpArgs false
open Go.Proofs.Ythpmckfjlbiiiaa.core
/-- The copy of a list, and that its room is not less than its length. -/
theorem to_roomFeatS (vs : Nat → Value) (g : Nat → Dat) (w : World) (hq : costRec 1 g ≤ 1048576) (hr : ReadsRec w 1 vs g) (ht : tyrFeatS g) :
    Calls Try.prog 16 #[vs 0] w fun e w' => ∃ us : Nat → Value, e = .returned (us 0) ∧ OwnRec w' 1 us g (iv w.heap.size w'.heap.size) ∧ Below w.heap.size w w' ∧ ∃ (A : Option Addr) (n c : Nat), us 0 = .slice A n c ∧ n ≤ c := by
  have ht' := ht
  obtain ⟨n, f, hg, hf⟩ := ht
  have h0 := hr 0 (by omega)
  rw [hg] at h0
  obtain ⟨A, c, hv, hn, hR⟩ := h0.sl_inv
  have hc : cost (.sl n 3 f) ≤ 1048576 := by
    have e : costRec 1 g = cost (.sl n 3 f) := by simp [costRec, sumTo, hg]
    rw [← e]; exact hq
  rw [hv]
  refine (toFeatS_calls A n c f w hc hn hR ⟨n, f, rfl, hf⟩).mono ?_
  rintro e w' ⟨G, rfl, ho, hb⟩
  refine ⟨fun _ => .slice (some ⟨G, 0, none⟩) n n, rfl, ⟨fun _ => iv w.heap.size w'.heap.size, fun j hj => ?_, fun _ x _ hx => ⟨hx, hx.2⟩, fun i j x hi hj _ _ => by omega⟩, hb, _, _, _, rfl, Nat.le_refl _⟩
  obtain rfl : j = 0 := by omega
  rw [hg]
  exact ho
/-- A box of four values. -/
structure Bx4 (W : World) (b : Nat) (xs : Nat → Value) : Prop where
  c0 : W.cell? ⟨b, 0, none⟩ = some (xs 0)
  c1 : W.cell? ⟨b, 1, none⟩ = some (xs 1)
  c2 : W.cell? ⟨b, 2, none⟩ = some (xs 2)
  c3 : W.cell? ⟨b, 3, none⟩ = some (xs 3)
  lt : b < W.heap.size
section
variable {W W' : World} {b : Nat} {xs : Nat → Value}
theorem Bx4.kept (h : Bx4 W b xs) (hb : Below W.heap.size W W') : Bx4 W' b xs :=
  ⟨(hb.cell (p := ⟨b, 0, none⟩) h.lt).trans h.c0, (hb.cell (p := ⟨b, 1, none⟩) h.lt).trans h.c1, (hb.cell (p := ⟨b, 2, none⟩) h.lt).trans h.c2, (hb.cell (p := ⟨b, 3, none⟩) h.lt).trans h.c3, Nat.lt_of_lt_of_le h.lt hb.size⟩
theorem Bx4.only {F : Nat → Prop} (h : Bx4 W b xs) (ho : OnlyF F W W') (hd : ¬ F b) : Bx4 W' b xs := by
  have he : W'.heap[b]? = W.heap[b]? := ho.block b h.lt hd
  exact ⟨(World.cell?_of_block (w := W) (a := ⟨b, 0, none⟩) he).trans h.c0, (World.cell?_of_block (w := W) (a := ⟨b, 1, none⟩) he).trans h.c1, (World.cell?_of_block (w := W) (a := ⟨b, 2, none⟩) he).trans h.c2, (World.cell?_of_block (w := W) (a := ⟨b, 3, none⟩) he).trans h.c3, Nat.lt_of_lt_of_le h.lt ho.size⟩
theorem Bx4.new (w : World) (xs : Nat → Value) (t : TypeId) : Bx4 (w.alloc (.cells #[xs 0, xs 1, xs 2, xs 3] t)) w.heap.size xs := ⟨by simp, by simp, by simp, by simp, by simp⟩
end
theorem alloc_below (w : World) (o : Obj) : Below w.heap.size w (w.alloc o) := (Below.refl _ _).alloc (Nat.le_refl _) _
set_option maxRecDepth 100000 in
set_option maxHeartbeats 8000000 in
theorem walk (vs0 : Nat → Value) (g0 : Nat → Dat) (a1 : Int) (a2 : Int) (w : World) (hr0 : ReadsRec w 1 vs0 g0) (ht0 : tyrFeatS g0)
    (hm : costRec 1 g0 ≤ 1048576 → ∃ (R : Nat → Dat) (r1 : Int), tyrEnvelope R ∧ cntRec 4 R ≤ 100000000000 ∧ (∀ (W : World) (us0 : Nat → Value), ReadsRec W 1 us0 g0 → (∃ (A : Option Addr) (n c : Nat), us0 0 = .slice A n c ∧ n ≤ c) → Calls Try.prog 15 #[us0 0, .int .i64 a1, .int .i64 a2] W fun e W' => ∃ xs : Nat → Value, e = .returned (.tuple #[.agg #[xs 0, xs 1, xs 2, xs 3], .int .i64 r1]) ∧ OwnRec W' 4 xs R (iv W.heap.size W'.heap.size) ∧ Below W.heap.size W W') ∧ (∀ (W : World) (us0 : Nat → Value), ReadsRec W 1 us0 g0 → (∃ (A : Option Addr) (n c : Nat), us0 0 = .slice A n c ∧ n ≤ c) → Calls Try.prog 17 #[us0 0, .int .i64 a1, .int .i64 a2] W fun e W' => ∃ xs : Nat → Value, e = .returned (.tuple #[.agg #[xs 0, xs 1, xs 2, xs 3], .int .i64 r1]) ∧ OwnRec W' 4 xs R (iv W.heap.size W'.heap.size) ∧ Below W.heap.size W W')) :
    Calls Try.prog 3 #[vs0 0, .int .i64 a1, .int .i64 a2] w fun e w' => e = .returned (.bool true) ∧ Below w.heap.size w w' := by
  have HT0 := Lib.hid ht0
  obtain ⟨n0, f0, hg0, hf0⟩ := ht0
  have hq0 := hr0 0 (by omega)
  rw [hg0] at hq0
  obtain ⟨A0, c0, hv0, hn0, -⟩ := hq0.sl_inv
  clear hq0
  have HRD0 := Lib.hid (fun (V : World) (hV : Below w.heap.size w V) => hr0.kept hV)
  have HTO0 := Lib.hid (fun (hq : costRec 1 g0 ≤ 1048576) (V : World) (hV : Below w.heap.size w V) => to_roomFeatS vs0 g0 V hq (HRD0.out V hV) HT0.out)
  have HSZ0 := Lib.hid (fun (left : Int) (V : World) (hV : Below w.heap.size w V) (h1 : _) (h2 : _) => szFeatS_rec vs0 g0 left V h1 h2 (HRD0.out V hV) HT0.out)
  rw [hv0] at HTO0 HSZ0
  rw [hv0]
  unfold maxLen at hn0
  clear hg0 hf0 hv0 hr0
  have HM := Lib.hid hm
  clear hm
  have HB := Lib.hid (Below.refl w.heap.size w)
  go_enter Try.func3, Try.ntmps3
  go_wp2_with fail
  refine (HSZ0.out _ _ HB.out (by omega) (by omega)).mono ?_
  rintro e w0 ⟨rfl, hb⟩
  have HB1 := Lib.hid (HB.out.trans (hb.mono HB.out.size))
  clear HB
  have HB := HB1
  clear HB1
  clear hb HSZ0
  by_cases hq0 : ((costRec 1 g0 : Nat) : Int) ≤ 1048576
  rotate_left
  · rw [left_no hq0]
    go_wp2
    go_ret
    exact ⟨rfl, HB.out⟩
  rw [left_yes hq0]
  have hq0' : ¬ (1048576 - ((costRec 1 g0 : Nat) : Int) < 0) := by omega
  obtain ⟨R, r1, htR, hcR, hS, hI⟩ := HM.out (by omega)
  have HS := Lib.hid hS
  have HI := Lib.hid hI
  clear hS hI HM
  have HTO20 := Lib.hid (HTO0.out (by omega))
  clear HTO0
  have HTR := Lib.hid htR
  have HCR := Lib.hid hcR
  clear htR hcR
  have HCX0 := Lib.hid (show cntRec 1 g0 ≤ 100000000000 by have h1 := cntRec_le (widrFeatS HT0.out); omega)
  go_wp2_with fail
  refine (HTO20.out _ HB.out).mono ?_
  rintro e w1 ⟨ut0, rfl, ho, hb, hro⟩
  have HB1 := Lib.hid (HB.out.trans (hb.mono HB.out.size))
  clear HB
  have HB := HB1
  clear HB1
  have HU0 := Lib.hid ho.reads
  have HRO0 := Lib.hid hro
  clear ho hb hro
  have z1 := HB.out.size
  go_wp2_with fail
  refine (HS.out _ ut0 HU0.out HRO0.out).mono ?_
  rintro e w2 ⟨xw, rfl, ho, hb⟩
  have HB1 := Lib.hid (HB.out.trans (hb.mono HB.out.size))
  clear HB
  have HB := HB1
  clear HB1
  have z2 := hb.size
  have HW := Lib.hid ho
  have stw_0 : ∀ (a : Addr) (W : World), (store a (xw 0)).run Try.prog W = stored Try.prog W a (xw 0) .plain := fun a W => run_store _ _ _ _ _ (ho.reads 0 (by omega)).one
  have stw_1 : ∀ (a : Addr) (W : World), (store a (xw 1)).run Try.prog W = stored Try.prog W a (xw 1) .plain := fun a W => run_store _ _ _ _ _ (ho.reads 1 (by omega)).one
  have stw_2 : ∀ (a : Addr) (W : World), (store a (xw 2)).run Try.prog W = stored Try.prog W a (xw 2) .plain := fun a W => run_store _ _ _ _ _ (ho.reads 2 (by omega)).one
  have stw_3 : ∀ (a : Addr) (W : World), (store a (xw 3)).run Try.prog W = stored Try.prog W a (xw 3) .plain := fun a W => run_store _ _ _ _ _ (ho.reads 3 (by omega)).one
  clear ho hb HU0 HRO0
  have ha := alloc_below w2 (.cells #[xw 0, xw 1, xw 2, xw 3] 26)
  have HB1 := Lib.hid (HB.out.trans (ha.mono HB.out.size))
  clear HB
  have HB := HB1
  clear HB1
  have HW1 := Lib.hid (HW.out.kept ha)
  clear HW
  have HW := HW1
  clear HW1
  have H8 := Lib.hid (Bx4.new w2 xw 26)
  clear ha
  have hz2 : (w2.alloc (.cells #[xw 0, xw 1, xw 2, xw 3] 26)).heap.size = w2.heap.size + 1 := by simp
  have HZ2 := Lib.hid hz2
  clear hz2
  go_wp2_with fail
  refine (HTO20.out _ HB.out).mono ?_
  rintro e w3 ⟨us0, rfl, ho, hb, hro⟩
  clear stw_0 stw_1 stw_2 stw_3
  have HB1 := Lib.hid (HB.out.trans (hb.mono HB.out.size))
  clear HB
  have HB := HB1
  clear HB1
  have HW1 := Lib.hid (HW.out.kept hb)
  clear HW
  have HW := HW1
  clear HW1
  have H81 := Lib.hid (H8.out.kept hb)
  clear H8
  have H8 := H81
  clear H81
  have HX0 := Lib.hid ho
  have HRO0 := Lib.hid hro
  have z3 := hb.size
  clear ho hb hro
  rw [HZ2.out] at z3 HX0
  go_wp2_with fail
  refine (HI.out _ us0 HX0.out.reads HRO0.out).mono ?_
  rintro e w4 ⟨xg, rfl, ho, hb⟩
  have HB1 := Lib.hid (HB.out.trans (hb.mono HB.out.size))
  clear HB
  have HB := HB1
  clear HB1
  have HW1 := Lib.hid (HW.out.kept hb)
  clear HW
  have HW := HW1
  clear HW1
  have HX01 := Lib.hid (HX0.out.kept hb)
  clear HX0
  have HX0 := HX01
  clear HX01
  have H81 := Lib.hid (H8.out.kept hb)
  clear H8
  have H8 := H81
  clear H81
  have HG := Lib.hid ho
  have z4 := hb.size
  have stg_0 : ∀ (a : Addr) (W : World), (store a (xg 0)).run Try.prog W = stored Try.prog W a (xg 0) .plain := fun a W => run_store _ _ _ _ _ (ho.reads 0 (by omega)).one
  have stg_1 : ∀ (a : Addr) (W : World), (store a (xg 1)).run Try.prog W = stored Try.prog W a (xg 1) .plain := fun a W => run_store _ _ _ _ _ (ho.reads 1 (by omega)).one
  have stg_2 : ∀ (a : Addr) (W : World), (store a (xg 2)).run Try.prog W = stored Try.prog W a (xg 2) .plain := fun a W => run_store _ _ _ _ _ (ho.reads 2 (by omega)).one
  have stg_3 : ∀ (a : Addr) (W : World), (store a (xg 3)).run Try.prog W = stored Try.prog W a (xg 3) .plain := fun a W => run_store _ _ _ _ _ (ho.reads 3 (by omega)).one
  clear ho hb HRO0
  have ha := alloc_below w4 (.cells #[xg 0, xg 1, xg 2, xg 3] 26)
  have HB1 := Lib.hid (HB.out.trans (ha.mono HB.out.size))
  clear HB
  have HB := HB1
  clear HB1
  have HW1 := Lib.hid (HW.out.kept ha)
  clear HW
  have HW := HW1
  clear HW1
  have HX01 := Lib.hid (HX0.out.kept ha)
  clear HX0
  have HX0 := HX01
  clear HX01
  have HG1 := Lib.hid (HG.out.kept ha)
  clear HG
  have HG := HG1
  clear HG1
  have H81 := Lib.hid (H8.out.kept ha)
  clear H8
  have H8 := H81
  clear H81
  have H11 := Lib.hid (Bx4.new w4 xg 26)
  clear ha
  have HDW_X0 := Lib.hid (show ∀ x, iv w1.heap.size w2.heap.size x → iv (w2.heap.size + 1) w3.heap.size x → False from fun x h1 h2 => by unfold iv at *; omega)
  have HDG_X0 := Lib.hid (show ∀ x, iv w3.heap.size w4.heap.size x → iv (w2.heap.size + 1) w3.heap.size x → False from fun x h1 h2 => by unfold iv at *; omega)
  have HDW_G := Lib.hid (show ∀ x, iv w1.heap.size w2.heap.size x → iv w3.heap.size w4.heap.size x → False from fun x h1 h2 => by unfold iv at *; omega)
  have HEX0 := Lib.hid (show ∀ x, iv (w2.heap.size + 1) w3.heap.size x → w.heap.size ≤ x from fun x h => by unfold iv at *; omega)
  have HEG := Lib.hid (show ∀ x, iv w3.heap.size w4.heap.size x → w.heap.size ≤ x from fun x h => by unfold iv at *; omega)
  have HD8X := Lib.hid (show ¬ iv (w2.heap.size + 1) w3.heap.size w2.heap.size from fun h => by unfold iv at *; omega)
  have HD8G := Lib.hid (show ¬ iv w3.heap.size w4.heap.size w2.heap.size from fun h => by unfold iv at *; omega)
  have HD11X := Lib.hid (show ¬ iv (w2.heap.size + 1) w3.heap.size w4.heap.size from fun h => by unfold iv at *; omega)
  have HD11G := Lib.hid (show ¬ iv w3.heap.size w4.heap.size w4.heap.size from fun h => by unfold iv at *; omega)
  clear z1 z2 z3 z4
  obtain ⟨p0, p1, p2, p3, -⟩ := id H8.out
  obtain ⟨q0, q1, q2, q3, -⟩ := id H11.out
  go_wp2_with fail
  refine (eqEnvelope_rec xg xw R _ HG.out.reads HW.out.reads HTR.out).mono ?_
  rintro e w5 ⟨rfl, hb⟩
  clear stg_0 stg_1 stg_2 stg_3
  clear p0 p1 p2 p3
  clear q0 q1 q2 q3
  have HB1 := Lib.hid (HB.out.trans (hb.mono HB.out.size))
  clear HB
  have HB := HB1
  clear HB1
  have HW1 := Lib.hid (HW.out.kept hb)
  clear HW
  have HW := HW1
  clear HW1
  have HX01 := Lib.hid (HX0.out.kept hb)
  clear HX0
  have HX0 := HX01
  clear HX01
  have HG1 := Lib.hid (HG.out.kept hb)
  clear HG
  have HG := HG1
  clear HG1
  have H81 := Lib.hid (H8.out.kept hb)
  clear H8
  have H8 := H81
  clear H81
  have H111 := Lib.hid (H11.out.kept hb)
  clear H11
  have H11 := H111
  clear H111
  clear hb
  go_wp2_with fail
  refine (HTO20.out _ HB.out).mono ?_
  rintro e w6 ⟨ua0, rfl, ho, hb, hro⟩
  have HB1 := Lib.hid (HB.out.trans (hb.mono HB.out.size))
  clear HB
  have HB := HB1
  clear HB1
  have HU := Lib.hid ho.reads
  have HW1 := Lib.hid (HW.out.kept hb)
  clear HW
  have HW := HW1
  clear HW1
  have HX01 := Lib.hid (HX0.out.kept hb)
  clear HX0
  have HX0 := HX01
  clear HX01
  have HG1 := Lib.hid (HG.out.kept hb)
  clear HG
  have HG := HG1
  clear HG1
  have H81 := Lib.hid (H8.out.kept hb)
  clear H8
  have H8 := H81
  clear H81
  have H111 := Lib.hid (H11.out.kept hb)
  clear H11
  have H11 := H111
  clear H111
  clear ho hb hro
  go_wp2_with fail
  refine (eqFeatS_rec us0 ua0 g0 _ HX0.out.reads HU.out HT0.out).mono ?_
  rintro e w7 ⟨rfl, hb⟩
  have HB1 := Lib.hid (HB.out.trans (hb.mono HB.out.size))
  clear HB
  have HB := HB1
  clear HB1
  have HW1 := Lib.hid (HW.out.kept hb)
  clear HW
  have HW := HW1
  clear HW1
  have HX01 := Lib.hid (HX0.out.kept hb)
  clear HX0
  have HX0 := HX01
  clear HX01
  have HG1 := Lib.hid (HG.out.kept hb)
  clear HG
  have HG := HG1
  clear HG1
  have H81 := Lib.hid (H8.out.kept hb)
  clear H8
  have H8 := H81
  clear H81
  have H111 := Lib.hid (H11.out.kept hb)
  clear H11
  have H11 := H111
  clear H111
  clear hb HU
  go_wp2_with fail
  refine (markFeatS_rec us0 g0 _ 1 _ _ (by rfl) (by omega) (by have := HCX0.out; omega) HX0.out HT0.out).mono ?_
  rintro e w8 ⟨rfl, -, ho⟩
  have HB1 := Lib.hid (HB.out.trans (ho.below HEX0.out HB.out.size))
  clear HB
  have HB := HB1
  clear HB1
  have HW1 := Lib.hid (HW.out.only ho HDW_X0.out)
  have HG1 := Lib.hid (HG.out.only ho HDG_X0.out)
  have H81 := Lib.hid (H8.out.only ho HD8X.out)
  have H111 := Lib.hid (H11.out.only ho HD11X.out)
  clear HW HG H8 H11
  have HW := HW1
  clear HW1
  have HG := HG1
  clear HG1
  have H8 := H81
  clear H81
  have H11 := H111
  clear H111
  clear ho HX0
  obtain ⟨y0, hy0⟩ : ∃ y, 1 + cntRec 1 g0 = y := ⟨_, rfl⟩
  rw [hy0]
  have hyb0 : 1 ≤ y0 ∧ y0 ≤ 100000000001 := by have := HCX0.out; omega
  clear hy0
  have hn1 : ¬ ((y0 : Int) < 0) := by omega
  obtain ⟨p0, p1, p2, p3, -⟩ := id H8.out
  obtain ⟨q0, q1, q2, q3, -⟩ := id H11.out
  go_wp2_with fail
  refine (eqEnvelope_rec xg xw R _ HG.out.reads HW.out.reads HTR.out).mono ?_
  rintro e w9 ⟨rfl, hb⟩
  clear p0 p1 p2 p3
  clear q0 q1 q2 q3
  have HB1 := Lib.hid (HB.out.trans (hb.mono HB.out.size))
  clear HB
  have HB := HB1
  clear HB1
  have HW1 := Lib.hid (HW.out.kept hb)
  clear HW
  have HW := HW1
  clear HW1
  have HG1 := Lib.hid (HG.out.kept hb)
  clear HG
  have HG := HG1
  clear HG1
  have H81 := Lib.hid (H8.out.kept hb)
  clear H8
  have H8 := H81
  clear H81
  have H111 := Lib.hid (H11.out.kept hb)
  clear H11
  have H11 := H111
  clear H111
  clear hb
  obtain ⟨q0, q1, q2, q3, -⟩ := id H11.out
  go_wp2_with fail
  refine (markEnvelope_rec xg R _ 1 _ _ (by rfl) (by omega) (by have := HCR.out; omega) HG.out HTR.out).mono ?_
  rintro e w10 ⟨rfl, hq, ho⟩
  clear q0 q1 q2 q3
  have HB1 := Lib.hid (HB.out.trans (ho.below HEG.out HB.out.size))
  clear HB
  have HB := HB1
  clear HB1
  have HW1 := Lib.hid (HW.out.only ho HDW_G.out)
  have H81 := Lib.hid (H8.out.only ho HD8G.out)
  have H111 := Lib.hid (H11.out.only ho HD11G.out)
  clear HW H8 H11
  have HW := HW1
  clear HW1
  have H8 := H81
  clear H81
  have H11 := H111
  clear H111
  clear HG ho
  have HG := Lib.hid hq
  clear hq
  generalize hz2n : 1 + cntRec 4 R = z2
  have HN2 := Lib.hid hz2n
  clear hz2n
  have hn2 : ¬ ((z2 : Int) < 0) := by omega
  have hn3 : ((z2 : Int) != (z2 : Int)) = false := by simp
  obtain ⟨q0, q1, q2, q3, -⟩ := id H11.out
  go_wp2_with fail
  refine (heldEnvelope_rec xg R 1 _ _ (by rfl) (by omega) (by have := HCR.out; omega) HG.out.reads HTR.out).mono ?_
  rintro e w11 ⟨rfl, hb⟩
  rw [HN2.out]
  clear q0 q1 q2 q3
  have HB1 := Lib.hid (HB.out.trans (hb.mono HB.out.size))
  clear HB
  have HB := HB1
  clear HB1
  have HW1 := Lib.hid (HW.out.kept hb)
  clear HW
  have HW := HW1
  clear HW1
  have HG1 := Lib.hid (HG.out.kept hb)
  clear HG
  have HG := HG1
  clear HG1
  have H81 := Lib.hid (H8.out.kept hb)
  clear H8
  have H8 := H81
  clear H81
  have H111 := Lib.hid (H11.out.kept hb)
  clear H11
  have H11 := H111
  clear H111
  clear hb
  go_wp2_with fail
  refine (HTO20.out _ HB.out).mono ?_
  rintro e w12 ⟨uu0, rfl, ho, hb, hro⟩
  have HB1 := Lib.hid (HB.out.trans (hb.mono HB.out.size))
  clear HB
  have HB := HB1
  clear HB1
  have HW1 := Lib.hid (HW.out.kept hb)
  clear HW
  have HW := HW1
  clear HW1
  have HG1 := Lib.hid (HG.out.kept hb)
  clear HG
  have HG := HG1
  clear HG1
  have H81 := Lib.hid (H8.out.kept hb)
  clear H8
  have H8 := H81
  clear H81
  have H111 := Lib.hid (H11.out.kept hb)
  clear H11
  have H11 := H111
  clear H111
  have HU0 := Lib.hid ho.reads
  have HRO0 := Lib.hid hro
  clear ho hb hro
  go_wp2_with fail
  refine (HI.out _ uu0 HU0.out HRO0.out).mono ?_
  rintro e w13 ⟨xh, rfl, ho, hb⟩
  have HB1 := Lib.hid (HB.out.trans (hb.mono HB.out.size))
  clear HB
  have HB := HB1
  clear HB1
  have HH := Lib.hid ho.reads
  have sth_0 : ∀ (a : Addr) (W : World), (store a (xh 0)).run Try.prog W = stored Try.prog W a (xh 0) .plain := fun a W => run_store _ _ _ _ _ (ho.reads 0 (by omega)).one
  have sth_1 : ∀ (a : Addr) (W : World), (store a (xh 1)).run Try.prog W = stored Try.prog W a (xh 1) .plain := fun a W => run_store _ _ _ _ _ (ho.reads 1 (by omega)).one
  have sth_2 : ∀ (a : Addr) (W : World), (store a (xh 2)).run Try.prog W = stored Try.prog W a (xh 2) .plain := fun a W => run_store _ _ _ _ _ (ho.reads 2 (by omega)).one
  have sth_3 : ∀ (a : Addr) (W : World), (store a (xh 3)).run Try.prog W = stored Try.prog W a (xh 3) .plain := fun a W => run_store _ _ _ _ _ (ho.reads 3 (by omega)).one
  have HW1 := Lib.hid (HW.out.kept hb)
  clear HW
  have HW := HW1
  clear HW1
  have HG1 := Lib.hid (HG.out.kept hb)
  clear HG
  have HG := HG1
  clear HG1
  have H81 := Lib.hid (H8.out.kept hb)
  clear H8
  have H8 := H81
  clear H81
  have H111 := Lib.hid (H11.out.kept hb)
  clear H11
  have H11 := H111
  clear H111
  clear ho hb HU0 HRO0
  have ha := alloc_below w13 (.cells #[xh 0, xh 1, xh 2, xh 3] 26)
  have HB1 := Lib.hid (HB.out.trans (ha.mono HB.out.size))
  clear HB
  have HB := HB1
  clear HB1
  have HW1 := Lib.hid (HW.out.kept ha)
  clear HW
  have HW := HW1
  clear HW1
  have HG1 := Lib.hid (HG.out.kept ha)
  clear HG
  have HG := HG1
  clear HG1
  have HH1 := Lib.hid (HH.out.kept ha)
  clear HH
  have HH := HH1
  clear HH1
  have H81 := Lib.hid (H8.out.kept ha)
  clear H8
  have H8 := H81
  clear H81
  have H111 := Lib.hid (H11.out.kept ha)
  clear H11
  have H11 := H111
  clear H111
  have H16 := Lib.hid (Bx4.new w13 xh 26)
  clear ha
  obtain ⟨p0, p1, p2, p3, -⟩ := id H8.out
  obtain ⟨q0, q1, q2, q3, -⟩ := id H16.out
  go_wp2_with fail
  refine (eqEnvelope_rec xh xw R _ HH.out HW.out.reads HTR.out).mono ?_
  rintro e w14 ⟨rfl, hb⟩
  clear sth_0 sth_1 sth_2 sth_3
  clear p0 p1 p2 p3
  clear q0 q1 q2 q3
  have HB1 := Lib.hid (HB.out.trans (hb.mono HB.out.size))
  clear HB
  have HB := HB1
  clear HB1
  have HG1 := Lib.hid (HG.out.kept hb)
  clear HG
  have HG := HG1
  clear HG1
  have H111 := Lib.hid (H11.out.kept hb)
  clear H11
  have H11 := H111
  clear H111
  clear hb HH HW H8 H16
  obtain ⟨q0, q1, q2, q3, -⟩ := id H11.out
  go_wp2_with fail
  refine (heldEnvelope_rec xg R 1 _ _ (by rfl) (by omega) (by have := HCR.out; omega) HG.out.reads HTR.out).mono ?_
  rintro e w15 ⟨rfl, hb⟩
  rw [HN2.out]
  clear q0 q1 q2 q3
  have HB1 := Lib.hid (HB.out.trans (hb.mono HB.out.size))
  clear HB
  have HB := HB1
  clear HB1
  clear hb
  go_wp2
  go_ret
  exact ⟨rfl, HB.out⟩
end Go.Proofs.Ythpmckfjlbiiiaa.wEnvelopeOf
