/-
  Proved: both functions that ask whether a stroke is a dot return the same.
  Conditions: none.
-/
import Derived.Test.YtofgdgdmmlgmnaaBxI
import Derived.Test.YtofgdgdmmlgmnaaView
namespace Go.Proofs.Ytofgdgdmmlgmnaa.wIsDot
open Go.ChangeShapes Go.WideShapes Go.ChangeAt Go.RowKit Go.Joins
open Go.Proofs.Ytofgdgdmmlgmnaa.core Go.Proofs.Ytofgdgdmmlgmnaa.stk Go.Proofs.Ytofgdgdmmlgmnaa.box Go.Proofs.Ytofgdgdmmlgmnaa.bxs
set_option linter.unusedVariables false
set_option linter.unusedSimpArgs false
def strN (g : Nat → Dat) : Nat := dLen (g 0)
def strP (g : Nat → Dat) (i : Nat) : P3 := (dInt (dFun (g 0) i 0), dInt (dFun (g 0) i 1), dInt (dFun (g 0) i 2))
theorem reads_str {W : World} {us : Nat → Value} {g : Nat → Dat} (h : ReadsRec W 1 us g) (ht : tyrStroke g) (hq : costRec 1 g ≤ 1048576) :
    ∃ A c, (.agg #[us 0] : Value) = .agg #[.slice A (strN g) c] ∧ strN g ≤ 1048576 ∧ PtsAt W A (strN g) (strP g) := by
  obtain ⟨n, f, hg, hf⟩ := ht
  have h0 := h 0 (by omega)
  rw [hg] at h0
  obtain ⟨A, c, hv, hn, hR⟩ := h0.sl_inv
  have hT : tyPointS (.sl n 3 f) := ⟨n, f, rfl, hf⟩
  have e1 : strN g = n := by simp [strN, hg, dLen]
  have e2 : ∀ i, strP g i = (dInt (f i 0), dInt (f i 1), dInt (f i 2)) := fun i => by simp [strP, hg, dFun]
  have hq' : cost (.sl n 3 f) ≤ 1048576 := by
    have e : costRec 1 g = cost (.sl n 3 f) := by simp [costRec, sumTo, hg]
    rw [← e]; exact hq
  have hn' : n ≤ 1048576 := by
    simp only [cost] at hq'
    omega
  refine ⟨A, c, by rw [hv, e1], by omega, fun i hi => ?_⟩
  obtain ⟨b, o, e, hb, ⟨c0, -⟩, ⟨c1, -⟩, ⟨c2, -⟩⟩ := viewPointS hR hT i (by omega)
  rw [e2]
  exact ⟨b, o, e, hb, c0, c1, c2⟩
/-- A box is that of a dot. -/
def dB (a b c d : Int) : Bool := decide (c - a ≤ 160) && decide (d - b ≤ 160)
def smallB (a b c d : Int) : Prop := (0 ≤ a ∧ a ≤ c ∧ c ≤ 4095) ∧ 0 ≤ b ∧ b ≤ d ∧ d ≤ 4095
theorem w64 {x : Int} (h : -10000 ≤ x ∧ x ≤ 10000) : IntKind.i64.wrap x = x ∧ wrap64 x = x := by
  constructor
  · simp [IntKind.wrap, IntKind.bits, IntKind.signed]; omega
  · unfold wrap64; omega
theorem widthI (a b c d : Int) (w : World) (h : smallB a b c d) : Calls Try.prog 90 #[box a b c d] w fun e w' => e = .returned (.int .i64 (c - a)) ∧ Below w.heap.size w w' := by
  obtain ⟨hw1, hw2⟩ := w64 (x := c - a) (by unfold smallB at h; omega)
  have HB := Lib.hid (below_alloc1 w (.cells #[.int .i64 a, .int .i64 b, .int .i64 c, .int .i64 d] 90))
  obtain ⟨z, hz⟩ : ∃ z, c - a = z := ⟨_, rfl⟩
  rw [hz] at hw1 hw2 ⊢
  rw [← hz] at hw1 hw2
  have hw1' : IntKind.i64.wrap (c - a) = z := hw1.trans hz
  have hw2' : wrap64 (c - a) = z := hw2.trans hz
  clear hw1 hw2 hz h
  go_enter Try.func90, Try.ntmps90
  go_wp2
  go_ret
  exact ⟨rfl, HB.out⟩
theorem heightI (a b c d : Int) (w : World) (h : smallB a b c d) : Calls Try.prog 91 #[box a b c d] w fun e w' => e = .returned (.int .i64 (d - b)) ∧ Below w.heap.size w w' := by
  obtain ⟨hw1, hw2⟩ := w64 (x := d - b) (by unfold smallB at h; omega)
  have HB := Lib.hid (below_alloc1 w (.cells #[.int .i64 a, .int .i64 b, .int .i64 c, .int .i64 d] 90))
  obtain ⟨z, hz⟩ : ∃ z, d - b = z := ⟨_, rfl⟩
  rw [hz]
  have hw1' : IntKind.i64.wrap (d - b) = z := hw1.trans hz
  have hw2' : wrap64 (d - b) = z := hw2.trans hz
  clear hw1 hw2 hz h
  go_enter Try.func91, Try.ntmps91
  go_wp2
  go_ret
  exact ⟨rfl, HB.out⟩
set_option maxRecDepth 100000 in
set_option maxHeartbeats 2000000 in
theorem isDotI (a b c d : Int) (w : World) (h : smallB a b c d) : Calls Try.prog 63 #[box a b c d] w fun e w' => e = .returned (.bool (dB a b c d)) ∧ Below w.heap.size w w' := by
  have HW := Lib.hid (fun W => widthI a b c d W h)
  have HH := Lib.hid (fun W => heightI a b c d W h)
  have KB := Lib.hid (heap_alloc_new w (.cells #[.int .i64 a, .int .i64 b, .int .i64 c, .int .i64 d] 90))
  have HA := Lib.hid (below_alloc1 w (.cells #[.int .i64 a, .int .i64 b, .int .i64 c, .int .i64 d] 90))
  have HF := Lib.hid (show dB a b c d = (decide (c - a ≤ 160) && decide (d - b ≤ 160)) from rfl)
  obtain ⟨r, hr⟩ : ∃ r, dB a b c d = r := ⟨_, rfl⟩
  rw [hr] at HF ⊢
  obtain ⟨u, hu⟩ : ∃ u, c - a = u := ⟨_, rfl⟩
  obtain ⟨v, hv⟩ : ∃ v, d - b = v := ⟨_, rfl⟩
  rw [hu] at HW HF
  rw [hv] at HH HF
  clear hr hu hv h
  have hund : undef = Value.tuple #[] := rfl
  by_cases h1 : u ≤ 160
  · have HF2 := Lib.hid (show r = decide (v ≤ 160) by rw [HF.out, decide_eq_true h1]; rfl)
    have d1 : decide (u ≤ 160) = true := decide_eq_true h1
    clear HF
    go_enter Try.func63, Try.ntmps63
    go_wp2_with fail
    refine (HW.out _).mono ?_
    rintro e w1 ⟨rfl, hb⟩
    have HB := Lib.hid (HA.out.trans (hb.mono HA.out.size))
    have K1 := Lib.hid ((hb.block w.heap.size (by simp)).trans KB.out)
    have k0 : w1.cell? ⟨w.heap.size, 0, none⟩ = some (.int .i64 a) := by rw [cell_of_block K1.out]; rfl
    have k1 : w1.cell? ⟨w.heap.size, 1, none⟩ = some (.int .i64 b) := by rw [cell_of_block K1.out]; rfl
    have k2 : w1.cell? ⟨w.heap.size, 2, none⟩ = some (.int .i64 c) := by rw [cell_of_block K1.out]; rfl
    have k3 : w1.cell? ⟨w.heap.size, 3, none⟩ = some (.int .i64 d) := by rw [cell_of_block K1.out]; rfl
    have kz := (Array.getElem?_eq_some_iff.1 K1.out).1
    clear hb HW KB
    go_wp2_with fail
    refine (HH.out _).mono ?_
    rintro e w2 ⟨rfl, hb⟩
    have HB2 := Lib.hid (HB.out.trans (hb.mono HB.out.size))
    clear hb HH k0 k1 k2 k3
    go_wp2
    go_ret
    exact ⟨by rw [HF2.out]; rfl, HB2.out⟩
  · have HF2 := Lib.hid (show r = false by rw [HF.out, decide_eq_false h1]; rfl)
    have d1 : decide (u ≤ 160) = false := decide_eq_false h1
    clear HF HH
    go_enter Try.func63, Try.ntmps63
    go_wp2_with fail
    refine (HW.out _).mono ?_
    rintro e w1 ⟨rfl, hb⟩
    have HB := Lib.hid (HA.out.trans (hb.mono HA.out.size))
    clear hb HW KB
    go_wp2
    go_ret
    exact ⟨by rw [HF2.out]; rfl, HB.out⟩
set_option maxRecDepth 100000 in
set_option maxHeartbeats 2000000 in
theorem dotS {c o : Nat} (A : Option Addr) (g n : Nat) (pts : Nat → P3) (w : World) (h1 : 1 ≤ n) (hcap : n ≤ 1048576) (hbz : g < w.heap.size) (hs : w.cell? ⟨g, o, none⟩ = some (.slice A n c)) (hp : PtsAt w A n pts) (hsm : smallB (bX1 n pts) (bY1 n pts) (bX2 n pts) (bY2 n pts)) :
    Calls Try.prog 60 #[.pointer (some ⟨g, o, none⟩)] w fun e w' => e = .returned (.bool (dB (bX1 n pts) (bY1 n pts) (bX2 n pts) (bY2 n pts))) ∧ Below w.heap.size w w' := by
  have HC := Lib.hid (boxOfS A g n pts w h1 hcap hbz hs hp)
  unfold bx at HC
  clear hs hp hbz hcap h1
  obtain ⟨a, ha⟩ : ∃ z, bX1 n pts = z := ⟨_, rfl⟩
  obtain ⟨b, hb'⟩ : ∃ z, bY1 n pts = z := ⟨_, rfl⟩
  obtain ⟨c', hc⟩ : ∃ z, bX2 n pts = z := ⟨_, rfl⟩
  obtain ⟨d, hd⟩ : ∃ z, bY2 n pts = z := ⟨_, rfl⟩
  rw [ha, hb', hc, hd] at HC hsm
  rw [ha, hb', hc, hd]
  clear ha hb' hc hd
  have HF := Lib.hid (show dB a b c' d = (decide (c' - a ≤ 160) && decide (d - b ≤ 160)) from rfl)
  obtain ⟨r, hr⟩ : ∃ r, dB a b c' d = r := ⟨_, rfl⟩
  rw [hr] at HF ⊢
  obtain ⟨hu1, hu2⟩ := w64 (x := c' - a) (by unfold smallB at hsm; omega)
  obtain ⟨hv1, hv2⟩ := w64 (x := d - b) (by unfold smallB at hsm; omega)
  obtain ⟨u, hu⟩ : ∃ u, c' - a = u := ⟨_, rfl⟩
  obtain ⟨v, hv⟩ : ∃ v, d - b = v := ⟨_, rfl⟩
  have hu1' : IntKind.i64.wrap (c' - a) = u := hu1.trans hu
  have hu2' : wrap64 (c' - a) = u := hu2.trans hu
  have hv1' : IntKind.i64.wrap (d - b) = v := hv1.trans hv
  have hv2' : wrap64 (d - b) = v := hv2.trans hv
  rw [hu, hv] at HF
  clear hr hu1 hu2 hv1 hv2 hu hv hsm
  have hund : undef = Value.tuple #[] := rfl
  by_cases h1 : u ≤ 160
  · by_cases h2 : v ≤ 160
    · have HF2 := Lib.hid (show r = true by rw [HF.out, decide_eq_true h1, decide_eq_true h2]; rfl)
      have d1 : decide (u ≤ 160) = true := decide_eq_true h1
      have d2 : decide (v ≤ 160) = true := decide_eq_true h2
      clear HF
      go_enter Try.func60, Try.ntmps60
      go_wp2_with fail
      refine HC.out.mono ?_
      rintro e w1 ⟨rfl, hb⟩
      have HB := Lib.hid hb
      clear hb HC
      go_wp2
      go_ret
      exact ⟨by rw [HF2.out]; rfl, by first | exact HB.out.trans ((below_alloc1 _ _).mono HB.out.size) | exact HB.out⟩
    · have HF2 := Lib.hid (show r = false by rw [HF.out, decide_eq_true h1, decide_eq_false h2]; rfl)
      have d1 : decide (u ≤ 160) = true := decide_eq_true h1
      have d2 : decide (v ≤ 160) = false := decide_eq_false h2
      clear HF
      go_enter Try.func60, Try.ntmps60
      go_wp2_with fail
      refine HC.out.mono ?_
      rintro e w1 ⟨rfl, hb⟩
      have HB := Lib.hid hb
      clear hb HC
      go_wp2
      go_ret
      exact ⟨by rw [HF2.out]; rfl, by first | exact HB.out.trans ((below_alloc1 _ _).mono HB.out.size) | exact HB.out⟩
  · have HF2 := Lib.hid (show r = false by rw [HF.out, decide_eq_false h1]; rfl)
    have d1 : decide (u ≤ 160) = false := decide_eq_false h1
    clear HF
    go_enter Try.func60, Try.ntmps60
    go_wp2_with fail
    refine HC.out.mono ?_
    rintro e w1 ⟨rfl, hb⟩
    have HB := Lib.hid hb
    clear hb HC
    go_wp2
    go_ret
    exact ⟨by rw [HF2.out]; rfl, by first | exact HB.out.trans ((below_alloc1 _ _).mono HB.out.size) | exact HB.out⟩
theorem b1 {w w1 : World} {o : Obj} (h : Below (w.alloc o).heap.size (w.alloc o) w1) : Below w.heap.size w w1 := (below_alloc1 w o).trans (h.mono (below_alloc1 w o).size)
theorem b2 {w w1 w2 : World} {o o' : Obj} (h : Below (w.alloc o).heap.size (w.alloc o) w1) (h2 : Below (w1.alloc o').heap.size (w1.alloc o') w2) : Below w.heap.size w w2 := (b1 h).trans ((b1 h2).mono (b1 h).size)
/-- A stroke is that of a dot. -/
noncomputable def dotB (n : Nat) (pts : Nat → P3) : Bool := vS n pts && dB (bX1 n pts) (bY1 n pts) (bX2 n pts) (bY2 n pts)
theorem small_of {n : Nat} {pts : Nat → P3} (hv : vS n pts = true) : 1 ≤ n ∧ smallB (bX1 n pts) (bY1 n pts) (bX2 n pts) (bY2 n pts) := by
  obtain ⟨h1, -, hall⟩ := vS_of hv
  obtain ⟨m, rfl⟩ : ∃ m, n = m + 1 := ⟨n - 1, by omega⟩
  refine ⟨h1, b_in m pts (fun i hi => ?_) (m + 1) (Nat.le_refl _)⟩
  have h := (hall i hi).1
  unfold inR at h
  simp only [decide_eq_true_eq, Bool.and_eq_true] at h
  omega
set_option maxRecDepth 100000 in
set_option maxHeartbeats 2000000 in
theorem spec_calls {c : Nat} (A : Option Addr) (n : Nat) (pts : Nat → P3) (w : World) (hcap : n ≤ 1048576) (hp : PtsAt w A n pts) :
    Calls Try.prog 34 #[.agg #[.slice A n c]] w fun e w' => e = .returned (.bool (dotB n pts)) ∧ Below w.heap.size w w' := by
  have BL := Lib.hid (below_alloc1 w (.cells #[.slice A n c] 57))
  have KB := Lib.hid (heap_alloc_new w (.cells #[.slice A n c] 57))
  have hc0 : (w.alloc (.cells #[.slice A n c] 57)).cell? ⟨w.heap.size, 0, none⟩ = some (.slice A n c) := by rw [cell_of_block KB.out]; rfl
  have HP := Lib.hid (hp.kept BL.out)
  have HV := Lib.hid (l02Stroke_calls (c := c) (o := 0) A w.heap.size n pts _ hcap (by simp) hc0 HP.out)
  have HD := Lib.hid (fun W (hb : Below (w.alloc (.cells #[.slice A n c] 57)).heap.size (w.alloc (.cells #[.slice A n c] 57)) W) (h1 : 1 ≤ n) (hsm : smallB (bX1 n pts) (bY1 n pts) (bX2 n pts) (bY2 n pts)) =>
    dotS (c := c) (o := 0) A w.heap.size n pts W h1 hcap (Nat.lt_of_lt_of_le (by simp) hb.size) ((hb.cell (p := ⟨w.heap.size, 0, none⟩) (by simp)).trans hc0) (HP.out.kept hb) hsm)
  clear hc0 KB HP hp
  have hund : undef = Value.tuple #[] := rfl
  cases hv : vS n pts with
  | false =>
    have HF := Lib.hid (show dotB n pts = false by unfold dotB; rw [hv]; rfl)
    rw [hv] at HV
    clear HD hv
    go_enter Try.func34, Try.ntmps34
    go_wp2_with fail
    refine HV.out.mono ?_
    rintro e w1 ⟨rfl, hb⟩
    have HB := Lib.hid (BL.out.trans (hb.mono BL.out.size))
    clear hb HV
    go_wp2
    go_ret
    exact ⟨by rw [HF.out]; rfl, HB.out⟩
  | true =>
    have HF := Lib.hid (show dB (bX1 n pts) (bY1 n pts) (bX2 n pts) (bY2 n pts) = dotB n pts by unfold dotB; rw [hv]; rfl)
    obtain ⟨h1, hsm⟩ := small_of hv
    have HD2 := Lib.hid (fun W hb => HD.out W hb h1 hsm)
    rw [hv] at HV
    rw [HF.out] at HD2
    clear HD hv h1 hsm
    go_enter Try.func34, Try.ntmps34
    go_wp2_with fail
    refine HV.out.mono ?_
    rintro e w1 ⟨rfl, hb⟩
    have HB := Lib.hid hb
    clear hb HV
    go_wp2_with fail
    refine (HD2.out _ HB.out).mono ?_
    rintro e w2 ⟨rfl, hb⟩
    have HB2 := Lib.hid ((BL.out.trans (HB.out.mono BL.out.size)).trans (hb.mono (BL.out.trans (HB.out.mono BL.out.size)).size))
    clear hb
    go_wp2
    go_ret
    exact ⟨rfl, HB2.out⟩
set_option maxRecDepth 100000 in
set_option maxHeartbeats 2000000 in
theorem impl_calls {c : Nat} (A : Option Addr) (n : Nat) (pts : Nat → P3) (w : World) (hcap : n ≤ 1048576) (hp : PtsAt w A n pts) :
    Calls Try.prog 36 #[.agg #[.slice A n c]] w fun e w' => e = .returned (.bool (dotB n pts)) ∧ Below w.heap.size w w' := by
  have hund : undef = Value.tuple #[] := rfl
  cases hv : vS n pts with
  | false =>
    have HF := Lib.hid (show dotB n pts = false by unfold dotB; rw [hv]; rfl)
    have HV := Lib.hid (fun W (hb : Below w.heap.size w W) => boxI_no (c := c) A n pts W hcap (hp.kept hb) hv)
    clear hv hp
    go_enter Try.func36, Try.ntmps36
    go_wp2_with fail
    refine (HV.out _ (by first | exact Below.refl _ _ | exact below_alloc1 _ _ | exact below_alloc2 _ _ _)).mono ?_
    rintro e w1 ⟨rfl, hb⟩
    have HB := Lib.hid hb
    clear hb HV
    go_wp2
    go_ret
    exact ⟨by rw [HF.out]; rfl, by first | exact HB.out | exact b1 HB.out | exact (b1 HB.out).trans ((below_alloc1 _ _).mono (b1 HB.out).size)⟩
  | true =>
    have HF := Lib.hid (show dB (bX1 n pts) (bY1 n pts) (bX2 n pts) (bY2 n pts) = dotB n pts by unfold dotB; rw [hv]; rfl)
    obtain ⟨h1, hsm⟩ := small_of hv
    have HV := Lib.hid (fun W (hb : Below w.heap.size w W) => boxI_yes (c := c) A n pts W hcap (hp.kept hb) hv)
    have HD2 := Lib.hid (fun W => isDotI _ _ _ _ W hsm)
    rw [HF.out] at HD2
    clear hv h1 hsm hp
    unfold bx at HV
    obtain ⟨a, ha⟩ : ∃ z, bX1 n pts = z := ⟨_, rfl⟩
    obtain ⟨b, hb'⟩ : ∃ z, bY1 n pts = z := ⟨_, rfl⟩
    obtain ⟨c', hc⟩ : ∃ z, bX2 n pts = z := ⟨_, rfl⟩
    obtain ⟨d, hd⟩ : ∃ z, bY2 n pts = z := ⟨_, rfl⟩
    rw [ha, hb', hc, hd] at HV HD2
    clear ha hb' hc hd HF
    go_enter Try.func36, Try.ntmps36
    go_wp2_with fail
    refine (HV.out _ (by first | exact Below.refl _ _ | exact below_alloc1 _ _ | exact below_alloc2 _ _ _)).mono ?_
    rintro e w1 ⟨rfl, hb⟩
    have HB := Lib.hid hb
    clear hb HV
    go_wp2_with fail
    refine (HD2.out _).mono ?_
    rintro e w2 ⟨rfl, hb⟩
    have HB2 := Lib.hid hb
    clear hb
    go_wp2
    go_ret
    exact ⟨rfl, b2 HB.out HB2.out⟩
theorem meat (vs0 : Nat → Value) (g0 : Nat → Dat) (ht0 : tyrStroke g0) (hq0 : costRec 1 g0 ≤ 1048576) :
    ∃ (r0 : Bool), (∀ (W : World) (us0 : Nat → Value), ReadsRec W 1 us0 g0 → Calls Try.prog 34 #[.agg #[us0 0]] W fun e W' => e = .returned (.bool r0) ∧ Below W.heap.size W W') ∧ (∀ (W : World) (us0 : Nat → Value), ReadsRec W 1 us0 g0 → Calls Try.prog 36 #[.agg #[us0 0]] W fun e W' => e = .returned (.bool r0) ∧ Below W.heap.size W W') := by
  refine ⟨dotB (strN g0) (strP g0), fun W us0 h => ?_, fun W us0 h => ?_⟩
  · obtain ⟨A, c, e, hn, hp⟩ := reads_str h ht0 hq0
    rw [e]
    exact spec_calls A _ _ W hn hp
  · obtain ⟨A, c, e, hn, hp⟩ := reads_str h ht0 hq0
    rw [e]
    exact impl_calls A _ _ W hn hp
end Go.Proofs.Ytofgdgdmmlgmnaa.wIsDot
