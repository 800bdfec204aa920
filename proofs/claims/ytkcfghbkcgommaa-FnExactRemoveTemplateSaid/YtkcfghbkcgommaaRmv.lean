/-
  Proved: what both functions that remove a template return.
  Conditions: those of each theorem.
-/
import Derived.Test.YtkcfghbkcgommaaWou
namespace Go.Proofs.Ytkcfghbkcgommaa.gro
open Go.ChangeShapes Go.WideShapes Go.ChangeAt Go.RowKit Go.Joins
open Go.Proofs.Ytkcfghbkcgommaa.core Go.Proofs.Ytkcfghbkcgommaa.rown Go.Proofs.Ytkcfghbkcgommaa.stk Go.Proofs.Ytkcfghbkcgommaa.boxed Go.Proofs.Ytkcfghbkcgommaa.tmp Go.Proofs.Ytkcfghbkcgommaa.ft Go.Proofs.Ytkcfghbkcgommaa.sto Go.Proofs.Ytkcfghbkcgommaa.seq
set_option linter.unusedVariables false
set_option linter.unusedSimpArgs false
theorem TD_low {W : World} {L L' j C : Nat} {D : Option Addr} {lb : Nat → ByteArray} {gi ln ci : Nat → Nat} {lf : Nat → Nat → P3} (h : TD W L D j C lb gi ln ci lf) (hL : L' ≤ L) : TD W L' D j C lb gi ln ci lf :=
  ⟨row_low h.row hL, fun i hi => row_low (h.el i hi) hL, h.inj⟩
theorem st_len {band : Int} {n : Nat} {lb : Nat → ByteArray} {ln : Nat → Nat} {lf : Nat → Nat → P3} (h : StOk band n lb ln lf) : ∀ i, i < n → 1 ≤ ln i ∧ ln i ≤ 72 := fun i hi => by
  have := h.2.2 i hi
  unfold tmB at this
  rw [Bool.and_eq_true] at this
  have h2 := okQ_of this.2
  exact ⟨h2.1, h2.2.1⟩
/-- What one of the functions returns where nothing is removed. -/
abbrev RmNo (w : World) (code : Int) (e : Ending) (w' : World) : Prop := e = .returned (.tuple #[.agg #[.int .i64 0, .slice none 0 0], .int .i64 code]) ∧ Below w.heap.size w w'
/-- What one of them returns where the template at a is removed. -/
abbrev RmYes (w : World) (band : Int) (N : Nat) (a : Int) (lb : Nat → ByteArray) (ln : Nat → Nat) (lf : Nat → Nat → P3) (e : Ending) (w' : World) : Prop :=
  ∃ (D : Option Addr) (C : Nat) (gi ci : Nat → Nat), e = .returned (.tuple #[.agg #[.int .i64 band, .slice D N C], .int .i64 0]) ∧ TD w' w.heap.size D N C (fun i => lb (kE a i)) gi (fun i => ln (kE a i)) ci (fun i => lf (kE a i)) ∧ Below w.heap.size w w'
set_option maxRecDepth 100000 in
set_option maxHeartbeats 2000000 in
theorem rmI_inv {c : Nat} (band : Int) (T : Option Addr) (n : Nat) (a : Int) (lb : Nat → ByteArray) (ln : Nat → Nat) (lf : Nat → Nat → P3) (w : World) (hl : TsL n lb ln) (hp : TsAt w T n lb ln lf) (hv : stB band n lb ln lf = false) :
    Calls Try.prog 29 #[.agg #[.int .i64 band, .slice T n c], .int .i64 a] w (RmNo w 1) := by
  have CS := Lib.hid (CW.start w (.slice T n c) band)
  obtain ⟨W0, hW0⟩ : ∃ W0, (w.alloc (.cells #[.int .i64 band, .slice T n c] 30)).alloc (.cells #[.int .i64 0, .slice none 0 0] 30) = W0 := ⟨_, rfl⟩
  have HZ := Lib.hid (show W0.heap.size = w.heap.size + 2 by rw [← hW0]; simp)
  rw [hW0] at CS
  have x0 : W0.cell? ⟨w.heap.size, 0, none⟩ = some (.int .i64 band) := by rw [cell_of_block CS.out.b1]; rfl
  have x1 : W0.cell? ⟨w.heap.size, 1, none⟩ = some (.slice T n c) := by rw [cell_of_block CS.out.b1]; rfl
  have HP := Lib.hid hp
  have HL := Lib.hid hl
  have HV := Lib.hid (validStI (c := c) band T n lb ln lf W0 hl (hp.kept CS.out.below))
  rw [hv] at HV
  clear hp
  try clear hN
  go_enter Try.func29, Try.ntmps29
  go_wp2_with fail
  refine HV.out.mono ?_
  rintro e w1 ⟨rfl, hb1⟩
  have CC := Lib.hid (CS.out.far (hb1.mono (by rw [HZ.out]; omega)))
  have BB := Lib.hid CC.out.below
  have y0 : w1.cell? ⟨w.heap.size, 0, none⟩ = some (.int .i64 band) := by rw [cell_of_block CC.out.b1]; rfl
  have y1 : w1.cell? ⟨w.heap.size, 1, none⟩ = some (.slice T n c) := by rw [cell_of_block CC.out.b1]; rfl
  have y2 : w1.cell? ⟨w.heap.size + 1, 0, none⟩ = some (.int .i64 0) := by rw [cell_of_block CC.out.b2]; rfl
  have y3 : w1.cell? ⟨w.heap.size + 1, 1, none⟩ = some (.slice none 0 0) := by rw [cell_of_block CC.out.b2]; rfl
  have y4 := unfrozen_of_block CC.out.b2 0
  have y5 := unfrozen_of_block CC.out.b2 1
  clear hb1 HV CS HZ x0 x1
  have BR := Lib.hid ((BB.out.setCell (p := ⟨w.heap.size + 1, 0, none⟩) (show w.heap.size ≤ w.heap.size + 1 by omega) (.int .i64 0)).setCell (p := ⟨w.heap.size + 1, 1, none⟩) (show w.heap.size ≤ w.heap.size + 1 by omega) (.slice none 0 0))
  go_wp2
  refine bodyPost_ret (v := .tuple #[.agg #[.int .i64 0, .slice none 0 0], .int .i64 1]) (by simp [results, Try.results29, go_sem, y2, y3]) rfl ⟨rfl, BR.out⟩
set_option maxRecDepth 100000 in
set_option maxHeartbeats 2000000 in
theorem rmI_rng {c : Nat} (band : Int) (T : Option Addr) (n : Nat) (a : Int) (lb : Nat → ByteArray) (ln : Nat → Nat) (lf : Nat → Nat → P3) (w : World) (hl : TsL n lb ln) (hp : TsAt w T n lb ln lf) (hv : stB band n lb ln lf = true) (ha : ¬ (0 ≤ a ∧ a < (n : Int))) :
    Calls Try.prog 29 #[.agg #[.int .i64 band, .slice T n c], .int .i64 a] w (RmNo w 2) := by
  have CS := Lib.hid (CW.start w (.slice T n c) band)
  obtain ⟨W0, hW0⟩ : ∃ W0, (w.alloc (.cells #[.int .i64 band, .slice T n c] 30)).alloc (.cells #[.int .i64 0, .slice none 0 0] 30) = W0 := ⟨_, rfl⟩
  have HZ := Lib.hid (show W0.heap.size = w.heap.size + 2 by rw [← hW0]; simp)
  rw [hW0] at CS
  have x0 : W0.cell? ⟨w.heap.size, 0, none⟩ = some (.int .i64 band) := by rw [cell_of_block CS.out.b1]; rfl
  have x1 : W0.cell? ⟨w.heap.size, 1, none⟩ = some (.slice T n c) := by rw [cell_of_block CS.out.b1]; rfl
  have HP := Lib.hid hp
  have HL := Lib.hid hl
  have hn0 := hl.hn
  have HV := Lib.hid (validStI (c := c) band T n lb ln lf W0 hl (hp.kept CS.out.below))
  rw [hv] at HV
  clear hp
  try clear hN
  go_enter Try.func29, Try.ntmps29
  go_wp2_with fail
  refine HV.out.mono ?_
  rintro e w1 ⟨rfl, hb1⟩
  have CC := Lib.hid (CS.out.far (hb1.mono (by rw [HZ.out]; omega)))
  have BB := Lib.hid CC.out.below
  have y0 : w1.cell? ⟨w.heap.size, 0, none⟩ = some (.int .i64 band) := by rw [cell_of_block CC.out.b1]; rfl
  have y1 : w1.cell? ⟨w.heap.size, 1, none⟩ = some (.slice T n c) := by rw [cell_of_block CC.out.b1]; rfl
  have y2 : w1.cell? ⟨w.heap.size + 1, 0, none⟩ = some (.int .i64 0) := by rw [cell_of_block CC.out.b2]; rfl
  have y3 : w1.cell? ⟨w.heap.size + 1, 1, none⟩ = some (.slice none 0 0) := by rw [cell_of_block CC.out.b2]; rfl
  have y4 := unfrozen_of_block CC.out.b2 0
  have y5 := unfrozen_of_block CC.out.b2 1
  clear hb1 HV CS HZ x0 x1
  by_cases h0 : a < 0
  · skip
    have BR := Lib.hid ((BB.out.setCell (p := ⟨w.heap.size + 1, 0, none⟩) (show w.heap.size ≤ w.heap.size + 1 by omega) (.int .i64 0)).setCell (p := ⟨w.heap.size + 1, 1, none⟩) (show w.heap.size ≤ w.heap.size + 1 by omega) (.slice none 0 0))
    go_wp2
    refine bodyPost_ret (v := .tuple #[.agg #[.int .i64 0, .slice none 0 0], .int .i64 2]) (by simp [results, Try.results29, go_sem, y2, y3]) rfl ⟨rfl, BR.out⟩
  · have h1 : (n : Int) ≤ a := by omega
    have BR := Lib.hid ((BB.out.setCell (p := ⟨w.heap.size + 1, 0, none⟩) (show w.heap.size ≤ w.heap.size + 1 by omega) (.int .i64 0)).setCell (p := ⟨w.heap.size + 1, 1, none⟩) (show w.heap.size ≤ w.heap.size + 1 by omega) (.slice none 0 0))
    go_wp2
    refine bodyPost_ret (v := .tuple #[.agg #[.int .i64 0, .slice none 0 0], .int .i64 2]) (by simp [results, Try.results29, go_sem, y2, y3]) rfl ⟨rfl, BR.out⟩
set_option maxRecDepth 100000 in
set_option maxHeartbeats 2000000 in
theorem rmI_yes {c : Nat} (band : Int) (T : Option Addr) (n : Nat) (a : Int) (lb : Nat → ByteArray) (ln : Nat → Nat) (lf : Nat → Nat → P3) (w : World) (hl : TsL n lb ln) (hp : TsAt w T n lb ln lf) (hc : n ≤ c) (hst : StOk band n lb ln lf) (n1 N : Nat) (ha : a = (n1 : Int)) (h1 : n1 < n) (hN : n = N + 1) :
    Calls Try.prog 29 #[.agg #[.int .i64 band, .slice T n c], .int .i64 a] w (RmYes w band N a lb ln lf) := by
  subst ha
  have CS := Lib.hid (CW.start w (.slice T n c) band)
  obtain ⟨W0, hW0⟩ : ∃ W0, (w.alloc (.cells #[.int .i64 band, .slice T n c] 30)).alloc (.cells #[.int .i64 0, .slice none 0 0] 30) = W0 := ⟨_, rfl⟩
  have HZ := Lib.hid (show W0.heap.size = w.heap.size + 2 by rw [← hW0]; simp)
  rw [hW0] at CS
  have x0 : W0.cell? ⟨w.heap.size, 0, none⟩ = some (.int .i64 band) := by rw [cell_of_block CS.out.b1]; rfl
  have x1 : W0.cell? ⟨w.heap.size, 1, none⟩ = some (.slice T n c) := by rw [cell_of_block CS.out.b1]; rfl
  have HP := Lib.hid hp
  have HL := Lib.hid hl
  have HV := Lib.hid (validStI (c := c) band T n lb ln lf W0 hl (hp.kept CS.out.below))
  rw [st_iff.2 hst] at HV
  have hn40 := hst.2.1
  have SL := Lib.hid (st_len hst)
  have HWO := Lib.hid (fun V hV => withoutI (c := c) band T n n1 (N - n1) N lb ln lf V (by omega) hN hn40 hc (hp.kept hV))
  have HN := Lib.hid hN
  have hx := (show ¬ (n : Int) ≤ (n1 : Int) by omega)
  clear hp
  try clear hN
  go_enter Try.func29, Try.ntmps29
  go_wp2_with fail
  refine HV.out.mono ?_
  rintro e w1 ⟨rfl, hb1⟩
  have CC := Lib.hid (CS.out.far (hb1.mono (by rw [HZ.out]; omega)))
  have BB := Lib.hid CC.out.below
  have y0 : w1.cell? ⟨w.heap.size, 0, none⟩ = some (.int .i64 band) := by rw [cell_of_block CC.out.b1]; rfl
  have y1 : w1.cell? ⟨w.heap.size, 1, none⟩ = some (.slice T n c) := by rw [cell_of_block CC.out.b1]; rfl
  have y2 : w1.cell? ⟨w.heap.size + 1, 0, none⟩ = some (.int .i64 0) := by rw [cell_of_block CC.out.b2]; rfl
  have y3 : w1.cell? ⟨w.heap.size + 1, 1, none⟩ = some (.slice none 0 0) := by rw [cell_of_block CC.out.b2]; rfl
  have y4 := unfrozen_of_block CC.out.b2 0
  have y5 := unfrozen_of_block CC.out.b2 1
  have HW1 := Lib.hid (HWO.out w1 BB.out)
  clear hb1 HV CS HZ x0 x1 HWO
  go_wp2_with fail
  refine HW1.out.mono ?_
  rintro e w2 ⟨A, C1, rfl, hts, hb2⟩
  have HC := Lib.hid (copyS (c := C1) band A N (fun i => lb (kE (n1 : Int) i)) (fun i => ln (kE (n1 : Int) i)) (fun i => lf (kE (n1 : Int) i)) w2 (by have := HN.out; omega) (fun i hi => SL.out _ (by have := HN.out; unfold kE; split <;> omega)) hts)
  have CD := Lib.hid (CC.out.far (hb2.mono CC.out.z))
  have hs2 := hb2.size
  clear hts hb2 HW1
  go_wp2_with fail
  refine HC.out.mono ?_
  rintro e w3 ⟨D, C, gi, ci, rfl, htd, hb3⟩
  have CE := Lib.hid (CD.out.far (hb3.mono CD.out.z))
  have z2 : w3.cell? ⟨w.heap.size + 1, 0, none⟩ = some (.int .i64 0) := by rw [cell_of_block CE.out.b2]; rfl
  have z3 : w3.cell? ⟨w.heap.size + 1, 1, none⟩ = some (.slice none 0 0) := by rw [cell_of_block CE.out.b2]; rfl
  have z4 := unfrozen_of_block CE.out.b2 0
  have z5 := unfrozen_of_block CE.out.b2 1
  have hzz := CD.out.z
  have TR := Lib.hid ((TD_low (L' := w.heap.size + 2) htd (by omega)).set (b := w.heap.size + 1) (q := 0) (by omega) (.int .i64 band))
  have TR2 := Lib.hid (TD_low (TR.out.set (b := w.heap.size + 1) (q := 1) (by omega) (.slice D N C)) (show w.heap.size ≤ w.heap.size + 2 by omega))
  have BR := Lib.hid ((CE.out.below.setCell (p := ⟨w.heap.size + 1, 0, none⟩) (show w.heap.size ≤ w.heap.size + 1 by omega) (.int .i64 band)).setCell (p := ⟨w.heap.size + 1, 1, none⟩) (show w.heap.size ≤ w.heap.size + 1 by omega) (.slice D N C))
  clear htd hb3 HC hzz hs2 TR
  go_wp2
  refine bodyPost_ret (v := .tuple #[.agg #[.int .i64 band, .slice D N C], .int .i64 0]) (by simp [results, Try.results29, go_sem, z2, z3]) rfl ⟨D, C, gi, ci, rfl, TR2.out, BR.out⟩
set_option maxRecDepth 100000 in
set_option maxHeartbeats 2000000 in
theorem rmS_inv {c : Nat} (band : Int) (T : Option Addr) (n : Nat) (a : Int) (lb : Nat → ByteArray) (ln : Nat → Nat) (lf : Nat → Nat → P3) (w : World) (hl : TsL n lb ln) (hp : TsAt w T n lb ln lf) (hv : stB band n lb ln lf = false) :
    Calls Try.prog 28 #[.agg #[.int .i64 band, .slice T n c], .int .i64 a] w (RmNo w 1) := by
  have CS := Lib.hid (CW.start w (.slice T n c) band)
  obtain ⟨W0, hW0⟩ : ∃ W0, (w.alloc (.cells #[.int .i64 band, .slice T n c] 30)).alloc (.cells #[.int .i64 0, .slice none 0 0] 30) = W0 := ⟨_, rfl⟩
  have HZ := Lib.hid (show W0.heap.size = w.heap.size + 2 by rw [← hW0]; simp)
  rw [hW0] at CS
  have x0 : W0.cell? ⟨w.heap.size, 0, none⟩ = some (.int .i64 band) := by rw [cell_of_block CS.out.b1]; rfl
  have x1 : W0.cell? ⟨w.heap.size, 1, none⟩ = some (.slice T n c) := by rw [cell_of_block CS.out.b1]; rfl
  have HP := Lib.hid hp
  have HL := Lib.hid hl
  have HV := Lib.hid (storeOkS (c := c) w.heap.size 0 band T n lb ln lf W0 (by rw [HZ.out]; omega) x0 x1 hl (hp.kept CS.out.below))
  rw [hv] at HV
  clear hp
  try clear hN
  go_enter Try.func28, Try.ntmps28
  go_wp2_with fail
  refine HV.out.mono ?_
  rintro e w1 ⟨rfl, hb1⟩
  have CC := Lib.hid (CS.out.far (hb1.mono (by rw [HZ.out]; omega)))
  have BB := Lib.hid CC.out.below
  have y0 : w1.cell? ⟨w.heap.size, 0, none⟩ = some (.int .i64 band) := by rw [cell_of_block CC.out.b1]; rfl
  have y1 : w1.cell? ⟨w.heap.size, 1, none⟩ = some (.slice T n c) := by rw [cell_of_block CC.out.b1]; rfl
  have y2 : w1.cell? ⟨w.heap.size + 1, 0, none⟩ = some (.int .i64 0) := by rw [cell_of_block CC.out.b2]; rfl
  have y3 : w1.cell? ⟨w.heap.size + 1, 1, none⟩ = some (.slice none 0 0) := by rw [cell_of_block CC.out.b2]; rfl
  have y4 := unfrozen_of_block CC.out.b2 0
  have y5 := unfrozen_of_block CC.out.b2 1
  clear hb1 HV CS HZ x0 x1
  have BR := Lib.hid ((BB.out.setCell (p := ⟨w.heap.size + 1, 0, none⟩) (show w.heap.size ≤ w.heap.size + 1 by omega) (.int .i64 0)).setCell (p := ⟨w.heap.size + 1, 1, none⟩) (show w.heap.size ≤ w.heap.size + 1 by omega) (.slice none 0 0))
  go_wp2
  refine bodyPost_ret (v := .tuple #[.agg #[.int .i64 0, .slice none 0 0], .int .i64 1]) (by simp [results, Try.results28, go_sem, y2, y3]) rfl ⟨rfl, BR.out⟩
set_option maxRecDepth 100000 in
set_option maxHeartbeats 2000000 in
theorem rmS_rng {c : Nat} (band : Int) (T : Option Addr) (n : Nat) (a : Int) (lb : Nat → ByteArray) (ln : Nat → Nat) (lf : Nat → Nat → P3) (w : World) (hl : TsL n lb ln) (hp : TsAt w T n lb ln lf) (hv : stB band n lb ln lf = true) (ha : ¬ (0 ≤ a ∧ a < (n : Int))) :
    Calls Try.prog 28 #[.agg #[.int .i64 band, .slice T n c], .int .i64 a] w (RmNo w 2) := by
  have CS := Lib.hid (CW.start w (.slice T n c) band)
  obtain ⟨W0, hW0⟩ : ∃ W0, (w.alloc (.cells #[.int .i64 band, .slice T n c] 30)).alloc (.cells #[.int .i64 0, .slice none 0 0] 30) = W0 := ⟨_, rfl⟩
  have HZ := Lib.hid (show W0.heap.size = w.heap.size + 2 by rw [← hW0]; simp)
  rw [hW0] at CS
  have x0 : W0.cell? ⟨w.heap.size, 0, none⟩ = some (.int .i64 band) := by rw [cell_of_block CS.out.b1]; rfl
  have x1 : W0.cell? ⟨w.heap.size, 1, none⟩ = some (.slice T n c) := by rw [cell_of_block CS.out.b1]; rfl
  have HP := Lib.hid hp
  have HL := Lib.hid hl
  have hn0 := hl.hn
  have HV := Lib.hid (storeOkS (c := c) w.heap.size 0 band T n lb ln lf W0 (by rw [HZ.out]; omega) x0 x1 hl (hp.kept CS.out.below))
  rw [hv] at HV
  have HI := Lib.hid (fun W => in_f a 0 ((n : Int) - 1) (by omega) W)
  clear hp
  try clear hN
  go_enter Try.func28, Try.ntmps28
  go_wp2_with fail
  refine HV.out.mono ?_
  rintro e w1 ⟨rfl, hb1⟩
  have CC := Lib.hid (CS.out.far (hb1.mono (by rw [HZ.out]; omega)))
  have BB := Lib.hid CC.out.below
  have y0 : w1.cell? ⟨w.heap.size, 0, none⟩ = some (.int .i64 band) := by rw [cell_of_block CC.out.b1]; rfl
  have y1 : w1.cell? ⟨w.heap.size, 1, none⟩ = some (.slice T n c) := by rw [cell_of_block CC.out.b1]; rfl
  have y2 : w1.cell? ⟨w.heap.size + 1, 0, none⟩ = some (.int .i64 0) := by rw [cell_of_block CC.out.b2]; rfl
  have y3 : w1.cell? ⟨w.heap.size + 1, 1, none⟩ = some (.slice none 0 0) := by rw [cell_of_block CC.out.b2]; rfl
  have y4 := unfrozen_of_block CC.out.b2 0
  have y5 := unfrozen_of_block CC.out.b2 1
  clear hb1 HV CS HZ x0 x1
  go_wp2_with fail
  refine (HI.out _).mono ?_
  rintro e _ ⟨rfl, rfl⟩
  have BR := Lib.hid ((BB.out.setCell (p := ⟨w.heap.size + 1, 0, none⟩) (show w.heap.size ≤ w.heap.size + 1 by omega) (.int .i64 0)).setCell (p := ⟨w.heap.size + 1, 1, none⟩) (show w.heap.size ≤ w.heap.size + 1 by omega) (.slice none 0 0))
  go_wp2
  refine bodyPost_ret (v := .tuple #[.agg #[.int .i64 0, .slice none 0 0], .int .i64 2]) (by simp [results, Try.results28, go_sem, y2, y3]) rfl ⟨rfl, BR.out⟩
set_option maxRecDepth 100000 in
set_option maxHeartbeats 2000000 in
theorem rmS_yes {c : Nat} (band : Int) (T : Option Addr) (n : Nat) (a : Int) (lb : Nat → ByteArray) (ln : Nat → Nat) (lf : Nat → Nat → P3) (w : World) (hl : TsL n lb ln) (hp : TsAt w T n lb ln lf) (hc : n ≤ c) (hst : StOk band n lb ln lf) (n1 N : Nat) (ha : a = (n1 : Int)) (h1 : n1 < n) (hN : n = N + 1) :
    Calls Try.prog 28 #[.agg #[.int .i64 band, .slice T n c], .int .i64 a] w (RmYes w band N a lb ln lf) := by
  subst ha
  have CS := Lib.hid (CW.start w (.slice T n c) band)
  obtain ⟨W0, hW0⟩ : ∃ W0, (w.alloc (.cells #[.int .i64 band, .slice T n c] 30)).alloc (.cells #[.int .i64 0, .slice none 0 0] 30) = W0 := ⟨_, rfl⟩
  have HZ := Lib.hid (show W0.heap.size = w.heap.size + 2 by rw [← hW0]; simp)
  rw [hW0] at CS
  have x0 : W0.cell? ⟨w.heap.size, 0, none⟩ = some (.int .i64 band) := by rw [cell_of_block CS.out.b1]; rfl
  have x1 : W0.cell? ⟨w.heap.size, 1, none⟩ = some (.slice T n c) := by rw [cell_of_block CS.out.b1]; rfl
  have HP := Lib.hid hp
  have HL := Lib.hid hl
  have HV := Lib.hid (storeOkS (c := c) w.heap.size 0 band T n lb ln lf W0 (by rw [HZ.out]; omega) x0 x1 hl (hp.kept CS.out.below))
  rw [st_iff.2 hst] at HV
  have hn40 := hst.2.1
  have SL := Lib.hid (st_len hst)
  have HI := Lib.hid (fun W => in_t (n1 : Int) 0 ((n : Int) - 1) (by omega) W)
  have HKN := Lib.hid (show kK (n1 : Int) n = N by unfold kK; rw [if_pos (by omega)]; omega)
  clear hp
  try clear hN
  go_enter Try.func28, Try.ntmps28
  go_wp2_with fail
  refine HV.out.mono ?_
  rintro e w1 ⟨rfl, hb1⟩
  have CC := Lib.hid (CS.out.far (hb1.mono (by rw [HZ.out]; omega)))
  have BB := Lib.hid CC.out.below
  have y0 : w1.cell? ⟨w.heap.size, 0, none⟩ = some (.int .i64 band) := by rw [cell_of_block CC.out.b1]; rfl
  have y1 : w1.cell? ⟨w.heap.size, 1, none⟩ = some (.slice T n c) := by rw [cell_of_block CC.out.b1]; rfl
  have y2 : w1.cell? ⟨w.heap.size + 1, 0, none⟩ = some (.int .i64 0) := by rw [cell_of_block CC.out.b2]; rfl
  have y3 : w1.cell? ⟨w.heap.size + 1, 1, none⟩ = some (.slice none 0 0) := by rw [cell_of_block CC.out.b2]; rfl
  have y4 := unfrozen_of_block CC.out.b2 0
  have y5 := unfrozen_of_block CC.out.b2 1
  have HO := Lib.hid (ownS (c := c) w.heap.size 0 band T n (n1 : Int) lb ln lf w1 (by have := CC.out.z; omega) y0 y1 hn40 SL.out (HP.out.kept BB.out))
  rw [HKN.out] at HO
  clear hb1 HV CS HZ x0 x1
  go_wp2_with fail
  refine (HI.out _).mono ?_
  rintro e _ ⟨rfl, rfl⟩
  go_wp2_with fail
  refine HO.out.mono ?_
  rintro e w3 ⟨D, C, gi, ci, rfl, htd, hb3⟩
  have CE := Lib.hid (CC.out.far (hb3.mono CC.out.z))
  have z2 : w3.cell? ⟨w.heap.size + 1, 0, none⟩ = some (.int .i64 0) := by rw [cell_of_block CE.out.b2]; rfl
  have z3 : w3.cell? ⟨w.heap.size + 1, 1, none⟩ = some (.slice none 0 0) := by rw [cell_of_block CE.out.b2]; rfl
  have z4 := unfrozen_of_block CE.out.b2 0
  have z5 := unfrozen_of_block CE.out.b2 1
  have hzz := CC.out.z
  have TR := Lib.hid ((TD_low (L' := w.heap.size + 2) htd (by omega)).set (b := w.heap.size + 1) (q := 0) (by omega) (.int .i64 band))
  have TR2 := Lib.hid (TD_low (TR.out.set (b := w.heap.size + 1) (q := 1) (by omega) (.slice D N C)) (show w.heap.size ≤ w.heap.size + 2 by omega))
  have BR := Lib.hid ((CE.out.below.setCell (p := ⟨w.heap.size + 1, 0, none⟩) (show w.heap.size ≤ w.heap.size + 1 by omega) (.int .i64 band)).setCell (p := ⟨w.heap.size + 1, 1, none⟩) (show w.heap.size ≤ w.heap.size + 1 by omega) (.slice D N C))
  clear htd hb3 HO hzz TR
  go_wp2
  refine bodyPost_ret (v := .tuple #[.agg #[.int .i64 band, .slice D N C], .int .i64 0]) (by simp [results, Try.results28, go_sem, z2, z3]) rfl ⟨D, C, gi, ci, rfl, TR2.out, BR.out⟩
end Go.Proofs.Ytkcfghbkcgommaa.gro
