/-
  Proved: what the program's function that tests a band returns; what the program's functions that test an envelope return; what the program's functions that tell how far a list is outside of an envelope return.
  Conditions: those of each theorem.
-/
import Derived.Test.YtkcfghbkcgommabEnvS
import Derived.Test.YtkcfghbkcgommabCostI
namespace Go.Proofs.Ytkcfghbkcgommab.env
open Go.ChangeShapes Go.WideShapes Go.ChangeAt Go.RowKit Go.Joins
open Go.Proofs.Ytkcfghbkcgommab.core Go.Proofs.Ytkcfghbkcgommab.rown Go.Proofs.Ytkcfghbkcgommab.stk Go.Proofs.Ytkcfghbkcgommab.boxed Go.Proofs.Ytkcfghbkcgommab.ft Go.Proofs.Ytkcfghbkcgommab.seq
set_option linter.unusedVariables false
set_option linter.unusedSimpArgs false
set_option maxHeartbeats 2000000 in
theorem bandI (n m band : Int) (w : World) (hn : -1048576 ≤ n ∧ n ≤ 1048576) (hm : -1048576 ≤ m ∧ m ≤ 1048576) :
    Calls Try.prog 35 #[.int .i64 n, .int .i64 m, .int .i64 band] w fun e w' => e = .returned (.bool (bandOk n m band)) ∧ w = w' := by
  have HS := Lib.hid (fun W => apartI n m W)
  rw [apW_in (by omega) (by omega)] at HS
  have h0 := (absv_in (n := n - m) (B := 2097152) (by omega) (by omega)).1
  have HR := Lib.hid (show bandOk n m band = decide (absv (n - m) ≤ band ∧ band ≤ 72) by
    unfold bandOk
    rw [Bool.eq_iff_iff]
    simp only [decide_eq_true_eq]
    omega)
  rw [HR.out]
  clear HR hn hm
  generalize absv (n - m) = T at *
  by_cases h1 : T ≤ band
  · have h1d : decide (T ≤ band) = true := decide_eq_true h1
    by_cases h2 : band ≤ 72
    · have h2d : decide (band ≤ 72) = true := decide_eq_true h2
      have HV := Lib.hid (show decide (T ≤ band ∧ band ≤ 72) = true from decide_eq_true ⟨h1, h2⟩)
      go_enter Try.func35, Try.ntmps35
      go_wp2_with fail
      with_reducible refine (HS.out _).mono ?_
      rintro e _ ⟨rfl, rfl⟩
      go_wp2
      go_ret
      exact ⟨by rw [HV.out]; rfl, rfl⟩
    · have h2d : decide (band ≤ 72) = false := decide_eq_false h2
      have HV := Lib.hid (show decide (T ≤ band ∧ band ≤ 72) = false from decide_eq_false fun h => h2 h.2)
      go_enter Try.func35, Try.ntmps35
      go_wp2_with fail
      with_reducible refine (HS.out _).mono ?_
      rintro e _ ⟨rfl, rfl⟩
      go_wp2
      go_ret
      exact ⟨by rw [HV.out]; rfl, rfl⟩
  · have h1d : decide (T ≤ band) = false := decide_eq_false h1
    have HV := Lib.hid (show decide (T ≤ band ∧ band ≤ 72) = false from decide_eq_false fun h => h1 h.1)
    go_enter Try.func35, Try.ntmps35
    go_wp2_with fail
    with_reducible refine (HS.out _).mono ?_
    rintro e _ ⟨rfl, rfl⟩
    go_wp2
    go_ret
    exact ⟨by rw [HV.out]; rfl, rfl⟩
end Go.Proofs.Ytkcfghbkcgommab.env

namespace Go.Proofs.Ytkcfghbkcgommab.env

open Go.ChangeShapes Go.WideShapes Go.ChangeAt Go.RowKit Go.Joins

open Go.Proofs.Ytkcfghbkcgommab.core Go.Proofs.Ytkcfghbkcgommab.rown Go.Proofs.Ytkcfghbkcgommab.stk Go.Proofs.Ytkcfghbkcgommab.boxed Go.Proofs.Ytkcfghbkcgommab.ft Go.Proofs.Ytkcfghbkcgommab.seq
set_option linter.unusedVariables false
set_option linter.unusedSimpArgs false
/-- Low and high numbers, whatever their number. -/
noncomputable def limOk (n m : Nat) (lo hi : Nat → Int) : Bool := @decide (n = m ∧ ∀ i, i < n → (0 ≤ lo i ∧ lo i ≤ hi i) ∧ hi i ≤ 255) (Classical.propDecidable _)
theorem lim_true {n m : Nat} {lo hi : Nat → Int} (h : n = m ∧ ∀ i, i < n → (0 ≤ lo i ∧ lo i ≤ hi i) ∧ hi i ≤ 255) : limOk n m lo hi = true := by
  unfold limOk; exact @decide_eq_true _ (Classical.propDecidable _) h
theorem lim_of {n m : Nat} {lo hi : Nat → Int} (h : limOk n m lo hi = true) : n = m ∧ ∀ i, i < n → (0 ≤ lo i ∧ lo i ≤ hi i) ∧ hi i ≤ 255 := by
  unfold limOk at h; exact @of_decide_eq_true _ (Classical.propDecidable _) h
theorem lim_no {n m : Nat} {lo hi : Nat → Int} (h : ¬ (n = m ∧ ∀ i, i < n → (0 ≤ lo i ∧ lo i ≤ hi i) ∧ hi i ≤ 255)) : limOk n m lo hi = false := by
  unfold limOk; exact @decide_eq_false _ (Classical.propDecidable _) h
theorem okE_lim (en : Nat → Nat) (eg : Nat → Nat → Int) : okE en eg = (decide (1 ≤ en 0) && decide (en 0 ≤ 72) && decide (en 2 = en 0) && limOk (en 0) (en 1) (eg 0) (eg 1) && limOk (en 2) (en 3) (eg 2) (eg 3)) := by
  rw [Bool.eq_iff_iff]
  unfold okE
  simp only [Bool.and_eq_true, decide_eq_true_eq]
  constructor
  · rintro ⟨⟨h1, h2⟩, h3⟩
    obtain ⟨e1, ⟨r1, r2⟩, q1⟩ := bnd_of h1
    obtain ⟨e2, r3, q2⟩ := bnd_of h2
    exact ⟨⟨⟨⟨r1, r2⟩, h3.symm⟩, lim_true ⟨e1, q1⟩⟩, lim_true ⟨e2, q2⟩⟩
  · rintro ⟨⟨⟨⟨r1, r2⟩, h3⟩, h1⟩, h2⟩
    obtain ⟨e1, q1⟩ := lim_of h1
    obtain ⟨e2, q2⟩ := lim_of h2
    exact ⟨⟨bnd_true ⟨e1, ⟨r1, r2⟩, q1⟩, bnd_true ⟨e2, ⟨by omega, by omega⟩, q2⟩⟩, h3.symm⟩
end Go.Proofs.Ytkcfghbkcgommab.env

namespace Go.Proofs.Ytkcfghbkcgommab.env

open Go.ChangeShapes Go.WideShapes Go.ChangeAt Go.RowKit Go.Joins

open Go.Proofs.Ytkcfghbkcgommab.core Go.Proofs.Ytkcfghbkcgommab.rown Go.Proofs.Ytkcfghbkcgommab.stk Go.Proofs.Ytkcfghbkcgommab.boxed Go.Proofs.Ytkcfghbkcgommab.ft Go.Proofs.Ytkcfghbkcgommab.seq
set_option linter.unusedVariables false
set_option linter.unusedSimpArgs false
theorem run_max3 {P : Program} (w : World) (ts : Array TypeId) (t : TypeId) (x y z : Int) : (Builtin.max_ ts t #[.int .i64 x, .int .i64 y, .int .i64 z]).run P w = .ok (.int .i64 (max (max x y) z)) w := by
  have e : ∀ p q : Int, (if q > p then q else p) = max p q := fun p q => by
    rw [Int.max_def]
    split <;> split <;> omega
  have e' : ∀ p q : Int, (if p < q then q else p) = max p q := e
  simp [Builtin.max_, Builtin.max2, e, e', go_sem]
set_option maxHeartbeats 2000000 in
theorem offI (n lo hi : Int) (w : World) (h1 : 0 ≤ n ∧ n ≤ 255) (h2 : 0 ≤ lo ∧ lo ≤ 255) (h3 : 0 ≤ hi ∧ hi ≤ 255) :
    Calls Try.prog 55 #[.int .i64 n, .int .i64 lo, .int .i64 hi] w fun e w' => e = .returned (.int .i64 (offV n lo hi)) ∧ w = w' := by
  have E1 : IntKind.i64.wrap (lo - n) = lo - n := IntWalk.i64_in _ (by omega)
  have E3 : IntKind.i64.wrap (n - hi) = n - hi := IntWalk.i64_in _ (by omega)
  have E2 : wrap64 (lo - n) = lo - n := by rw [← IntWalk.i64_left]; exact E1
  have E4 : wrap64 (n - hi) = n - hi := by rw [← IntWalk.i64_left]; exact E3
  obtain ⟨V, hV⟩ : ∃ V, max (max (lo - n) (n - hi)) 0 = V := ⟨_, rfl⟩
  have HV := Lib.hid (show offV n lo hi = V by unfold offV; omega)
  have hmax : ∀ (W : World), (Builtin.max_ #[2, 2, 2] 2 #[.int .i64 (lo - n), .int .i64 (n - hi), .int .i64 0]).run Try.prog W = .ok (.int .i64 V) W := fun W => by rw [run_max3, hV]
  rw [HV.out]
  clear h1 h2 h3 hV HV
  go_enter Try.func55, Try.ntmps55
  go_wp2
  go_ret
  exact ⟨rfl, rfl⟩
set_option maxRecDepth 100000 in
set_option maxHeartbeats 8000000 in
theorem outsideMI {ca : Nat} (A : Option Addr) (na : Nat) (fa : Nat → P3) (ea : Nat → Option Addr) (en ec : Nat → Nat) (eg : Nat → Nat → Int) (w : World) (pa : PtsAt w A na fa) (hnum : ∀ k, k < 4 → NumAt w (ea k) (en k) (eg k)) (va : okQ na fa = true) (ve : okE en eg = true) (hne : na = en 0) :
    Calls Try.prog 37 #[.agg #[.slice (ea 0) (en 0) (ec 0), .slice (ea 1) (en 1) (ec 1), .slice (ea 2) (en 2) (ec 2), .slice (ea 3) (en 3) (ec 3)], .slice A na ca] w fun e w' => e = .returned (.int .i64 (outG fa eg na)) ∧ Below w.heap.size w w' := by
  obtain ⟨a1, a2, a3⟩ := okQ_of va
  obtain ⟨-, ⟨q1, q2, q3⟩, qr⟩ := okE_of ve
  have B0 := Lib.hid (below_alloc1 w (.cells #[.slice (ea 0) (en 0) (ec 0), .slice (ea 1) (en 1) (ec 1), .slice (ea 2) (en 2) (ec 2), .slice (ea 3) (en 3) (ec 3)] 77))
  have HPA := Lib.hid (pa.kept B0.out)
  have HEN := Lib.hid (env_box (ec := ec) hnum)
  have HL := Lib.hid (show en 0 = na ∧ en 1 = na ∧ en 2 = na ∧ en 3 = na by omega)
  have HR := Lib.hid (show ∀ i, i < na → (0 ≤ eg 0 i ∧ eg 0 i ≤ eg 1 i ∧ eg 1 i ≤ 255) ∧ (0 ≤ eg 2 i ∧ eg 2 i ≤ eg 3 i ∧ eg 3 i ≤ 255) from fun i hi => qr i (by omega))
  have HI := Lib.hid (fun i (hi : i < na) => inF_of (a3 i hi))
  have hone : ∀ i, i < na → 0 ≤ offG fa eg i ∧ offG fa eg i ≤ 510 := fun i hi => by
    have x1 := HI.out i hi
    have x2 := HR.out i hi
    have y1 := off_in (n := (fa i).1) (lo := eg 0 i) (hi := eg 1 i) (by omega) (by omega) (by omega)
    have y2 := off_in (n := (fa i).2.1) (lo := eg 2 i) (hi := eg 3 i) (by omega) (by omega) (by omega)
    unfold offG; omega
  have HIN := Lib.hid (fun n (hn : n ≤ na) => out_in (n := n) fun i hi => hone i (by omega))
  have HON := Lib.hid hone
  obtain ⟨G, hG⟩ : ∃ G, outG fa eg = G := ⟨_, rfl⟩
  have HG := Lib.hid (show G 0 = 0 ∧ ∀ x, G (x + 1) = G x + offG fa eg x by rw [← hG]; exact ⟨rfl, fun _ => rfl⟩)
  rw [hG] at HIN ⊢
  have hmx : Try.prog.follows .mixedOrders = true := by kernel_rfl
  clear pa hnum va ve hne a3 q1 q2 q3 qr hone hG
  obtain ⟨w0, hw0⟩ : ∃ v, v = w.alloc (.cells #[.slice (ea 0) (en 0) (ec 0), .slice (ea 1) (en 1) (ec 1), .slice (ea 2) (en 2) (ec 2), .slice (ea 3) (en 3) (ec 3)] 77) := ⟨_, rfl⟩
  rw [← hw0] at B0 HPA HEN
  go_enter Try.func37, Try.ntmps37
  have hw0' := Lib.hid hw0
  go_wp2
  rw [← hw0'.out]
  clear hw0 hw0'
  have HZ := Lib.hid B0.out.size
  generalize hBB : w.heap.size = B at *
  have HBB := Lib.hid hBB
  clear hBB
  go_loopw [5, 10] (fun s i w' => ∃ x : Nat, x ≤ na ∧ i = .int .i64 (x : Int) ∧ s = .int .i64 (G x) ∧ Hid (Below w0.heap.size w0 w')) (fun _ i _ => na - (intOf i).toNat)
  case atStart => exact ⟨0, Nat.zero_le _, rfl, by rw [HG.out.1], Lib.hid (Below.refl _ _)⟩
  case round =>
    obtain ⟨x, hx, rfl, rfl, HB⟩ := hrel
    by_cases hlt : x < na
    · have hli : (x : Int) < (na : Int) := by omega
      obtain ⟨g1, o1, rfl, hg1, x0, x1, x2⟩ := (HPA.out.kept HB.out) x hlt
      have BA := Lib.hid (below_alloc1 wr (.cells #[.int .i64 (fa x).1, .int .i64 (fa x).2.1, .int .i64 (fa x).2.2] 46))
      have K0 := Lib.hid (heap_alloc_new wr (.cells #[.int .i64 (fa x).1, .int .i64 (fa x).2.1, .int .i64 (fa x).2.2] 46))
      have E := HEN.out.kept (HB.out.trans (BA.out.mono HB.out.size))
      obtain ⟨wA, hwA⟩ : ∃ v, v = wr.alloc (.cells #[.int .i64 (fa x).1, .int .i64 (fa x).2.1, .int .i64 (fa x).2.2] 46) := ⟨_, rfl⟩
      rw [← hwA] at BA K0 E
      obtain ⟨l0, l1, l2, l3⟩ := HL.out
      have hBl := E.lt
      have c0 := E.cells 0 (by omega)
      have c1 := E.cells 1 (by omega)
      have c2 := E.cells 2 (by omega)
      have c3 := E.cells 3 (by omega)
      obtain ⟨b0, o0, e0, hb0, v0⟩ := E.nums 0 (by omega) x (by omega)
      obtain ⟨b1, p1, e1, hb1, v1⟩ := E.nums 1 (by omega) x (by omega)
      obtain ⟨b2, p2, e2, hb2, v2⟩ := E.nums 2 (by omega) x (by omega)
      obtain ⟨b3, p3, e3, hb3, v3⟩ := E.nums 3 (by omega) x (by omega)
      rw [e0, l0] at c0
      rw [e1, l1] at c1
      rw [e2, l2] at c2
      rw [e3, l3] at c3
      clear E e0 e1 e2 e3 l0 l1 l2 l3
      have i1 := HI.out x hlt
      have i2 := HR.out x hlt
      have i3 := HIN.out x (by omega)
      have i4 := HIN.out (x + 1) (by omega)
      have HN := Lib.hid (show G x + (offV (fa x).1 (eg 0 x) (eg 1 x) + offV (fa x).2.1 (eg 2 x) (eg 3 x)) = G (x + 1) by rw [HG.out.2 x]; rfl)
      have y1 := off_in (n := (fa x).1) (lo := eg 0 x) (hi := eg 1 x) (by omega) (by omega) (by omega)
      have y2 := off_in (n := (fa x).2.1) (lo := eg 2 x) (hi := eg 3 x) (by omega) (by omega) (by omega)
      have H1 := Lib.hid (fun W => offI (fa x).1 (eg 0 x) (eg 1 x) W (by omega) (by omega) (by omega))
      have H2 := Lib.hid (fun W => offI (fa x).2.1 (eg 2 x) (eg 3 x) W (by omega) (by omega) (by omega))
      obtain ⟨S, hS⟩ : ∃ S, G x = S := ⟨_, rfl⟩
      obtain ⟨S2, hS2⟩ : ∃ S, G (x + 1) = S := ⟨_, rfl⟩
      obtain ⟨O1, hO1⟩ : ∃ O, offV (fa x).1 (eg 0 x) (eg 1 x) = O := ⟨_, rfl⟩
      obtain ⟨O2, hO2⟩ : ∃ O, offV (fa x).2.1 (eg 2 x) (eg 3 x) = O := ⟨_, rfl⟩
      rw [hS] at i3 HN ⊢
      rw [hS2] at i4 HN
      rw [hO1] at HN H1 y1
      rw [hO2] at HN H2 y2
      have E1 : IntKind.i64.wrap (O1 + O2) = O1 + O2 := IntWalk.i64_in _ (by omega)
      have E2 : IntKind.i64.wrap (S + (O1 + O2)) = S2 := by rw [HN.out]; exact IntWalk.i64_in _ (by omega)
      have HS2 := Lib.hid hS2
      clear hS hS2 hO1 hO2 HN i1 i2 i3 i4 y1 y2
      have F1 : wrap64 (O1 + O2) = O1 + O2 := by rw [← IntWalk.i64_left]; exact E1
      have F2 : wrap64 (S + (O1 + O2)) = S2 := by rw [← IntWalk.i64_left]; exact E2
      have hms : na - (x + 1) < na - x := by omega
      have hx1 : x + 1 ≤ na := by omega
      generalize (fa x).1 = X at *
      generalize (fa x).2.1 = Y at *
      generalize (fa x).2.2 = Z at *
      generalize eg 0 x = L0 at *
      generalize eg 1 x = L1 at *
      generalize eg 2 x = L2 at *
      generalize eg 3 x = L3 at *
      have A0 := cell_kept (w := wA) (a := ⟨wr.heap.size, 0, none⟩) (v := .int .i64 X) (block_size K0.out) (by rw [cell_of_block K0.out]; rfl)
      have A1 := cell_kept (w := wA) (a := ⟨wr.heap.size, 1, none⟩) (v := .int .i64 Y) (block_size K0.out) (by rw [cell_of_block K0.out]; rfl)
      have C0 := cell_kept (a := ⟨B, 0, none⟩) hBl c0
      have C1 := cell_kept (a := ⟨B, 1, none⟩) hBl c1
      have C2 := cell_kept (a := ⟨B, 2, none⟩) hBl c2
      have C3 := cell_kept (a := ⟨B, 3, none⟩) hBl c3
      have D0 := cell_kept (a := ⟨b0, o0 + x, none⟩) hb0 v0
      have D1 := cell_kept (a := ⟨b1, p1 + x, none⟩) hb1 v1
      have D2 := cell_kept (a := ⟨b2, p2 + x, none⟩) hb2 v2
      have D3 := cell_kept (a := ⟨b3, p3 + x, none⟩) hb3 v3
      clear c0 c1 c2 c3 v0 v1 v2 v3 hBl hb0 hb1 hb2 hb3
      have hwA' := Lib.hid hwA
      clear hwA
      go_wp2
      rw [← hwA'.out]
      clear x0 x1 x2 hg1 hwA'
      refine wp_region_quiet_kept (by assumption) (by kernel_rfl) ?_
      repeat (first | go_big_quiet_step (((go_at_call 55; first | with_reducible exact Calls.kept_of (still_b (H1.out _)) | with_reducible exact Calls.kept_of (still_b (H2.out _))))) | quiet_step (((go_at_call 55; first | with_reducible exact Calls.kept_of (still_b (H1.out _)) | with_reducible exact Calls.kept_of (still_b (H2.out _))))))
      refine wpQuiet_nil ?_
      intro w4 hw'
      have hB : Below wA.heap.size wA w4 := by obtain ⟨⟨wk, hb0⟩, hw''⟩ := hw'; rw [hw'']; exact hb0
      have HB4 := Lib.hid (HB.out.trans ((BA.out.trans (hB.mono BA.out.size)).mono HB.out.size))
      clear hw' hB A0 A1 C0 C1 C2 C3 D0 D1 D2 D3 E1 E2 F1 F2 H1 H2
      go_wp2
      go_roundw
      case rel => exact ⟨x + 1, hx1, by go_num, by rw [HS2.out], HB4⟩
      case measure => simp [intOf]; omega
    · have hxe := Lib.hid (show x = na by omega)
      have hxn : ¬ (x : Int) < (na : Int) := by omega
      have HGX := Lib.hid (show G x = G na by rw [hxe.out])
      clear hlt
      go_wp2
      go_ret
      exact ⟨by rw [← HGX.out]; rfl, by rw [HBB.out]; exact B0.out.trans (HB.out.mono HZ.out)⟩
end Go.Proofs.Ytkcfghbkcgommab.env
