/-
  Proved: what the document's functions that tell how far a list is outside of an envelope return.
  Conditions: none.
-/
import Derived.Test.YthpmckfjlbiiiaaEnvOk
namespace Go.Proofs.Ythpmckfjlbiiiaa.env
open Go.ChangeShapes Go.WideShapes Go.ChangeAt Go.RowKit Go.Joins
open Go.Proofs.Ythpmckfjlbiiiaa.core Go.Proofs.Ythpmckfjlbiiiaa.rown Go.Proofs.Ythpmckfjlbiiiaa.stk Go.Proofs.Ythpmckfjlbiiiaa.boxed Go.Proofs.Ythpmckfjlbiiiaa.ft Go.Proofs.Ythpmckfjlbiiiaa.seq
set_option linter.unusedVariables false
set_option linter.unusedSimpArgs false
def offG (fa : Nat → P3) (eg : Nat → Nat → Int) (i : Nat) : Int := offV (fa i).1 (eg 0 i) (eg 1 i) + offV (fa i).2.1 (eg 2 i) (eg 3 i)
def outG (fa : Nat → P3) (eg : Nat → Nat → Int) : Nat → Int
  | 0 => 0
  | n + 1 => outG fa eg n + offG fa eg n
theorem okE_of {en : Nat → Nat} {eg : Nat → Nat → Int} (h : okE en eg = true) : (1 ≤ en 0 ∧ en 0 ≤ 72) ∧ (en 1 = en 0 ∧ en 2 = en 0 ∧ en 3 = en 0) ∧ ∀ i, i < en 0 → (0 ≤ eg 0 i ∧ eg 0 i ≤ eg 1 i ∧ eg 1 i ≤ 255) ∧ (0 ≤ eg 2 i ∧ eg 2 i ≤ eg 3 i ∧ eg 3 i ≤ 255) := by
  unfold okE at h
  rw [Bool.and_eq_true, Bool.and_eq_true] at h
  obtain ⟨⟨h1, h2⟩, h3⟩ := h
  have h3 := of_decide_eq_true h3
  obtain ⟨e1, r1, q1⟩ := bnd_of h1
  obtain ⟨e2, r2, q2⟩ := bnd_of h2
  refine ⟨r1, ⟨e1.symm, h3.symm, by omega⟩, fun i hi => ?_⟩
  have a := q1 i hi
  have b := q2 i (by omega)
  omega
theorem out_in {fa : Nat → P3} {eg : Nat → Nat → Int} : ∀ {n}, (∀ i, i < n → 0 ≤ offG fa eg i ∧ offG fa eg i ≤ 510) → 0 ≤ outG fa eg n ∧ outG fa eg n ≤ 510 * (n : Int)
  | 0, _ => by unfold outG; omega
  | n + 1, h => by
    have h1 := out_in (n := n) fun i hi => h i (by omega)
    have h2 := h n (by omega)
    unfold outG; omega
set_option maxRecDepth 100000 in
set_option maxHeartbeats 8000000 in
theorem outsideS {ca : Nat} (A : Option Addr) (na : Nat) (fa : Nat → P3) (B : Nat) (ea : Nat → Option Addr) (en ec : Nat → Nat) (eg : Nat → Nat → Int) (w : World) (pa : PtsAt w A na fa) (he : EnvAt w B ea en ec eg) (va : okQ na fa = true) (ve : okE en eg = true) (hne : na = en 0) :
    Calls Try.prog 68 #[.slice A na ca, .pointer (some ⟨B, 0, none⟩)] w fun e w' => e = .returned (.int .i64 (outG fa eg na)) ∧ Below w.heap.size w w' := by
  obtain ⟨a1, a2, a3⟩ := okQ_of va
  obtain ⟨-, ⟨q1, q2, q3⟩, qr⟩ := okE_of ve
  have HPA := Lib.hid pa
  have HEN := Lib.hid he
  have HL := Lib.hid (show en 0 = na ∧ en 1 = na ∧ en 2 = na ∧ en 3 = na by omega)
  have HR := Lib.hid (show ∀ i, i < na → (0 ≤ eg 0 i ∧ eg 0 i ≤ eg 1 i ∧ eg 1 i ≤ 255) ∧ (0 ≤ eg 2 i ∧ eg 2 i ≤ eg 3 i ∧ eg 3 i ≤ 255) from fun i hi => qr i (by omega))
  have HI := Lib.hid (fun i (hi : i < na) => inF_of (a3 i hi))
  have hone : ∀ i, i < na → 0 ≤ offG fa eg i ∧ offG fa eg i ≤ 510 := fun i hi => by
    have x1 := HI.out i hi
    have x2 := HR.out i hi
    have y1 := off_in (n := (fa i).1) (lo := eg 0 i) (hi := eg 1 i) (by omega) (by omega) (by omega)
    have y2 := off_in (n := (fa i).2.1) (lo := eg 2 i) (hi := eg 3 i) (by omega) (by omega) (by omega)
    unfold offG; omega
  have HIN := Lib.hid (fun n (hn : n ≤ na) => out_in (n := n) fun i hi => hone i (by omega))
  have HON := Lib.hid hone
  obtain ⟨G, hG⟩ : ∃ G, outG fa eg = G := ⟨_, rfl⟩
  have HG := Lib.hid (show G 0 = 0 ∧ ∀ x, G (x + 1) = G x + offG fa eg x by rw [← hG]; exact ⟨rfl, fun _ => rfl⟩)
  rw [hG] at HIN ⊢
  have hmx : Try.prog.follows .mixedOrders = true := by kernel_rfl
  clear pa he va ve hne a3 q1 q2 q3 qr hone hG
  go_enter Try.func68, Try.ntmps68
  go_wp2
  go_loopw [5, 6] (fun s i w' => ∃ x : Nat, x ≤ na ∧ i = .int .i64 (x : Int) ∧ s = .int .i64 (G x) ∧ Hid (Below w.heap.size w w')) (fun _ i _ => na - (intOf i).toNat)
  case atStart => exact ⟨0, Nat.zero_le _, rfl, by rw [HG.out.1], Lib.hid (Below.refl _ _)⟩
  case round =>
    obtain ⟨x, hx, rfl, rfl, HB⟩ := hrel
    by_cases hlt : x < na
    · have hli : (x : Int) < (na : Int) := by omega
      obtain ⟨g1, o1, rfl, hg1, x0, x1, -⟩ := (HPA.out.kept HB.out) x hlt
      have E := HEN.out.kept HB.out
      obtain ⟨l0, l1, l2, l3⟩ := HL.out
      have hBl := E.lt
      have c0 := E.cells 0 (by omega)
      have c1 := E.cells 1 (by omega)
      have c2 := E.cells 2 (by omega)
      have c3 := E.cells 3 (by omega)
      obtain ⟨b0, o0, e0, hb0, v0⟩ := E.nums 0 (by omega) x (by omega)
      obtain ⟨b1, p1, e1, hb1, v1⟩ := E.nums 1 (by omega) x (by omega)
      obtain ⟨b2, p2, e2, hb2, v2⟩ := E.nums 2 (by omega) x (by omega)
      obtain ⟨b3, p3, e3, hb3, v3⟩ := E.nums 3 (by omega) x (by omega)
      rw [e0, l0] at c0
      rw [e1, l1] at c1
      rw [e2, l2] at c2
      rw [e3, l3] at c3
      clear E e0 e1 e2 e3 l0 l1 l2 l3
      have i1 := HI.out x hlt
      have i2 := HR.out x hlt
      have i3 := HIN.out x (by omega)
      have i4 := HIN.out (x + 1) (by omega)
      have HN := Lib.hid (show G x + (offV (fa x).1 (eg 0 x) (eg 1 x) + offV (fa x).2.1 (eg 2 x) (eg 3 x)) = G (x + 1) by rw [HG.out.2 x]; rfl)
      have y1 := off_in (n := (fa x).1) (lo := eg 0 x) (hi := eg 1 x) (by omega) (by omega) (by omega)
      have y2 := off_in (n := (fa x).2.1) (lo := eg 2 x) (hi := eg 3 x) (by omega) (by omega) (by omega)
      have H1 := Lib.hid (fun W => offS (fa x).1 (eg 0 x) (eg 1 x) W (by omega) (by omega) (by omega))
      have H2 := Lib.hid (fun W => offS (fa x).2.1 (eg 2 x) (eg 3 x) W (by omega) (by omega) (by omega))
      obtain ⟨S, hS⟩ : ∃ S, G x = S := ⟨_, rfl⟩
      obtain ⟨S2, hS2⟩ : ∃ S, G (x + 1) = S := ⟨_, rfl⟩
      obtain ⟨O1, hO1⟩ : ∃ O, offV (fa x).1 (eg 0 x) (eg 1 x) = O := ⟨_, rfl⟩
      obtain ⟨O2, hO2⟩ : ∃ O, offV (fa x).2.1 (eg 2 x) (eg 3 x) = O := ⟨_, rfl⟩
      rw [hS] at i3 HN ⊢
      rw [hS2] at i4 HN
      rw [hO1] at HN H1 y1
      rw [hO2] at HN H2 y2
      have E1 : IntKind.i64.wrap (O1 + O2) = O1 + O2 := IntWalk.i64_in _ (by omega)
      have E2 : IntKind.i64.wrap (S + (O1 + O2)) = S2 := by rw [HN.out]; exact IntWalk.i64_in _ (by omega)
      have HS2 := Lib.hid hS2
      clear hS hS2 hO1 hO2 HN i1 i2 i3 i4 y1 y2
      have F1 : wrap64 (O1 + O2) = O1 + O2 := by rw [← IntWalk.i64_left]; exact E1
      have F2 : wrap64 (S + (O1 + O2)) = S2 := by rw [← IntWalk.i64_left]; exact E2
      have hms : na - (x + 1) < na - x := by omega
      have hx1 : x + 1 ≤ na := by omega
      generalize (fa x).1 = X at *
      generalize (fa x).2.1 = Y at *
      generalize eg 0 x = L0 at *
      generalize eg 1 x = L1 at *
      generalize eg 2 x = L2 at *
      generalize eg 3 x = L3 at *
      have A0 := cell_kept (a := ⟨g1, o1 + x * 3, none⟩) hg1 x0
      have A1 := cell_kept (a := ⟨g1, o1 + x * 3 + 1, none⟩) hg1 x1
      have C0 := cell_kept (a := ⟨B, 0, none⟩) hBl c0
      have C1 := cell_kept (a := ⟨B, 1, none⟩) hBl c1
      have C2 := cell_kept (a := ⟨B, 2, none⟩) hBl c2
      have C3 := cell_kept (a := ⟨B, 3, none⟩) hBl c3
      have D0 := cell_kept (a := ⟨b0, o0 + x, none⟩) hb0 v0
      have D1 := cell_kept (a := ⟨b1, p1 + x, none⟩) hb1 v1
      have D2 := cell_kept (a := ⟨b2, p2 + x, none⟩) hb2 v2
      have D3 := cell_kept (a := ⟨b3, p3 + x, none⟩) hb3 v3
      clear x0 x1 c0 c1 c2 c3 v0 v1 v2 v3 hg1 hBl hb0 hb1 hb2 hb3
      go_wp2
      refine wp_region_quiet_kept (by assumption) (by kernel_rfl) ?_
      repeat (first | go_big_quiet_step (((go_at_call 99; first | with_reducible exact Calls.kept_of (still_b (H1.out _)) | with_reducible exact Calls.kept_of (still_b (H2.out _))))) | quiet_step (((go_at_call 99; first | with_reducible exact Calls.kept_of (still_b (H1.out _)) | with_reducible exact Calls.kept_of (still_b (H2.out _))))))
      refine wpQuiet_nil ?_
      intro w4 hw'
      have hB : Below wr.heap.size wr w4 := by obtain ⟨⟨wk, hb0⟩, hw''⟩ := hw'; rw [hw'']; exact hb0
      have HB4 := Lib.hid (HB.out.trans (hB.mono HB.out.size))
      clear hw' hB A0 A1 C0 C1 C2 C3 D0 D1 D2 D3 E1 E2 F1 F2 H1 H2
      go_wp2
      go_roundw
      case rel => exact ⟨x + 1, hx1, by go_num, by rw [HS2.out], HB4⟩
      case measure => simp [intOf]; omega
    · have hxe := Lib.hid (show x = na by omega)
      have hxn : ¬ (x : Int) < (na : Int) := by omega
      have HGX := Lib.hid (show G x = G na by rw [hxe.out])
      clear hlt
      go_wp2
      go_ret
      exact ⟨by rw [← HGX.out]; rfl, HB.out⟩
/-- The code and the answer. -/
noncomputable def outC (na : Nat) (fa : Nat → P3) (en : Nat → Nat) (eg : Nat → Nat → Int) : Int := if okQ na fa = true ∧ okE en eg = true then (if na = en 0 then 0 else 2) else 1
noncomputable def outR (na : Nat) (fa : Nat → P3) (en : Nat → Nat) (eg : Nat → Nat → Int) : Int := if outC na fa en eg = 0 then outG fa eg na else 0
theorem outC_of {na : Nat} {fa : Nat → P3} {en : Nat → Nat} {eg : Nat → Nat → Int} (h : outC na fa en eg = 0) : okQ na fa = true ∧ okE en eg = true ∧ na = en 0 := by
  unfold outC at h
  split at h
  · rename_i h1
    split at h
    · rename_i h2; exact ⟨h1.1, h1.2, h2⟩
    · cases h
  · cases h
set_option maxRecDepth 100000 in
set_option maxHeartbeats 4000000 in
theorem outsideOfS {ca : Nat} (A : Option Addr) (na : Nat) (fa : Nat → P3) (ea : Nat → Option Addr) (en ec : Nat → Nat) (eg : Nat → Nat → Int) (w : World) (ha : na ≤ 1048576) (hn : ∀ k, k < 4 → en k ≤ 1048576) (pa : PtsAt w A na fa) (h : ∀ k, k < 4 → NumAt w (ea k) (en k) (eg k)) :
    Calls Try.prog 27 #[.slice A na ca, .agg #[.slice (ea 0) (en 0) (ec 0), .slice (ea 1) (en 1) (ec 1), .slice (ea 2) (en 2) (ec 2), .slice (ea 3) (en 3) (ec 3)]] w fun e w' => e = .returned (.tuple #[.int .i64 (outR na fa en eg), .int .i64 (outC na fa en eg)]) ∧ Below w.heap.size w w' := by
  have HE := Lib.hid (env_box (ec := ec) h)
  have HB := Lib.hid (below_alloc1 w (.cells #[.slice (ea 0) (en 0) (ec 0), .slice (ea 1) (en 1) (ec 1), .slice (ea 2) (en 2) (ec 2), .slice (ea 3) (en 3) (ec 3)] 26))
  have HP := Lib.hid (pa.kept HB.out)
  have HQ := Lib.hid (okQS (c := ca) A na fa _ ha HP.out)
  have HN := Lib.hid hn
  clear pa h hn
  cases va : okQ na fa with
  | false =>
    have hC : outC na fa en eg = 1 := by unfold outC; rw [if_neg (fun h => by rw [va] at h; cases h.1)]
    have HR := Lib.hid (show outR na fa en eg = 0 by unfold outR; rw [hC]; rfl)
    rw [va] at HQ
    rw [HR.out, hC]
    clear hC HR va
    go_enter Try.func27, Try.ntmps27
    go_wp2_with fail
    refine HQ.out.mono ?_
    rintro e w1 ⟨rfl, hb⟩
    have B1 := Lib.hid (HB.out.trans (hb.mono HB.out.size))
    clear hb
    go_wp2
    go_ret2
    exact ⟨rfl, B1.out⟩
  | true =>
    rw [va] at HQ
    cases ve : okE en eg with
    | false =>
      have hC : outC na fa en eg = 1 := by unfold outC; rw [if_neg (fun h => by rw [ve] at h; cases h.2)]
      have HR := Lib.hid (show outR na fa en eg = 0 by unfold outR; rw [hC]; rfl)
      rw [HR.out, hC]
      have HO := Lib.hid (fun W hW => okES w.heap.size ea en ec eg W HN.out hW)
      rw [ve] at HO
      clear hC HR va ve
      go_enter Try.func27, Try.ntmps27
      go_wp2_with fail
      refine HQ.out.mono ?_
      rintro e w1 ⟨rfl, hb⟩
      have B1 := Lib.hid (HB.out.trans (hb.mono HB.out.size))
      have HO1 := Lib.hid (HO.out w1 (HE.out.kept hb))
      clear hb
      go_wp2_with fail
      refine HO1.out.mono ?_
      rintro e w2 ⟨rfl, hb⟩
      have B2 := Lib.hid (B1.out.trans (hb.mono B1.out.size))
      clear hb
      go_wp2
      go_ret2
      exact ⟨rfl, B2.out⟩
    | true =>
      have HO := Lib.hid (fun W hW => okES w.heap.size ea en ec eg W HN.out hW)
      rw [ve] at HO
      by_cases hne : na = en 0
      · have hC : outC na fa en eg = 0 := by unfold outC; rw [if_pos ⟨va, ve⟩, if_pos hne]
        have HR := Lib.hid (show outR na fa en eg = outG fa eg na by unfold outR; rw [if_pos hC])
        rw [HR.out, hC]
        have HS := Lib.hid (fun W hA hW => outsideS (ca := ca) A na fa w.heap.size ea en ec eg W hA hW va ve hne)
        have hd : decide ((na : Int) = (en 0 : Int)) = true := decide_eq_true (by omega)
        have hd2 : (na : Int) = (en 0 : Int) := by omega
        clear hC HR va ve hne
        generalize outG fa eg na = R at *
        go_enter Try.func27, Try.ntmps27
        go_wp2_with fail
        refine HQ.out.mono ?_
        rintro e w1 ⟨rfl, hb⟩
        have B1 := Lib.hid (HB.out.trans (hb.mono HB.out.size))
        have E1 := Lib.hid (HE.out.kept hb)
        have P1 := Lib.hid (HP.out.kept hb)
        have HO1 := Lib.hid (HO.out w1 E1.out)
        clear hb
        go_wp2_with fail
        refine HO1.out.mono ?_
        rintro e w2 ⟨rfl, hb⟩
        have B2 := Lib.hid (B1.out.trans (hb.mono B1.out.size))
        have E2 := Lib.hid (E1.out.kept hb)
        have P2 := Lib.hid (P1.out.kept hb)
        have HS2 := Lib.hid (HS.out w2 P2.out E2.out)
        have c0 := E2.out.cells 0 (by omega)
        have hl := E2.out.lt
        clear hb
        go_wp2_with fail
        refine HS2.out.mono ?_
        rintro e w3 ⟨rfl, hb⟩
        have B3 := Lib.hid (B2.out.trans (hb.mono B2.out.size))
        clear hb
        go_wp2
        go_ret2
        exact ⟨rfl, B3.out⟩
      · have hC : outC na fa en eg = 2 := by unfold outC; rw [if_pos ⟨va, ve⟩, if_neg hne]
        have HR := Lib.hid (show outR na fa en eg = 0 by unfold outR; rw [hC]; rfl)
        rw [HR.out, hC]
        have hd : decide ((na : Int) = (en 0 : Int)) = false := decide_eq_false (by omega)
        have hd2 : ¬ (na : Int) = (en 0 : Int) := by omega
        clear hC HR va ve hne
        go_enter Try.func27, Try.ntmps27
        go_wp2_with fail
        refine HQ.out.mono ?_
        rintro e w1 ⟨rfl, hb⟩
        have B1 := Lib.hid (HB.out.trans (hb.mono HB.out.size))
        have E1 := Lib.hid (HE.out.kept hb)
        have HO1 := Lib.hid (HO.out w1 E1.out)
        clear hb
        go_wp2_with fail
        refine HO1.out.mono ?_
        rintro e w2 ⟨rfl, hb⟩
        have B2 := Lib.hid (B1.out.trans (hb.mono B1.out.size))
        have E2 := Lib.hid (E1.out.kept hb)
        have c0 := E2.out.cells 0 (by omega)
        have hl := E2.out.lt
        clear hb
        go_wp2
        go_ret2
        exact ⟨rfl, B2.out⟩
end Go.Proofs.Ythpmckfjlbiiiaa.env
