/-
  Proved: what the document's function that matches a sequence with a part of another one returns.
  Conditions: none.
-/
import Derived.Test.YtgbelodobgmlbaaElas
namespace Go.Proofs.Ytgbelodobgmlbaa.tab
open Go.ChangeShapes Go.WideShapes Go.ChangeAt Go.RowKit Go.Joins
open Go.Proofs.Ytgbelodobgmlbaa.core Go.Proofs.Ytgbelodobgmlbaa.rown Go.Proofs.Ytgbelodobgmlbaa.stk Go.Proofs.Ytgbelodobgmlbaa.boxed Go.Proofs.Ytgbelodobgmlbaa.ft Go.Proofs.Ytgbelodobgmlbaa.seq
set_option linter.unusedVariables false
set_option linter.unusedSimpArgs false
/-- A part of a list. -/
def shift (fb : Nat → P3) (x : Nat) : Nat → P3 := fun j => fb (x + j)
theorem shift_at {w : World} {g o nb x e : Nat} {fb : Nat → P3} (h : PtsAt w (some ⟨g, o, none⟩) nb fb) (he : e ≤ nb) : PtsAt w (some ⟨g, o + x * 3, none⟩) (e - x) (shift fb x) := fun i hi => by
  obtain ⟨b, o', e1, h1, h2, h3, h4⟩ := h (x + i) (by omega)
  injection e1 with e1
  injection e1 with e1 e2
  subst e1 e2
  rw [show o + (x + i) * 3 = o + x * 3 + i * 3 by omega] at h2 h3 h4
  exact ⟨g, o + x * 3, rfl, h1, h2, h3, h4⟩
theorem shift_ok {nb x e : Nat} {fb : Nat → P3} (h : okQ nb fb = true) (hx : x < e) (he : e ≤ nb) : okQ (e - x) (shift fb x) = true := by
  obtain ⟨h1, h2, h3⟩ := okQ_of h
  exact okQ_true (by omega) (by omega) fun i hi => h3 _ (by omega)
/-- The cost of the part from x to e. -/
def partC (na : Nat) (fa fb : Nat → P3) (x e : Nat) : Int := leastE na (e - x) fa (shift fb x) 72
/-- The best part so far: its cost and its ends. -/
def pin (na : Nat) (fa fb : Nat → P3) (e : Nat) (s : Int × Nat × Nat) : Nat → Int × Nat × Nat
  | 0 => s
  | c + 1 => if partC na fa fb (e - 1 - c) e < (pin na fa fb e s c).1 then (partC na fa fb (e - 1 - c) e, e - 1 - c, e) else pin na fa fb e s c
def pout (na : Nat) (fa fb : Nat → P3) : Nat → Int × Nat × Nat
  | 0 => (far, 0, 0)
  | e + 1 => pin na fa fb (e + 1) (pout na fa fb e) (e + 1)
noncomputable def partOk (na nb : Nat) (fa fb : Nat → P3) : Bool := okQ na fa && okQ nb fb
set_option maxRecDepth 100000 in
set_option maxHeartbeats 4000000 in
theorem partS_no {ca cb : Nat} (A B : Option Addr) (na nb : Nat) (fa fb : Nat → P3) (w : World) (ha : na ≤ 1048576) (hb : nb ≤ 1048576) (pa : PtsAt w A na fa) (pb : PtsAt w B nb fb) (hv : partOk na nb fa fb = false) :
    Calls Try.prog 39 #[.slice A na ca, .slice B nb cb] w fun e w' => e = .returned (.tuple #[.int .i64 0, .int .i64 0, .int .i64 0, .int .i64 1]) ∧ Below w.heap.size w w' := by
  have HA := Lib.hid (okQS (c := ca) A na fa w ha pa)
  have HPB := Lib.hid pb
  clear pa pb
  unfold partOk at hv
  cases va : okQ na fa with
  | false =>
    rw [va] at HA
    clear va hv
    have hu : undef = Value.tuple #[] := rfl
    go_enter Try.func39, Try.ntmps39
    go_wp2_with fail
    refine HA.out.mono ?_
    rintro e w1 ⟨rfl, hb⟩
    have B1 := Lib.hid hb
    clear hb
    go_wp2
    exact bodyPost_ret (v := .tuple #[.int .i64 0, .int .i64 0, .int .i64 0, .int .i64 1]) (by simp [results, Try.results39, go_sem]) rfl ⟨rfl, B1.out⟩
  | true =>
    rw [va] at HA hv
    rw [Bool.true_and] at hv
    have HQ := Lib.hid (fun W hW => okQS (c := cb) B nb fb W hb hW)
    rw [hv] at HQ
    clear va hv
    go_enter Try.func39, Try.ntmps39
    go_wp2_with fail
    refine HA.out.mono ?_
    rintro e w1 ⟨rfl, hb1⟩
    have B1 := Lib.hid hb1
    have HQ1 := Lib.hid (HQ.out w1 (HPB.out.kept hb1))
    clear hb1
    go_wp2_with fail
    refine HQ1.out.mono ?_
    rintro e w2 ⟨rfl, hb2⟩
    have B2 := Lib.hid (B1.out.trans (hb2.mono B1.out.size))
    clear hb2
    go_wp2
    exact bodyPost_ret (v := .tuple #[.int .i64 0, .int .i64 0, .int .i64 0, .int .i64 1]) (by simp [results, Try.results39, go_sem]) rfl ⟨rfl, B2.out⟩
set_option maxRecDepth 100000 in
set_option maxHeartbeats 8000000 in
theorem partS_yes {ca cb : Nat} (A B : Option Addr) (na nb : Nat) (fa fb : Nat → P3) (w : World) (hcb : nb ≤ cb) (pa : PtsAt w A na fa) (pb : PtsAt w B nb fb) (hv : partOk na nb fa fb = true) :
    Calls Try.prog 39 #[.slice A na ca, .slice B nb cb] w fun e w' => e = .returned (.tuple #[.int .i64 (pout na fa fb nb).1, .int .i64 ((pout na fa fb nb).2.1 : Int), .int .i64 ((pout na fa fb nb).2.2 : Int), .int .i64 0]) ∧ Below w.heap.size w w' := by
  unfold partOk at hv
  obtain ⟨va, vb⟩ := (Bool.and_eq_true _ _).mp hv
  have ba := (okQ_of va).2.1
  have bb := (okQ_of vb).2.1
  have b1 := (okQ_of vb).1
  have HA := Lib.hid (okQS (c := ca) A na fa w (by omega) pa)
  have HQ := Lib.hid (fun W hW => okQS (c := cb) B nb fb W (by omega) hW)
  rw [va] at HA
  rw [vb] at HQ
  have HPA := Lib.hid pa
  obtain ⟨g, o, rfl, -⟩ := pb 0 (by omega)
  have HPB := Lib.hid pb
  have HLE := Lib.hid (fun W hA hB x e hx he => leastS (ca := ca) (cb := cb - x) A (some ⟨g, o + x * 3, none⟩) na (e - x) fa (shift fb x) 72 W hA (shift_at (x := x) hB he) va (shift_ok vb hx he))
  have HCB := Lib.hid hcb
  clear pa pb va vb hv hcb
  obtain ⟨G, hG⟩ : ∃ G, pout na fa fb = G := ⟨_, rfl⟩
  have HG := Lib.hid (show G 0 = (far, 0, 0) ∧ ∀ e, G (e + 1) = pin na fa fb (e + 1) (G e) (e + 1) by rw [← hG]; exact ⟨rfl, fun _ => rfl⟩)
  rw [hG]
  clear hG
  go_enter Try.func39, Try.ntmps39
  go_wp2_with fail
  refine HA.out.mono ?_
  rintro e w1 ⟨rfl, hb1⟩
  have B1 := Lib.hid hb1
  have HQ1 := Lib.hid (HQ.out w1 (HPB.out.kept hb1))
  clear hb1
  go_wp2_with fail
  refine HQ1.out.mono ?_
  rintro e w2 ⟨rfl, hb2⟩
  have B2 := Lib.hid (B1.out.trans (hb2.mono B1.out.size))
  clear hb2 B1 HQ1 HQ HA
  go_wp2
  go_loopw [8, 9, 10, 11] (fun b f t e w' => ∃ x : Nat, x ≤ nb ∧ e = .int .i64 ((x : Int) + 1) ∧ b = .int .i64 (G x).1 ∧ f = .int .i64 ((G x).2.1 : Int) ∧ t = .int .i64 ((G x).2.2 : Int) ∧ Hid (Below w.heap.size w w')) (fun _ _ _ e _ => nb + 1 - (intOf e).toNat)
  case atStart => exact ⟨0, Nat.zero_le _, rfl, by rw [HG.out.1]; rfl, by rw [HG.out.1]; rfl, by rw [HG.out.1]; rfl, B2⟩
  case round =>
    obtain ⟨x, hx, rfl, rfl, rfl, rfl, HB⟩ := hrel
    by_cases hlt : x < nb
    · have hle : (x : Int) + 1 ≤ (nb : Int) := by omega
      have hlx : ((x + 1 : Nat) : Int) ≤ (nb : Int) := by omega
      have hwx : IntKind.i64.wrap (x : Int) = (x : Int) := IntWalk.i64_in _ (by omega)
      obtain ⟨H, hH⟩ : ∃ H, pin na fa fb (x + 1) (G x) = H := ⟨_, rfl⟩
      have HH := Lib.hid (show H 0 = G x ∧ ∀ c, H (c + 1) = if partC na fa fb (x - c) (x + 1) < (H c).1 then (partC na fa fb (x - c) (x + 1), x - c, x + 1) else H c by rw [← hH]; exact ⟨rfl, fun _ => rfl⟩)
      have HGX := Lib.hid (show G (x + 1) = H (x + 1) by rw [HG.out.2, hH])
      clear hH
      go_wp2
      go_loopw [8, 9, 10, 12] (fun b f t z w' => ∃ (c m : Nat) (y : Int), c + m = x + 1 ∧ z = .int .i64 y ∧ y + 1 = (m : Int) ∧ b = .int .i64 (H c).1 ∧ f = .int .i64 ((H c).2.1 : Int) ∧ t = .int .i64 ((H c).2.2 : Int) ∧ Hid (Below w.heap.size w w')) (fun _ _ _ z _ => (intOf z + 1).toNat)
      case atStart => exact ⟨0, x + 1, (x : Int), by omega, rfl, by omega, by rw [HH.out.1], by rw [HH.out.1], by rw [HH.out.1], HB⟩
      case round =>
        obtain ⟨c, m, y, hcm, rfl, hy, rfl, rfl, rfl, HB2⟩ := hrel
        by_cases hm : 0 < m
        · obtain ⟨i, rfl⟩ : ∃ i, m = i + 1 := ⟨m - 1, by omega⟩
          obtain rfl : y = (i : Int) := by omega
          have hcb := HCB.out
          have i1 : (0 : Int) ≤ (i : Int) := by omega
          have i2 : (i : Int) ≤ (x : Int) + 1 := by omega
          have i3 : ¬ ((cb : Int) < (x : Int) + 1) := by omega
          have i4 : (x : Int) + 1 ≤ (cb : Int) := by omega
          have i5 : ¬ cb = i := by omega
          have HC := Lib.hid (HLE.out wr (HPA.out.kept HB2.out) (HPB.out.kept HB2.out) i (x + 1) (by omega) (by omega))
          have hxc : x - c = i := by omega
          have HN := Lib.hid (HH.out.2 c)
          rw [hxc] at HN
          have HNC := Lib.hid (show leastE na (x + 1 - i) fa (shift fb i) 72 = partC na fa fb i (x + 1) from rfl)
          rw [HNC.out] at HC
          obtain ⟨v, hv⟩ : ∃ v, partC na fa fb i (x + 1) = v := ⟨_, rfl⟩
          rw [hv] at HC HN
          have HKM := Lib.hid hcm
          clear hv HNC hcm hxc hy
          obtain ⟨⟨s1, s2, s3⟩, hs⟩ : ∃ s, H c = s := ⟨_, rfl⟩
          have HSS := Lib.hid hs
          rw [hs] at HN ⊢
          simp only at HN ⊢
          clear hs
          go_wp2_with fail
          refine HC.out.mono ?_
          rintro e w3 ⟨rfl, hb3⟩
          have HB3 := Lib.hid (HB2.out.trans (hb3.mono HB2.out.size))
          clear hb3 HC
          by_cases hvs : v < s1
          · have hd : decide (v < s1) = true := decide_eq_true hvs
            have HN2 := Lib.hid (HN.out.trans (if_pos hvs))
            go_wp2
            go_roundw
            case rel => exact ⟨c + 1, i, (i : Int) - 1, by have := HKM.out; omega, by go_num, by omega, by rw [HN2.out], by rw [HN2.out], by rw [HN2.out]; push_cast; rfl, HB3⟩
            case measure => first | (simp [intOf]; done) | (simp [intOf]; omega)
          · have hd : decide (v < s1) = false := decide_eq_false hvs
            have HN2 := Lib.hid (HN.out.trans (if_neg hvs))
            go_wp2
            go_roundw
            case rel => exact ⟨c + 1, i, (i : Int) - 1, by have := HKM.out; omega, by go_num, by omega, by rw [HN2.out], by rw [HN2.out], by rw [HN2.out], HB3⟩
            case measure => first | (simp [intOf]; done) | (simp [intOf]; omega)
        · obtain rfl : m = 0 := by omega
          obtain rfl : y = -1 := by omega
          obtain rfl : c = x + 1 := by omega
          go_wp2
          go_roundw
          case rel => exact ⟨x + 1, by omega, by push_cast; go_num, by rw [HGX.out], by rw [HGX.out], by rw [HGX.out], HB2⟩
          case measure => simp [intOf]; omega
    · obtain rfl : x = nb := by omega
      go_wp2
      exact bodyPost_ret (v := .tuple #[.int .i64 (G x).1, .int .i64 ((G x).2.1 : Int), .int .i64 ((G x).2.2 : Int), .int .i64 0]) (by simp [results, Try.results39, go_sem]) rfl ⟨rfl, HB.out⟩
end Go.Proofs.Ytgbelodobgmlbaa.tab
