/-
  Proved: the sums of which the slant of ink is the quotient, in both functions (a contract of the laws on ink).
  Conditions: the ink is valid.
-/
import Derived.Test.YtmphnhffelfbgabInk
import Derived.Test.YtmphnhffelfbgabLenI
import Derived.BigQuiet
namespace Go.Proofs.Ytmphnhffelfbgab.slant
open Go.ChangeShapes Go.WideShapes Go.ChangeAt Go.RowKit Go.Joins
open Go.Proofs.Ytmphnhffelfbgab.core Go.Proofs.Ytmphnhffelfbgab.stk Go.Proofs.Ytmphnhffelfbgab.ink Go.Proofs.Ytmphnhffelfbgab.seg Go.Proofs.Ytmphnhffelfbgab.segs Go.Proofs.Ytmphnhffelfbgab.lenI
set_option linter.unusedVariables false
set_option linter.unusedSimpArgs false
def absI (x : Int) : Int := if x < 0 then -x else x
/-- What a segment adds to the sums. -/
def sst (p q : P3) (a : Int × Int) : Int × Int :=
  if absI (q.1 - p.1) < absI (q.2.1 - p.2.1) then (a.1 - (q.1 - p.1) * (q.2.1 - p.2.1), a.2 + (q.2.1 - p.2.1) * (q.2.1 - p.2.1)) else a
def ss1 (pts : Nat → P3) (a : Int × Int) : Nat → Int × Int
  | 0 => a
  | k + 1 => sst (pts k) (pts (k + 1)) (ss1 pts a k)
def ssI (ns : Nat → Nat) (ps : Nat → Nat → P3) : Nat → Int × Int
  | 0 => (0, 0)
  | i + 1 => ss1 (ps i) (ssI ns ps i) (ns i - 1)
def Sm (B : Int) (a : Int × Int) : Prop := -B ≤ a.1 ∧ a.1 ≤ B ∧ 0 ≤ a.2 ∧ a.2 ≤ B
theorem sst_sm {p q : P3} {a : Int × Int} {B : Int} (hp : Rg p) (hq : Rg q) (h : Sm B a) : Sm (B + 16769025) (sst p q a) := by
  unfold Rg at hp hq
  unfold Sm at *
  have h1 := mul_small (x := q.1 - p.1) (y := q.2.1 - p.2.1) (by omega) (by omega) (by omega) (by omega)
  have h2 := sq_small (x := q.2.1 - p.2.1) (by omega) (by omega)
  unfold sst
  split
  · simp only; omega
  · omega
theorem ss1_sm {pts : Nat → P3} {n : Nat} {a : Int × Int} {B : Int} (hr : ∀ i, i < n → Rg (pts i)) (h : Sm B a) : ∀ k, k + 1 ≤ n → Sm (B + k * 16769025) (ss1 pts a k)
  | 0, _ => by simpa [ss1] using h
  | k + 1, hk => by
    have := sst_sm (hr k (by omega)) (hr (k + 1) (by omega)) (ss1_sm hr h k (by omega))
    rw [ss1]
    rw [show B + ((k + 1 : Nat) : Int) * 16769025 = B + (k : Int) * 16769025 + 16769025 by omega]
    exact this
theorem Sm.mono {B C : Int} {a : Int × Int} (h : Sm B a) (hc : B ≤ C) : Sm C a := by unfold Sm at *; omega
theorem ssI_sm {n : Nat} {ns : Nat → Nat} {ps : Nat → Nat → P3} (hv : vI n ns ps = true) : ∀ i, i ≤ n → Sm (i * 989372475) (ssI ns ps i)
  | 0, _ => by unfold Sm ssI; omega
  | i + 1, hi => by
    have h0 := ssI_sm hv i (by omega)
    have hs := ((vI_of hv).2 i (by omega)).1
    have hn := vS_of hs
    have := ss1_sm (n := ns i) (vS_rg hs) h0 (ns i - 1) (by omega)
    rw [ssI]
    refine this.mono ?_
    omega
theorem sst_yes {p q : P3} {a : Int × Int} (h : absI (q.1 - p.1) < absI (q.2.1 - p.2.1)) : sst p q a = (a.1 - (q.1 - p.1) * (q.2.1 - p.2.1), a.2 + (q.2.1 - p.2.1) * (q.2.1 - p.2.1)) := by unfold sst; rw [if_pos h]
theorem sst_no {p q : P3} {a : Int × Int} (h : ¬ absI (q.1 - p.1) < absI (q.2.1 - p.2.1)) : sst p q a = a := by unfold sst; rw [if_neg h]
set_option maxHeartbeats 1000000 in
theorem size_calls (n : Int) (h1 : -4095 ≤ n) (h2 : n ≤ 4095) (w : World) : Calls Try.prog 90 #[.int .i64 n] w fun e w' => e = .returned (.int .i64 (absI n)) ∧ w = w' := by
  by_cases h : n < 0
  · go_enter Try.func90, Try.ntmps90
    go_wp2
    go_ret
    exact ⟨stk.ret_int (by unfold absI; rw [if_pos h]), rfl⟩
  · go_enter Try.func90, Try.ntmps90
    go_wp2
    go_ret
    exact ⟨stk.ret_int (by unfold absI; rw [if_neg (by omega)]), rfl⟩
set_option maxRecDepth 100000 in
set_option maxHeartbeats 4000000 in
theorem specSlant {o C : Nat} (A : Option Addr) (b n : Nat) (ns : Nat → Nat) (ps : Nat → Nat → P3) (w : World) (hv : vI n ns ps = true) (hbz : b < w.heap.size) (hs : w.cell? ⟨b, o, none⟩ = some (.slice A n C)) (hp : InkAt w A n ns ps) :
    Calls Try.prog 60 #[.pointer (some ⟨b, o, none⟩)] w fun e w' => e = .returned (.tuple #[.int .i64 (ssI ns ps n).1, .int .i64 (ssI ns ps n).2]) ∧ Below w.heap.size w w' := by
  have HP := Lib.hid hp
  have HS := Lib.hid hs
  have HSM := Lib.hid (ssI_sm hv)
  have HVI := Lib.hid (vI_of hv).2
  have h16 := (vI_of hv).1
  clear hp hs hv
  go_enter Try.func60, Try.ntmps60
  go_wp2
  go_loopw [4, 5, 6] (fun u v i w' => ∃ k : Nat, k ≤ n ∧ i = .int .i64 (k : Int) ∧ u = .int .i64 (ssI ns ps k).1 ∧ v = .int .i64 (ssI ns ps k).2 ∧ Hid (Below w.heap.size w w')) (fun _ _ i _ => n - (intOf i).toNat)
  case atStart => exact ⟨0, Nat.zero_le _, rfl, rfl, rfl, Lib.hid (Below.refl _ _)⟩
  case round =>
    obtain ⟨i, hi, rfl, rfl, rfl, HB⟩ := hrel
    have hs := (HB.out.cell hbz).trans HS.out
    by_cases hlt : i < n
    · obtain ⟨G, o1, rfl, hg, B, c, p0, hpt⟩ := HP.out i hlt
      have HB1 := HB
      have q0 := (HB.out.cell (p := ⟨G, o1 + i, none⟩) hg).trans p0
      have HPT := Lib.hid (hpt.kept HB.out)
      have hvs := (HVI.out i hlt).1
      obtain ⟨h1, h60, -⟩ := vS_of hvs
      have HR := Lib.hid (vS_rg hvs)
      have HE := Lib.hid (show ssI ns ps (i + 1) = ss1 (ps i) (ssI ns ps i) (ns i - 1) from rfl)
      have HS0 := Lib.hid (HSM.out i hi)
      have HS1 := Lib.hid (fun k (hk : k + 1 ≤ ns i) => ss1_sm HR.out HS0.out k hk)
      have hli : (i : Int) < (n : Int) := by omega
      obtain ⟨m, hm⟩ : ∃ m, ns i = m + 1 := ⟨ns i - 1, by omega⟩
      rw [hm] at q0 HPT h60 HR HS1 HE
      have HI60 := Lib.hid (show (i : Int) * 989372475 ≤ 15829959600 by omega)
      clear p0 hpt hvs h1 hm
      obtain ⟨pts, hpts⟩ : ∃ f, ps i = f := ⟨_, rfl⟩
      rw [hpts] at HPT HR HS1 HE
      obtain ⟨a0, ha0⟩ : ∃ a, ssI ns ps i = a := ⟨_, rfl⟩
      rw [ha0] at HS1 HE HS0 ⊢
      clear hpts ha0
      go_wp2
      clear q0 hs
      go_loopw [4, 5, 8] (fun u v i w' => ∃ k : Nat, k ≤ m ∧ i = .int .i64 ((k + 1 : Nat) : Int) ∧ u = .int .i64 (ss1 pts a0 k).1 ∧ v = .int .i64 (ss1 pts a0 k).2 ∧ Hid (Below w.heap.size w w') ∧ Hid (PtsAt w' B (m + 1) pts)) (fun _ _ i _ => m + 1 - (intOf i).toNat)
      case atStart => exact ⟨0, Nat.zero_le _, rfl, rfl, rfl, HB, HPT⟩
      case round =>
        obtain ⟨k, hk, rfl, rfl, rfl, HB2, HPT2⟩ := hrel
        by_cases hlt2 : k < m
        · obtain ⟨g, o', rfl, hgz, p0, p1, p2⟩ := HPT2.out k (by omega)
          obtain ⟨g2, o2, e2, -, q0, q1, q2⟩ := HPT2.out (k + 1) (by omega)
          injection e2 with e2
          injection e2 with e2 e3
          subst e2 e3
          have hrp := HR.out k (by omega)
          have hrq := HR.out (k + 1) (by omega)
          have hsm := HS1.out k (by omega)
          have hsm' := HI60.out
          have HEK := Lib.hid (show ss1 pts a0 (k + 1) = sst (pts k) (pts (k + 1)) (ss1 pts a0 k) from rfl)
          obtain ⟨p, hpk⟩ : ∃ p, pts k = p := ⟨_, rfl⟩
          obtain ⟨q, hqk⟩ : ∃ p, pts (k + 1) = p := ⟨_, rfl⟩
          rw [hpk] at p0 p1 p2 hrp HEK
          rw [hqk] at q0 q1 q2 hrq HEK
          obtain ⟨a, ha⟩ : ∃ a, ss1 pts a0 k = a := ⟨_, rfl⟩
          rw [ha] at HEK hsm ⊢
          clear hpk hqk ha p2 q2
          unfold Rg at hrp hrq
          unfold Sm at hsm
          obtain ⟨dx, hdx⟩ : ∃ d, q.1 - p.1 = d := ⟨_, rfl⟩
          obtain ⟨dy, hdy⟩ : ∃ d, q.2.1 - p.2.1 = d := ⟨_, rfl⟩
          have hx1 : -4095 ≤ dx ∧ dx ≤ 4095 := by omega
          have hy1 : -4095 ≤ dy ∧ dy ≤ 4095 := by omega
          have hm1 := mul_small (x := dx) (y := dy) hx1.1 hx1.2 hy1.1 hy1.2
          have hm2 := sq_small (x := dy) hy1.1 hy1.2
          have HY := Lib.hid (fun h : absI dx < absI dy => show sst p q a = (a.1 - dx * dy, a.2 + dy * dy) by rw [sst_yes (by rw [hdx, hdy]; exact h), hdx, hdy])
          have HN := Lib.hid (fun h : ¬ absI dx < absI dy => show sst p q a = a from sst_no (by rw [hdx, hdy]; exact h))
          have SX := Lib.hid (fun W => size_calls dx hx1.1 hx1.2 W)
          have SY := Lib.hid (fun W => size_calls dy hy1.1 hy1.2 W)
          have HD2 := Lib.hid (show ∀ x, (q.2.1 - p.2.1 = x) ↔ (dy = x) from fun x => by rw [hdy])
          obtain ⟨M1, hM1⟩ : ∃ x, dx * dy = x := ⟨_, rfl⟩
          obtain ⟨M2, hM2⟩ : ∃ x, dy * dy = x := ⟨_, rfl⟩
          rw [hM1] at hm1 HY
          rw [hM2] at hm2 HY
          have W1 : IntKind.i64.wrap (dx * dy) = M1 := by rw [hM1]; exact IntWalk.i64_in _ (by omega)
          have W2 : IntKind.i64.wrap (dy * dy) = M2 := by rw [hM2]; exact IntWalk.i64_in _ (by omega)
          have F1 : wrap64 (dx * dy) = M1 := by rw [← IntWalk.i64_left]; exact W1
          have F2 : wrap64 (dy * dy) = M2 := by rw [← IntWalk.i64_left]; exact W2
          obtain ⟨x1, x2⟩ := a
          simp only at hsm HY HN ⊢
          have hk1 : ((k + 1 : Nat) : Int) < ((m + 1 : Nat) : Int) := by omega
          have hki : k < m + 1 := by omega
          have hki1 : k + 1 < m + 1 := by omega
          have hw1 : IntKind.i64.wrap (k : Int) = (k : Int) := IntWalk.i64_in _ (by omega)
          have E1 : IntKind.i64.wrap (q.1 - p.1) = dx := by rw [hdx]; exact IntWalk.i64_in _ (by omega)
          have E2 : IntKind.i64.wrap (q.2.1 - p.2.1) = dy := by rw [hdy]; exact IntWalk.i64_in _ (by omega)
          have E3 : wrap64 (q.1 - p.1) = dx := by rw [← IntWalk.i64_left]; exact E1
          have E4 : wrap64 (q.2.1 - p.2.1) = dy := by rw [← IntWalk.i64_left]; exact E2
          have c0 := cell_kept (w := wr) hgz p0
          have c1 := cell_kept (w := wr) hgz p1
          have d0 := cell_kept (w := wr) hgz q0
          have d1 := cell_kept (w := wr) hgz q1
          clear hdx hdy hM1 hM2 hrp hrq p0 p1 q0 q1 HD2
          have hk00 : (0 : Int) ≤ (k : Int) + 1 := by omega
          have hmx := stk.mixed
          go_wp2
          refine wp_region_quiet_kept (by assumption) (by kernel_rfl) ?_
          repeat (first | go_big_quiet_step (fail) | quiet_step (fail))
          refine wpQuiet_nil ?_
          intro w2 hw'
          have hB : Below wr.heap.size wr w2 := by obtain ⟨⟨wk, hb0⟩, hw''⟩ := hw'; rw [hw'']; exact hb0
          have hgz2 : g < w2.heap.size := Nat.lt_of_lt_of_le hgz hB.size
          have c1' := (hB.cell (p := ⟨g, o' + k * 3 + 1, none⟩) hgz).trans (c1 ⟨wr, Below.refl _ _⟩)
          have d1' := (hB.cell (p := ⟨g, o' + (k + 1) * 3 + 1, none⟩) hgz).trans (d1 ⟨wr, Below.refl _ _⟩)
          have c1 := cell_kept (w := w2) hgz2 c1'
          have d1 := cell_kept (w := w2) hgz2 d1'
          have HB3 := Lib.hid (HB2.out.trans (hB.mono HB2.out.size))
          have HPT3 := Lib.hid (HPT2.out.kept hB)
          clear hw' hB c0 d0 c1' d1' HB2 HPT2
          go_wp2
          refine wp_region_quiet_kept (by assumption) (by kernel_rfl) ?_
          repeat (first | go_big_quiet_step (fail) | quiet_step (fail))
          refine wpQuiet_nil ?_
          intro w4 hw'
          have hB : Below w2.heap.size w2 w4 := by obtain ⟨⟨wk, hb0⟩, hw''⟩ := hw'; rw [hw'']; exact hb0
          have HB4 := Lib.hid (HB3.out.trans (hB.mono HB3.out.size))
          have HPT4 := Lib.hid (HPT3.out.kept hB)
          clear hw' hB c1 d1 E1 E2 E3 E4 HB3 HPT3 hmx
          generalize absI dx = ax at *
          generalize absI dy = ay at *
          by_cases hc : ax < ay
          · go_wp2_with fail
            with_reducible refine (SY.out _).mono ?_
            rintro e w5 ⟨rfl, rfl⟩
            go_wp2_with fail
            with_reducible refine (SX.out _).mono ?_
            rintro e w5 ⟨rfl, rfl⟩
            go_wp2
            go_roundw
            case rel => exact ⟨k + 1, by omega, by go_num, by rw [HEK.out, HY.out hc], by rw [HEK.out, HY.out hc], HB4, HPT4⟩
            case measure => simp [intOf]; omega
          · go_wp2_with fail
            with_reducible refine (SY.out _).mono ?_
            rintro e w5 ⟨rfl, rfl⟩
            go_wp2_with fail
            with_reducible refine (SX.out _).mono ?_
            rintro e w5 ⟨rfl, rfl⟩
            go_wp2
            go_roundw
            case rel => exact ⟨k + 1, by omega, by go_num, by rw [HEK.out, HN.out hc], by rw [HEK.out, HN.out hc], HB4, HPT4⟩
            case measure => simp [intOf]; omega
        · obtain rfl : k = m := by omega
          have HE2 := Lib.hid (show ssI ns ps (i + 1) = ss1 pts a0 k by rw [HE.out]; rfl)
          go_wp2
          go_roundw
          case rel => exact ⟨i + 1, by omega, by go_num, by rw [HE2.out], by rw [HE2.out], HB2⟩
          case measure => simp [intOf]; omega
    · obtain rfl : i = n := by omega
      go_wp2
      go_ret2
      exact ⟨rfl, HB.out⟩
end Go.Proofs.Ytmphnhffelfbgab.slant
