/-
  Proved: both functions that tell the slant of ink return the same number.
  Conditions: none.
-/
import Derived.Test.YtmphnhffelfbgabSlant
import Derived.Test.YtmphnhffelfbgabInkV
import Derived.Test.YtmphnhffelfbgabNear
import Derived.Test.YtmphnhffelfbgabWid
namespace Go.Proofs.Ytmphnhffelfbgab.wSlantOf
open Go.ChangeShapes Go.WideShapes Go.ChangeAt Go.RowKit Go.Joins
open Go.Proofs.Ytmphnhffelfbgab.core Go.Proofs.Ytmphnhffelfbgab.stk Go.Proofs.Ytmphnhffelfbgab.ink Go.Proofs.Ytmphnhffelfbgab.inkV Go.Proofs.Ytmphnhffelfbgab.slant Go.Proofs.Ytmphnhffelfbgab.near Go.Proofs.Ytmphnhffelfbgab.seg Go.Proofs.Ytmphnhffelfbgab.segs Go.Proofs.Ytmphnhffelfbgab.lenI
set_option linter.unusedVariables false
set_option linter.unusedSimpArgs false
set_option maxRecDepth 100000 in
set_option maxHeartbeats 4000000 in
theorem spec_no {c : Nat} (A : Option Addr) (n : Nat) (ns : Nat → Nat) (ps : Nat → Nat → P3) (w : World) (hcap : n ≤ 1048576) (hsm : ∀ i, i < n → ns i ≤ 1048576) (hp : InkAt w A n ns ps) (hv : vI n ns ps = false) :
    Calls Try.prog 23 #[.agg #[.slice A n c]] w fun e w' => e = .returned (.tuple #[.int .i64 0, .int .i64 1]) ∧ Below w.heap.size w w' := by
  have B0 := Lib.hid (below_alloc1 w (.cells #[.slice A n c] 47))
  have HS := Lib.hid (l02Ok_calls (C := c) (o := 0) A w.heap.size n ns ps (w.alloc (.cells #[.slice A n c] 47)) hcap hsm (by simp) (by simp) (hp.kept B0.out))
  rw [hv] at HS
  clear hp hv hsm
  go_enter Try.func23, Try.ntmps23
  go_wp2_with fail
  refine HS.out.mono ?_
  rintro e w1 ⟨rfl, hb1⟩
  have C0 := Lib.hid ((hb1.cell (p := ⟨w.heap.size, 0, none⟩) (by simp)).trans (show _ = some (.slice A n c) by simp))
  have Z1 := Lib.hid (show w.heap.size < w1.heap.size by have := hb1.size; simp at this; omega)
  have B1 := Lib.hid (B0.out.trans (hb1.mono B0.out.size))
  clear hb1 HS
  go_wp2
  go_ret2
  exact ⟨rfl, B1.out⟩
set_option maxRecDepth 100000 in
set_option maxHeartbeats 4000000 in
theorem impl_no {c : Nat} (A : Option Addr) (n : Nat) (ns : Nat → Nat) (ps : Nat → Nat → P3) (w : World) (hcap : n ≤ 1048576) (hsm : ∀ i, i < n → ns i ≤ 1048576) (hp : InkAt w A n ns ps) (hv : vI n ns ps = false) :
    Calls Try.prog 25 #[.agg #[.slice A n c]] w fun e w' => e = .returned (.tuple #[.int .i64 0, .int .i64 1]) ∧ Below w.heap.size w w' := by
  have B0 := Lib.hid (below_alloc1 w (.cells #[.slice A n c] 47))
  have HS := Lib.hid (implValidInk_calls (C := c) A n ns ps (w.alloc (.cells #[.slice A n c] 47)) hcap hsm (hp.kept B0.out))
  rw [hv] at HS
  clear hp hv hsm
  go_enter Try.func25, Try.ntmps25
  go_wp2_with fail
  refine HS.out.mono ?_
  rintro e w1 ⟨rfl, hb1⟩
  have C0 := Lib.hid ((hb1.cell (p := ⟨w.heap.size, 0, none⟩) (by simp)).trans (show _ = some (.slice A n c) by simp))
  have Z1 := Lib.hid (show w.heap.size < w1.heap.size by have := hb1.size; simp at this; omega)
  have B1 := Lib.hid (B0.out.trans (hb1.mono B0.out.size))
  clear hb1 HS
  go_wp2
  go_ret2
  exact ⟨rfl, B1.out⟩
set_option maxRecDepth 100000 in
set_option maxHeartbeats 4000000 in
theorem spec_zero {c : Nat} (A : Option Addr) (n : Nat) (ns : Nat → Nat) (ps : Nat → Nat → P3) (w : World) (hcap : n ≤ 1048576) (hsm : ∀ i, i < n → ns i ≤ 1048576) (hp : InkAt w A n ns ps) (hv : vI n ns ps = true) (hd : (ssI ns ps n).2 = 0) :
    Calls Try.prog 23 #[.agg #[.slice A n c]] w fun e w' => e = .returned (.tuple #[.int .i64 0, .int .i64 6]) ∧ Below w.heap.size w w' := by
  have B0 := Lib.hid (below_alloc1 w (.cells #[.slice A n c] 47))
  have HS := Lib.hid (l02Ok_calls (C := c) (o := 0) A w.heap.size n ns ps (w.alloc (.cells #[.slice A n c] 47)) hcap hsm (by simp) (by simp) (hp.kept B0.out))
  rw [hv] at HS
  have HPW := Lib.hid (fun (V : World) (hV : Below w.heap.size w V) => hp.kept hV)
  have HSM := Lib.hid (ssI_sm hv n (Nat.le_refl _))
  have h16 := (vI_of hv).1
  have HV := Lib.hid hv
  obtain ⟨⟨u, v⟩, huv⟩ : ∃ a, ssI ns ps n = a := ⟨_, rfl⟩
  have HUV := Lib.hid huv
  rw [huv] at HSM hd
  simp only at hd
  clear huv
  clear hp hv hsm
  go_enter Try.func23, Try.ntmps23
  go_wp2_with fail
  refine HS.out.mono ?_
  rintro e w1 ⟨rfl, hb1⟩
  have C0 := Lib.hid ((hb1.cell (p := ⟨w.heap.size, 0, none⟩) (by simp)).trans (show _ = some (.slice A n c) by simp))
  have Z1 := Lib.hid (show w.heap.size < w1.heap.size by have := hb1.size; simp at this; omega)
  have B1 := Lib.hid (B0.out.trans (hb1.mono B0.out.size))
  clear hb1 HS
  have HT := Lib.hid (specSlant (o := 0) (C := c) A w.heap.size n ns ps w1 HV.out Z1.out C0.out (HPW.out w1 B1.out))
  rw [HUV.out] at HT
  simp only at HT
  have hsm := HSM.out
  unfold Sm at hsm
  simp only at hsm
  subst hd
  go_wp2_with fail
  refine HT.out.mono ?_
  rintro e w2 ⟨rfl, hb⟩
  have B2 := Lib.hid (B1.out.trans (hb.mono B1.out.size))
  clear hb HT
  go_wp2
  go_ret2
  exact ⟨rfl, B2.out⟩
set_option maxRecDepth 100000 in
set_option maxHeartbeats 4000000 in
theorem spec_yes {c : Nat} (A : Option Addr) (n : Nat) (ns : Nat → Nat) (ps : Nat → Nat → P3) (w : World) (hcap : n ≤ 1048576) (hsm : ∀ i, i < n → ns i ≤ 1048576) (hp : InkAt w A n ns ps) (hv : vI n ns ps = true) (hd : ¬ (ssI ns ps n).2 = 0) :
    Calls Try.prog 23 #[.agg #[.slice A n c]] w fun e w' => e = .returned (.tuple #[.int .i64 (nr (256 * (ssI ns ps n).1) (ssI ns ps n).2), .int .i64 0]) ∧ Below w.heap.size w w' := by
  have B0 := Lib.hid (below_alloc1 w (.cells #[.slice A n c] 47))
  have HS := Lib.hid (l02Ok_calls (C := c) (o := 0) A w.heap.size n ns ps (w.alloc (.cells #[.slice A n c] 47)) hcap hsm (by simp) (by simp) (hp.kept B0.out))
  rw [hv] at HS
  have HPW := Lib.hid (fun (V : World) (hV : Below w.heap.size w V) => hp.kept hV)
  have HSM := Lib.hid (ssI_sm hv n (Nat.le_refl _))
  have h16 := (vI_of hv).1
  have HV := Lib.hid hv
  obtain ⟨⟨u, v⟩, huv⟩ : ∃ a, ssI ns ps n = a := ⟨_, rfl⟩
  have HUV := Lib.hid huv
  rw [huv] at HSM hd ⊢
  simp only at hd ⊢
  clear huv
  clear hp hv hsm
  go_enter Try.func23, Try.ntmps23
  go_wp2_with fail
  refine HS.out.mono ?_
  rintro e w1 ⟨rfl, hb1⟩
  have C0 := Lib.hid ((hb1.cell (p := ⟨w.heap.size, 0, none⟩) (by simp)).trans (show _ = some (.slice A n c) by simp))
  have Z1 := Lib.hid (show w.heap.size < w1.heap.size by have := hb1.size; simp at this; omega)
  have B1 := Lib.hid (B0.out.trans (hb1.mono B0.out.size))
  clear hb1 HS
  have HT := Lib.hid (specSlant (o := 0) (C := c) A w.heap.size n ns ps w1 HV.out Z1.out C0.out (HPW.out w1 B1.out))
  rw [HUV.out] at HT
  simp only at HT
  have hsm := HSM.out
  unfold Sm at hsm
  simp only at hsm
  have hd2 : (v == 0) = false := by simp; omega
  have HNR := Lib.hid (fun W => specNear (256 * u) v (by omega) (by omega) (by omega) (by omega) W)
  go_wp2_with fail
  refine HT.out.mono ?_
  rintro e w2 ⟨rfl, hb⟩
  have B2 := Lib.hid (B1.out.trans (hb.mono B1.out.size))
  clear hb HT
  go_wp2_with fail
  refine (HNR.out _).mono ?_
  rintro e w3 ⟨rfl, rfl⟩
  go_wp2
  go_ret2
  exact ⟨rfl, B2.out⟩
set_option maxRecDepth 100000 in
set_option maxHeartbeats 4000000 in
theorem impl_zero {c : Nat} (A : Option Addr) (n : Nat) (ns : Nat → Nat) (ps : Nat → Nat → P3) (w : World) (hcap : n ≤ 1048576) (hsm : ∀ i, i < n → ns i ≤ 1048576) (hp : InkAt w A n ns ps) (hv : vI n ns ps = true) (hd : (ssI ns ps n).2 = 0) :
    Calls Try.prog 25 #[.agg #[.slice A n c]] w fun e w' => e = .returned (.tuple #[.int .i64 0, .int .i64 6]) ∧ Below w.heap.size w w' := by
  have B0 := Lib.hid (below_alloc1 w (.cells #[.slice A n c] 47))
  have HS := Lib.hid (implValidInk_calls (C := c) A n ns ps (w.alloc (.cells #[.slice A n c] 47)) hcap hsm (hp.kept B0.out))
  rw [hv] at HS
  have HPW := Lib.hid (fun (V : World) (hV : Below w.heap.size w V) => hp.kept hV)
  have HSM := Lib.hid (ssI_sm hv n (Nat.le_refl _))
  have h16 := (vI_of hv).1
  have HV := Lib.hid hv
  have HVI := Lib.hid (vI_of hv).2
  have HSI := Lib.hid (ssI_sm hv)
  clear hp hv hsm
  obtain ⟨⟨u0, v0⟩, huv⟩ : ∃ a, ssI ns ps n = a := ⟨_, rfl⟩
  have HUV := Lib.hid huv
  rw [huv] at HSM hd
  simp only at hd
  have HD := Lib.hid hd
  have HSS := Lib.hid HSM.out
  clear huv hd HSM
  go_enter Try.func25, Try.ntmps25
  go_wp2_with fail
  refine HS.out.mono ?_
  rintro e w1 ⟨rfl, hb1⟩
  have C0 := Lib.hid ((hb1.cell (p := ⟨w.heap.size, 0, none⟩) (by simp)).trans (show _ = some (.slice A n c) by simp))
  have Z1 := Lib.hid (show w.heap.size < w1.heap.size by have := hb1.size; simp at this; omega)
  have B1 := Lib.hid (B0.out.trans (hb1.mono B0.out.size))
  clear hb1 HS
  have c0 := C0.out
  go_wp2
  clear c0
  go_loopw [4, 5, 18] (fun u v i w' => ∃ k : Nat, k ≤ n ∧ i = .int .i64 (k : Int) ∧ u = .int .i64 (ssI ns ps k).1 ∧ v = .int .i64 (ssI ns ps k).2 ∧ Hid (Below w.heap.size w w')) (fun _ _ i _ => n - (intOf i).toNat)
  case atStart => exact ⟨0, Nat.zero_le _, rfl, rfl, rfl, B1⟩
  case round =>
    obtain ⟨i, hi, rfl, rfl, rfl, HB⟩ := hrel
    by_cases hlt : i < n
    · obtain ⟨G, o1, rfl, hg, B, cc, p0, hpt⟩ := (HPW.out wr HB.out) i hlt
      have HPT := Lib.hid (hpt.kept (below_alloc1 wr (.cells #[.slice B (ns i) cc] 87)))
      have HB1 := Lib.hid (HB.out.trans ((below_alloc1 wr (.cells #[.slice B (ns i) cc] 87)).mono HB.out.size))
      have hvs := (HVI.out i hlt).1
      obtain ⟨h1, h60, -⟩ := vS_of hvs
      have HR := Lib.hid (vS_rg hvs)
      have HE := Lib.hid (show ssI ns ps (i + 1) = ss1 (ps i) (ssI ns ps i) (ns i - 1) from rfl)
      have HS0 := Lib.hid (HSI.out i hi)
      have HS1 := Lib.hid (fun k (hk : k + 1 ≤ ns i) => ss1_sm HR.out HS0.out k hk)
      have hli : (i : Int) < (n : Int) := by omega
      obtain ⟨m, hm⟩ : ∃ m, ns i = m + 1 := ⟨ns i - 1, by omega⟩
      rw [hm] at p0 HPT h60 HR HS1 HE HB1
      have HI60 := Lib.hid (show (i : Int) * 989372475 ≤ 15829959600 by omega)
      clear hpt hvs h1 hm
      obtain ⟨pts, hpts⟩ : ∃ f, ps i = f := ⟨_, rfl⟩
      rw [hpts] at HPT HR HS1 HE
      obtain ⟨a0, ha0⟩ : ∃ a, ssI ns ps i = a := ⟨_, rfl⟩
      rw [ha0] at HS1 HE HS0 ⊢
      clear hpts ha0
      have HSG := Lib.hid (segs_calls (c := cc) B (m + 1) pts (wr.alloc (.cells #[.slice B (m + 1) cc] 87)) (by omega) h60 (by simpa using HPT.out))
      go_wp2_with fail
      with_reducible refine HSG.out.mono ?_
      rintro e w2 ⟨D, dd, rfl, hsg, hb⟩
      have HB2 := Lib.hid (HB1.out.trans (hb.mono HB1.out.size))
      have HG := Lib.hid hsg
      clear hsg hb HSG p0
      simp only [Nat.add_sub_cancel] at HG ⊢
      go_wp2
      go_loopw [4, 5, 25] (fun u v i w' => ∃ k : Nat, k ≤ m ∧ i = .int .i64 (k : Int) ∧ u = .int .i64 (ss1 pts a0 k).1 ∧ v = .int .i64 (ss1 pts a0 k).2 ∧ Hid (Below w2.heap.size w2 w')) (fun _ _ i _ => m - (intOf i).toNat)
      case atStart => exact ⟨0, Nat.zero_le _, rfl, rfl, rfl, Lib.hid (Below.refl _ _)⟩
      case round =>
        obtain ⟨k, hk, rfl, rfl, rfl, HB3⟩ := hrel
        by_cases hlt2 : k < m
        · obtain ⟨g, rfl, hgz, p0, p1, p2, q0, q1, q2⟩ := (HG.out.kept HB3.out) k hlt2
          have hrp := HR.out k (by omega)
          have hrq := HR.out (k + 1) (by omega)
          have hsm := HS1.out k (by omega)
          have hsm' := HI60.out
          have HEK := Lib.hid (show ss1 pts a0 (k + 1) = sst (pts k) (pts (k + 1)) (ss1 pts a0 k) from rfl)
          obtain ⟨p, hpk⟩ : ∃ p, pts k = p := ⟨_, rfl⟩
          obtain ⟨q, hqk⟩ : ∃ p, pts (k + 1) = p := ⟨_, rfl⟩
          rw [hpk] at p0 p1 p2 hrp HEK
          rw [hqk] at q0 q1 q2 hrq HEK
          obtain ⟨a, ha⟩ : ∃ a, ss1 pts a0 k = a := ⟨_, rfl⟩
          rw [ha] at HEK hsm ⊢
          clear hpk hqk ha
          unfold Rg at hrp hrq
          unfold Sm at hsm
          obtain ⟨dx, hdx⟩ : ∃ d, q.1 - p.1 = d := ⟨_, rfl⟩
          obtain ⟨dy, hdy⟩ : ∃ d, q.2.1 - p.2.1 = d := ⟨_, rfl⟩
          have hx1 : -4095 ≤ dx ∧ dx ≤ 4095 := by omega
          have hy1 : -4095 ≤ dy ∧ dy ≤ 4095 := by omega
          have hm1 := mul_small (x := dx) (y := dy) hx1.1 hx1.2 hy1.1 hy1.2
          have hm2 := sq_small (x := dy) hy1.1 hy1.2
          have HY := Lib.hid (fun h : absI dx < absI dy => show sst p q a = (a.1 - dx * dy, a.2 + dy * dy) by rw [sst_yes (by rw [hdx, hdy]; exact h), hdx, hdy])
          have HN := Lib.hid (fun h : ¬ absI dx < absI dy => show sst p q a = a from sst_no (by rw [hdx, hdy]; exact h))
          obtain ⟨M1, hM1⟩ : ∃ x, dx * dy = x := ⟨_, rfl⟩
          obtain ⟨M2, hM2⟩ : ∃ x, dy * dy = x := ⟨_, rfl⟩
          rw [hM1] at hm1 HY
          rw [hM2] at hm2 HY
          have W1 : IntKind.i64.wrap (dx * dy) = M1 := by rw [hM1]; exact IntWalk.i64_in _ (by omega)
          have W2 : IntKind.i64.wrap (dy * dy) = M2 := by rw [hM2]; exact IntWalk.i64_in _ (by omega)
          have F1 : wrap64 (dx * dy) = M1 := by rw [← IntWalk.i64_left]; exact W1
          have F2 : wrap64 (dy * dy) = M2 := by rw [← IntWalk.i64_left]; exact W2
          obtain ⟨x1, x2⟩ := a
          simp only at hsm HY HN ⊢
          have hki : (k : Int) < (m : Int) := by omega
          have E1 : IntKind.i64.wrap (q.1 - p.1) = dx := by rw [hdx]; exact IntWalk.i64_in _ (by omega)
          have E2 : IntKind.i64.wrap (q.2.1 - p.2.1) = dy := by rw [hdy]; exact IntWalk.i64_in _ (by omega)
          have E3 : wrap64 (q.1 - p.1) = dx := by rw [← IntWalk.i64_left]; exact E1
          have E4 : wrap64 (q.2.1 - p.2.1) = dy := by rw [← IntWalk.i64_left]; exact E2
          clear hdx hdy hM1 hM2 hrp hrq
          have BX := Lib.hid (below_alloc1 wr (.cells #[.int .i64 p.1, .int .i64 p.2.1, .int .i64 p.2.2, .int .i64 q.1, .int .i64 q.2.1, .int .i64 q.2.2] 91))
          have BK := Lib.hid (heap_alloc_new wr (.cells #[.int .i64 p.1, .int .i64 p.2.1, .int .i64 p.2.2, .int .i64 q.1, .int .i64 q.2.1, .int .i64 q.2.2] 91))
          go_wp2
          clear p0 p1 p2 q0 q1 q2
          obtain ⟨wo, hwo⟩ : ∃ wo : World, wo = wr.alloc (.cells #[.int .i64 p.1, .int .i64 p.2.1, .int .i64 p.2.2, .int .i64 q.1, .int .i64 q.2.1, .int .i64 q.2.2] 91) := ⟨_, rfl⟩
          rw [← hwo] at BX BK ⊢
          have HBO := Lib.hid (HB3.out.trans (BX.out.mono HB3.out.size))
          have hgo : wr.heap.size < wo.heap.size := (Array.getElem?_eq_some_iff.1 BK.out).1
          have y0 := cell_kept (w := wo) (a := ⟨wr.heap.size, 0, none⟩) (v := .int .i64 p.1) hgo (by rw [cell_of_block BK.out]; rfl)
          have y1 := cell_kept (w := wo) (a := ⟨wr.heap.size, 1, none⟩) (v := .int .i64 p.2.1) hgo (by rw [cell_of_block BK.out]; rfl)
          have y3 := cell_kept (w := wo) (a := ⟨wr.heap.size, 3, none⟩) (v := .int .i64 q.1) hgo (by rw [cell_of_block BK.out]; rfl)
          have y4 := cell_kept (w := wo) (a := ⟨wr.heap.size, 4, none⟩) (v := .int .i64 q.2.1) hgo (by rw [cell_of_block BK.out]; rfl)
          clear BX hwo
          have hmx := stk.mixed
          refine wp_region_quiet_kept (by assumption) (by kernel_rfl) ?_
          repeat (first | go_big_quiet_step (fail) | quiet_step (fail))
          refine wpQuiet_nil ?_
          intro w4 hw'
          have hB : Below wo.heap.size wo w4 := by obtain ⟨⟨wk, hb0⟩, hw''⟩ := hw'; rw [hw'']; exact hb0
          have HB4 := Lib.hid (HBO.out.trans (hB.mono HBO.out.size))
          clear hw' hB y0 y1 y3 y4 E1 E2 E3 E4 HBO BK hgo hmx
          by_cases hsx : dx < 0 <;> by_cases hsy : dy < 0
          · have hax : absI dx = -dx := by unfold absI; rw [if_pos hsx]
            have hay : absI dy = -dy := by unfold absI; rw [if_pos hsy]
            rw [hax, hay] at HY HN
            clear hax hay
            by_cases hc : -dx < -dy
            · have e2 := HEK.out.trans (HY.out (by omega))
              have HE2 := Lib.hid e2
              clear HY HN e2
              go_wp2
              all_goals first | (go_roundw; (case rel => exact ⟨k + 1, by omega, by go_num, by rw [HE2.out], by rw [HE2.out], HB4⟩); (case measure => simp [intOf]; omega)) | skip
            · have e2 := HEK.out.trans (HN.out (by omega))
              have HE2 := Lib.hid e2
              clear HY HN e2
              go_wp2
              all_goals first | (go_roundw; (case rel => exact ⟨k + 1, by omega, by go_num, by rw [HE2.out], by rw [HE2.out], HB4⟩); (case measure => simp [intOf]; omega)) | skip
          · have hax : absI dx = -dx := by unfold absI; rw [if_pos hsx]
            have hay : absI dy = dy := by unfold absI; rw [if_neg hsy]
            rw [hax, hay] at HY HN
            clear hax hay
            by_cases hc : -dx < dy
            · have e2 := HEK.out.trans (HY.out (by omega))
              have HE2 := Lib.hid e2
              clear HY HN e2
              go_wp2
              all_goals first | (go_roundw; (case rel => exact ⟨k + 1, by omega, by go_num, by rw [HE2.out], by rw [HE2.out], HB4⟩); (case measure => simp [intOf]; omega)) | skip
            · have e2 := HEK.out.trans (HN.out (by omega))
              have HE2 := Lib.hid e2
              clear HY HN e2
              go_wp2
              all_goals first | (go_roundw; (case rel => exact ⟨k + 1, by omega, by go_num, by rw [HE2.out], by rw [HE2.out], HB4⟩); (case measure => simp [intOf]; omega)) | skip
          · have hax : absI dx = dx := by unfold absI; rw [if_neg hsx]
            have hay : absI dy = -dy := by unfold absI; rw [if_pos hsy]
            rw [hax, hay] at HY HN
            clear hax hay
            by_cases hc : dx < -dy
            · have e2 := HEK.out.trans (HY.out (by omega))
              have HE2 := Lib.hid e2
              clear HY HN e2
              go_wp2
              all_goals first | (go_roundw; (case rel => exact ⟨k + 1, by omega, by go_num, by rw [HE2.out], by rw [HE2.out], HB4⟩); (case measure => simp [intOf]; omega)) | skip
            · have e2 := HEK.out.trans (HN.out (by omega))
              have HE2 := Lib.hid e2
              clear HY HN e2
              go_wp2
              all_goals first | (go_roundw; (case rel => exact ⟨k + 1, by omega, by go_num, by rw [HE2.out], by rw [HE2.out], HB4⟩); (case measure => simp [intOf]; omega)) | skip
          · have hax : absI dx = dx := by unfold absI; rw [if_neg hsx]
            have hay : absI dy = dy := by unfold absI; rw [if_neg hsy]
            rw [hax, hay] at HY HN
            clear hax hay
            by_cases hc : dx < dy
            · have e2 := HEK.out.trans (HY.out (by omega))
              have HE2 := Lib.hid e2
              clear HY HN e2
              go_wp2
              all_goals first | (go_roundw; (case rel => exact ⟨k + 1, by omega, by go_num, by rw [HE2.out], by rw [HE2.out], HB4⟩); (case measure => simp [intOf]; omega)) | skip
            · have e2 := HEK.out.trans (HN.out (by omega))
              have HE2 := Lib.hid e2
              clear HY HN e2
              go_wp2
              all_goals first | (go_roundw; (case rel => exact ⟨k + 1, by omega, by go_num, by rw [HE2.out], by rw [HE2.out], HB4⟩); (case measure => simp [intOf]; omega)) | skip
        · obtain rfl : k = m := by omega
          have HE2 := Lib.hid (show ssI ns ps (i + 1) = ss1 pts a0 k by rw [HE.out]; rfl)
          have HB5 := Lib.hid (HB2.out.trans (HB3.out.mono HB2.out.size))
          go_wp2
          go_roundw
          case rel => exact ⟨i + 1, by omega, by go_num, by rw [HE2.out], by rw [HE2.out], HB5⟩
          case measure => simp [intOf]; omega
    · obtain rfl : i = n := by omega
      have hd := HD.out
      rw [HUV.out]
      simp only
      have hsm := HSS.out
      unfold Sm at hsm
      simp only at hsm
      subst hd
      go_wp2
      go_ret2
      exact ⟨rfl, HB.out⟩
set_option maxRecDepth 100000 in
set_option maxHeartbeats 4000000 in
theorem impl_yes {c : Nat} (A : Option Addr) (n : Nat) (ns : Nat → Nat) (ps : Nat → Nat → P3) (w : World) (hcap : n ≤ 1048576) (hsm : ∀ i, i < n → ns i ≤ 1048576) (hp : InkAt w A n ns ps) (hv : vI n ns ps = true) (hd : ¬ (ssI ns ps n).2 = 0) :
    Calls Try.prog 25 #[.agg #[.slice A n c]] w fun e w' => e = .returned (.tuple #[.int .i64 (nr (256 * (ssI ns ps n).1) (ssI ns ps n).2), .int .i64 0]) ∧ Below w.heap.size w w' := by
  have B0 := Lib.hid (below_alloc1 w (.cells #[.slice A n c] 47))
  have HS := Lib.hid (implValidInk_calls (C := c) A n ns ps (w.alloc (.cells #[.slice A n c] 47)) hcap hsm (hp.kept B0.out))
  rw [hv] at HS
  have HPW := Lib.hid (fun (V : World) (hV : Below w.heap.size w V) => hp.kept hV)
  have HSM := Lib.hid (ssI_sm hv n (Nat.le_refl _))
  have h16 := (vI_of hv).1
  have HV := Lib.hid hv
  have HVI := Lib.hid (vI_of hv).2
  have HSI := Lib.hid (ssI_sm hv)
  clear hp hv hsm
  obtain ⟨⟨u0, v0⟩, huv⟩ : ∃ a, ssI ns ps n = a := ⟨_, rfl⟩
  have HUV := Lib.hid huv
  rw [huv] at HSM hd ⊢
  simp only at hd ⊢
  have HD := Lib.hid hd
  have HSS := Lib.hid HSM.out
  clear huv hd HSM
  go_enter Try.func25, Try.ntmps25
  go_wp2_with fail
  refine HS.out.mono ?_
  rintro e w1 ⟨rfl, hb1⟩
  have C0 := Lib.hid ((hb1.cell (p := ⟨w.heap.size, 0, none⟩) (by simp)).trans (show _ = some (.slice A n c) by simp))
  have Z1 := Lib.hid (show w.heap.size < w1.heap.size by have := hb1.size; simp at this; omega)
  have B1 := Lib.hid (B0.out.trans (hb1.mono B0.out.size))
  clear hb1 HS
  have c0 := C0.out
  go_wp2
  clear c0
  go_loopw [4, 5, 18] (fun u v i w' => ∃ k : Nat, k ≤ n ∧ i = .int .i64 (k : Int) ∧ u = .int .i64 (ssI ns ps k).1 ∧ v = .int .i64 (ssI ns ps k).2 ∧ Hid (Below w.heap.size w w')) (fun _ _ i _ => n - (intOf i).toNat)
  case atStart => exact ⟨0, Nat.zero_le _, rfl, rfl, rfl, B1⟩
  case round =>
    obtain ⟨i, hi, rfl, rfl, rfl, HB⟩ := hrel
    by_cases hlt : i < n
    · obtain ⟨G, o1, rfl, hg, B, cc, p0, hpt⟩ := (HPW.out wr HB.out) i hlt
      have HPT := Lib.hid (hpt.kept (below_alloc1 wr (.cells #[.slice B (ns i) cc] 87)))
      have HB1 := Lib.hid (HB.out.trans ((below_alloc1 wr (.cells #[.slice B (ns i) cc] 87)).mono HB.out.size))
      have hvs := (HVI.out i hlt).1
      obtain ⟨h1, h60, -⟩ := vS_of hvs
      have HR := Lib.hid (vS_rg hvs)
      have HE := Lib.hid (show ssI ns ps (i + 1) = ss1 (ps i) (ssI ns ps i) (ns i - 1) from rfl)
      have HS0 := Lib.hid (HSI.out i hi)
      have HS1 := Lib.hid (fun k (hk : k + 1 ≤ ns i) => ss1_sm HR.out HS0.out k hk)
      have hli : (i : Int) < (n : Int) := by omega
      obtain ⟨m, hm⟩ : ∃ m, ns i = m + 1 := ⟨ns i - 1, by omega⟩
      rw [hm] at p0 HPT h60 HR HS1 HE HB1
      have HI60 := Lib.hid (show (i : Int) * 989372475 ≤ 15829959600 by omega)
      clear hpt hvs h1 hm
      obtain ⟨pts, hpts⟩ : ∃ f, ps i = f := ⟨_, rfl⟩
      rw [hpts] at HPT HR HS1 HE
      obtain ⟨a0, ha0⟩ : ∃ a, ssI ns ps i = a := ⟨_, rfl⟩
      rw [ha0] at HS1 HE HS0 ⊢
      clear hpts ha0
      have HSG := Lib.hid (segs_calls (c := cc) B (m + 1) pts (wr.alloc (.cells #[.slice B (m + 1) cc] 87)) (by omega) h60 (by simpa using HPT.out))
      go_wp2_with fail
      with_reducible refine HSG.out.mono ?_
      rintro e w2 ⟨D, dd, rfl, hsg, hb⟩
      have HB2 := Lib.hid (HB1.out.trans (hb.mono HB1.out.size))
      have HG := Lib.hid hsg
      clear hsg hb HSG p0
      simp only [Nat.add_sub_cancel] at HG ⊢
      go_wp2
      go_loopw [4, 5, 25] (fun u v i w' => ∃ k : Nat, k ≤ m ∧ i = .int .i64 (k : Int) ∧ u = .int .i64 (ss1 pts a0 k).1 ∧ v = .int .i64 (ss1 pts a0 k).2 ∧ Hid (Below w2.heap.size w2 w')) (fun _ _ i _ => m - (intOf i).toNat)
      case atStart => exact ⟨0, Nat.zero_le _, rfl, rfl, rfl, Lib.hid (Below.refl _ _)⟩
      case round =>
        obtain ⟨k, hk, rfl, rfl, rfl, HB3⟩ := hrel
        by_cases hlt2 : k < m
        · obtain ⟨g, rfl, hgz, p0, p1, p2, q0, q1, q2⟩ := (HG.out.kept HB3.out) k hlt2
          have hrp := HR.out k (by omega)
          have hrq := HR.out (k + 1) (by omega)
          have hsm := HS1.out k (by omega)
          have hsm' := HI60.out
          have HEK := Lib.hid (show ss1 pts a0 (k + 1) = sst (pts k) (pts (k + 1)) (ss1 pts a0 k) from rfl)
          obtain ⟨p, hpk⟩ : ∃ p, pts k = p := ⟨_, rfl⟩
          obtain ⟨q, hqk⟩ : ∃ p, pts (k + 1) = p := ⟨_, rfl⟩
          rw [hpk] at p0 p1 p2 hrp HEK
          rw [hqk] at q0 q1 q2 hrq HEK
          obtain ⟨a, ha⟩ : ∃ a, ss1 pts a0 k = a := ⟨_, rfl⟩
          rw [ha] at HEK hsm ⊢
          clear hpk hqk ha
          unfold Rg at hrp hrq
          unfold Sm at hsm
          obtain ⟨dx, hdx⟩ : ∃ d, q.1 - p.1 = d := ⟨_, rfl⟩
          obtain ⟨dy, hdy⟩ : ∃ d, q.2.1 - p.2.1 = d := ⟨_, rfl⟩
          have hx1 : -4095 ≤ dx ∧ dx ≤ 4095 := by omega
          have hy1 : -4095 ≤ dy ∧ dy ≤ 4095 := by omega
          have hm1 := mul_small (x := dx) (y := dy) hx1.1 hx1.2 hy1.1 hy1.2
          have hm2 := sq_small (x := dy) hy1.1 hy1.2
          have HY := Lib.hid (fun h : absI dx < absI dy => show sst p q a = (a.1 - dx * dy, a.2 + dy * dy) by rw [sst_yes (by rw [hdx, hdy]; exact h), hdx, hdy])
          have HN := Lib.hid (fun h : ¬ absI dx < absI dy => show sst p q a = a from sst_no (by rw [hdx, hdy]; exact h))
          obtain ⟨M1, hM1⟩ : ∃ x, dx * dy = x := ⟨_, rfl⟩
          obtain ⟨M2, hM2⟩ : ∃ x, dy * dy = x := ⟨_, rfl⟩
          rw [hM1] at hm1 HY
          rw [hM2] at hm2 HY
          have W1 : IntKind.i64.wrap (dx * dy) = M1 := by rw [hM1]; exact IntWalk.i64_in _ (by omega)
          have W2 : IntKind.i64.wrap (dy * dy) = M2 := by rw [hM2]; exact IntWalk.i64_in _ (by omega)
          have F1 : wrap64 (dx * dy) = M1 := by rw [← IntWalk.i64_left]; exact W1
          have F2 : wrap64 (dy * dy) = M2 := by rw [← IntWalk.i64_left]; exact W2
          obtain ⟨x1, x2⟩ := a
          simp only at hsm HY HN ⊢
          have hki : (k : Int) < (m : Int) := by omega
          have E1 : IntKind.i64.wrap (q.1 - p.1) = dx := by rw [hdx]; exact IntWalk.i64_in _ (by omega)
          have E2 : IntKind.i64.wrap (q.2.1 - p.2.1) = dy := by rw [hdy]; exact IntWalk.i64_in _ (by omega)
          have E3 : wrap64 (q.1 - p.1) = dx := by rw [← IntWalk.i64_left]; exact E1
          have E4 : wrap64 (q.2.1 - p.2.1) = dy := by rw [← IntWalk.i64_left]; exact E2
          clear hdx hdy hM1 hM2 hrp hrq
          have BX := Lib.hid (below_alloc1 wr (.cells #[.int .i64 p.1, .int .i64 p.2.1, .int .i64 p.2.2, .int .i64 q.1, .int .i64 q.2.1, .int .i64 q.2.2] 91))
          have BK := Lib.hid (heap_alloc_new wr (.cells #[.int .i64 p.1, .int .i64 p.2.1, .int .i64 p.2.2, .int .i64 q.1, .int .i64 q.2.1, .int .i64 q.2.2] 91))
          go_wp2
          clear p0 p1 p2 q0 q1 q2
          obtain ⟨wo, hwo⟩ : ∃ wo : World, wo = wr.alloc (.cells #[.int .i64 p.1, .int .i64 p.2.1, .int .i64 p.2.2, .int .i64 q.1, .int .i64 q.2.1, .int .i64 q.2.2] 91) := ⟨_, rfl⟩
          rw [← hwo] at BX BK ⊢
          have HBO := Lib.hid (HB3.out.trans (BX.out.mono HB3.out.size))
          have hgo : wr.heap.size < wo.heap.size := (Array.getElem?_eq_some_iff.1 BK.out).1
          have y0 := cell_kept (w := wo) (a := ⟨wr.heap.size, 0, none⟩) (v := .int .i64 p.1) hgo (by rw [cell_of_block BK.out]; rfl)
          have y1 := cell_kept (w := wo) (a := ⟨wr.heap.size, 1, none⟩) (v := .int .i64 p.2.1) hgo (by rw [cell_of_block BK.out]; rfl)
          have y3 := cell_kept (w := wo) (a := ⟨wr.heap.size, 3, none⟩) (v := .int .i64 q.1) hgo (by rw [cell_of_block BK.out]; rfl)
          have y4 := cell_kept (w := wo) (a := ⟨wr.heap.size, 4, none⟩) (v := .int .i64 q.2.1) hgo (by rw [cell_of_block BK.out]; rfl)
          clear BX hwo
          have hmx := stk.mixed
          refine wp_region_quiet_kept (by assumption) (by kernel_rfl) ?_
          repeat (first | go_big_quiet_step (fail) | quiet_step (fail))
          refine wpQuiet_nil ?_
          intro w4 hw'
          have hB : Below wo.heap.size wo w4 := by obtain ⟨⟨wk, hb0⟩, hw''⟩ := hw'; rw [hw'']; exact hb0
          have HB4 := Lib.hid (HBO.out.trans (hB.mono HBO.out.size))
          clear hw' hB y0 y1 y3 y4 E1 E2 E3 E4 HBO BK hgo hmx
          by_cases hsx : dx < 0 <;> by_cases hsy : dy < 0
          · have hax : absI dx = -dx := by unfold absI; rw [if_pos hsx]
            have hay : absI dy = -dy := by unfold absI; rw [if_pos hsy]
            rw [hax, hay] at HY HN
            clear hax hay
            by_cases hc : -dx < -dy
            · have e2 := HEK.out.trans (HY.out (by omega))
              have HE2 := Lib.hid e2
              clear HY HN e2
              go_wp2
              all_goals first | (go_roundw; (case rel => exact ⟨k + 1, by omega, by go_num, by rw [HE2.out], by rw [HE2.out], HB4⟩); (case measure => simp [intOf]; omega)) | skip
            · have e2 := HEK.out.trans (HN.out (by omega))
              have HE2 := Lib.hid e2
              clear HY HN e2
              go_wp2
              all_goals first | (go_roundw; (case rel => exact ⟨k + 1, by omega, by go_num, by rw [HE2.out], by rw [HE2.out], HB4⟩); (case measure => simp [intOf]; omega)) | skip
          · have hax : absI dx = -dx := by unfold absI; rw [if_pos hsx]
            have hay : absI dy = dy := by unfold absI; rw [if_neg hsy]
            rw [hax, hay] at HY HN
            clear hax hay
            by_cases hc : -dx < dy
            · have e2 := HEK.out.trans (HY.out (by omega))
              have HE2 := Lib.hid e2
              clear HY HN e2
              go_wp2
              all_goals first | (go_roundw; (case rel => exact ⟨k + 1, by omega, by go_num, by rw [HE2.out], by rw [HE2.out], HB4⟩); (case measure => simp [intOf]; omega)) | skip
            · have e2 := HEK.out.trans (HN.out (by omega))
              have HE2 := Lib.hid e2
              clear HY HN e2
              go_wp2
              all_goals first | (go_roundw; (case rel => exact ⟨k + 1, by omega, by go_num, by rw [HE2.out], by rw [HE2.out], HB4⟩); (case measure => simp [intOf]; omega)) | skip
          · have hax : absI dx = dx := by unfold absI; rw [if_neg hsx]
            have hay : absI dy = -dy := by unfold absI; rw [if_pos hsy]
            rw [hax, hay] at HY HN
            clear hax hay
            by_cases hc : dx < -dy
            · have e2 := HEK.out.trans (HY.out (by omega))
              have HE2 := Lib.hid e2
              clear HY HN e2
              go_wp2
              all_goals first | (go_roundw; (case rel => exact ⟨k + 1, by omega, by go_num, by rw [HE2.out], by rw [HE2.out], HB4⟩); (case measure => simp [intOf]; omega)) | skip
            · have e2 := HEK.out.trans (HN.out (by omega))
              have HE2 := Lib.hid e2
              clear HY HN e2
              go_wp2
              all_goals first | (go_roundw; (case rel => exact ⟨k + 1, by omega, by go_num, by rw [HE2.out], by rw [HE2.out], HB4⟩); (case measure => simp [intOf]; omega)) | skip
          · have hax : absI dx = dx := by unfold absI; rw [if_neg hsx]
            have hay : absI dy = dy := by unfold absI; rw [if_neg hsy]
            rw [hax, hay] at HY HN
            clear hax hay
            by_cases hc : dx < dy
            · have e2 := HEK.out.trans (HY.out (by omega))
              have HE2 := Lib.hid e2
              clear HY HN e2
              go_wp2
              all_goals first | (go_roundw; (case rel => exact ⟨k + 1, by omega, by go_num, by rw [HE2.out], by rw [HE2.out], HB4⟩); (case measure => simp [intOf]; omega)) | skip
            · have e2 := HEK.out.trans (HN.out (by omega))
              have HE2 := Lib.hid e2
              clear HY HN e2
              go_wp2
              all_goals first | (go_roundw; (case rel => exact ⟨k + 1, by omega, by go_num, by rw [HE2.out], by rw [HE2.out], HB4⟩); (case measure => simp [intOf]; omega)) | skip
        · obtain rfl : k = m := by omega
          have HE2 := Lib.hid (show ssI ns ps (i + 1) = ss1 pts a0 k by rw [HE.out]; rfl)
          have HB5 := Lib.hid (HB2.out.trans (HB3.out.mono HB2.out.size))
          go_wp2
          go_roundw
          case rel => exact ⟨i + 1, by omega, by go_num, by rw [HE2.out], by rw [HE2.out], HB5⟩
          case measure => simp [intOf]; omega
    · obtain rfl : i = n := by omega
      have hd := HD.out
      rw [HUV.out]
      simp only
      have hsm := HSS.out
      unfold Sm at hsm
      simp only at hsm
      have hd2 : (v0 == 0) = false := by simp; omega
      have HNR := Lib.hid (fun W => implNear (256 * u0) v0 (by omega) (by omega) (by omega) (by omega) W)
      go_wp2_with fail
      refine (HNR.out _).mono ?_
      rintro e w3 ⟨rfl, rfl⟩
      go_wp2
      go_ret2
      exact ⟨rfl, HB.out⟩
theorem meat (vs0 : Nat → Value) (g0 : Nat → Dat) (ht0 : tyrInk g0) :
    costRec 1 g0 ≤ 1048576 → ∃ (r0 : Int) (r1 : Int), (∀ (W : World) (us0 : Nat → Value), ReadsRec W 1 us0 g0 → Calls Try.prog 23 #[.agg #[us0 0]] W fun e W' => e = .returned (.tuple #[.int .i64 r0, .int .i64 r1]) ∧ Below W.heap.size W W') ∧ (∀ (W : World) (us0 : Nat → Value), ReadsRec W 1 us0 g0 → Calls Try.prog 25 #[.agg #[us0 0]] W fun e W' => e = .returned (.tuple #[.int .i64 r0, .int .i64 r1]) ∧ Below W.heap.size W W') := by
  intro hq
  cases hv : vI (inkN g0) (inkS g0) (inkP g0) with
  | true =>
    by_cases hd : (ssI (inkS g0) (inkP g0) (inkN g0)).2 = 0
    · exact ⟨_, _, fun W us0 h0 => by
          obtain ⟨A, c, e, hn, hs, hp⟩ := reads_ink h0 ht0 hq
          rw [e]; exact spec_zero A _ _ _ W hn hs hp hv hd, fun W us0 h0 => by
          obtain ⟨A, c, e, hn, hs, hp⟩ := reads_ink h0 ht0 hq
          rw [e]; exact impl_zero A _ _ _ W hn hs hp hv hd⟩
    · exact ⟨_, _, fun W us0 h0 => by
          obtain ⟨A, c, e, hn, hs, hp⟩ := reads_ink h0 ht0 hq
          rw [e]; exact spec_yes A _ _ _ W hn hs hp hv hd, fun W us0 h0 => by
          obtain ⟨A, c, e, hn, hs, hp⟩ := reads_ink h0 ht0 hq
          rw [e]; exact impl_yes A _ _ _ W hn hs hp hv hd⟩
  | false =>
    exact ⟨_, _, fun W us0 h0 => by
        obtain ⟨A, c, e, hn, hs, hp⟩ := reads_ink h0 ht0 hq
        rw [e]; exact spec_no A _ _ _ W hn hs hp hv, fun W us0 h0 => by
        obtain ⟨A, c, e, hn, hs, hp⟩ := reads_ink h0 ht0 hq
        rw [e]; exact impl_no A _ _ _ W hn hs hp hv⟩
end Go.Proofs.Ytmphnhffelfbgab.wSlantOf
