/-
  Proved: what the program's functions that test two lists and a path, and that tell the cost of a path, return.
  Conditions: none.
-/
import Derived.Test.YthpmckfjlbiiiabPathI
import Derived.Test.YthpmckfjlbiiiabCostI
import Derived.Test.YthpmckfjlbiiiabTabD
namespace Go.Proofs.Ythpmckfjlbiiiab.path
open Go.ChangeShapes Go.WideShapes Go.ChangeAt Go.RowKit Go.Joins
open Go.Proofs.Ythpmckfjlbiiiab.core Go.Proofs.Ythpmckfjlbiiiab.rown Go.Proofs.Ythpmckfjlbiiiab.stk Go.Proofs.Ythpmckfjlbiiiab.boxed Go.Proofs.Ythpmckfjlbiiiab.ft Go.Proofs.Ythpmckfjlbiiiab.seq
set_option linter.unusedVariables false
set_option linter.unusedSimpArgs false
set_option maxRecDepth 100000 in
set_option maxHeartbeats 4000000 in
theorem fitsI {ca cb c : Nat} (A B C : Option Addr) (na nb k : Nat) (fa fb : Nat → P3) (f : Nat → P2) (w : World) (ha : na ≤ 1048576) (hb : nb ≤ 1048576) (hk : k ≤ 1048576) (pa : PtsAt w A na fa) (pb : PtsAt w B nb fb) (pc : SpAt w C k f) :
    Calls Try.prog 60 #[.slice A na ca, .slice B nb cb, .slice C k c] w fun e w' => e = .returned (.int .i64 (fitC na nb k fa fb f)) ∧ Below w.heap.size w w' := by
  have HA := Lib.hid (okQI (c := ca) A na fa w ha pa)
  have HPB := Lib.hid pb
  have HPC := Lib.hid pc
  clear pa pb pc
  cases va : okQ na fa with
  | false =>
    have HV := Lib.hid (show fitC na nb k fa fb f = 1 by unfold fitC; rw [if_neg (fun h => by rw [va] at h; cases h.1)])
    rw [va] at HA
    clear va
    have hu : undef = Value.tuple #[] := rfl
    go_enter Try.func60, Try.ntmps60
    go_wp2_with fail
    refine HA.out.mono ?_
    rintro e w1 ⟨rfl, hb⟩
    have B1 := Lib.hid hb
    clear hb
    go_wp2
    go_ret
    exact ⟨by rw [HV.out]; rfl, B1.out⟩
  | true =>
    rw [va] at HA
    cases vb : okQ nb fb with
    | false =>
      have HV := Lib.hid (show fitC na nb k fa fb f = 1 by unfold fitC; rw [if_neg (fun h => by rw [vb] at h; cases h.2)])
      have HQ := Lib.hid (fun W hW => okQI (c := cb) B nb fb W hb hW)
      rw [vb] at HQ
      clear va vb
      go_enter Try.func60, Try.ntmps60
      go_wp2_with fail
      refine HA.out.mono ?_
      rintro e w1 ⟨rfl, hb1⟩
      have B1 := Lib.hid hb1
      have HQ1 := Lib.hid (HQ.out w1 (HPB.out.kept hb1))
      clear hb1
      go_wp2_with fail
      refine HQ1.out.mono ?_
      rintro e w2 ⟨rfl, hb2⟩
      have B2 := Lib.hid (B1.out.trans (hb2.mono B1.out.size))
      clear hb2
      go_wp2
      go_ret
      exact ⟨by rw [HV.out]; rfl, B2.out⟩
    | true =>
      have HQ := Lib.hid (fun W hW => okQI (c := cb) B nb fb W hb hW)
      rw [vb] at HQ
      have ba := (okQ_of va).1
      have ba2 := (okQ_of va).2.1
      have bb2 := (okQ_of vb).2.1
      have bb := (okQ_of vb).1
      have HC := Lib.hid (fun W hW => pathI (c := c) C k f na nb 72 W hk (by unfold inI64; omega) (by unfold inI64; omega) hW)
      have HVP := Lib.hid (show vP k f na nb 72 = okPath k f na nb 72 by unfold vP; rw [if_pos ⟨by omega, by omega⟩])
      have HV := Lib.hid (show fitC na nb k fa fb f = if okPath k f na nb 72 = true then 0 else 2 by unfold fitC; rw [if_pos ⟨va, vb⟩])
      rw [HVP.out] at HC
      clear va vb HVP
      obtain ⟨r, hr⟩ : ∃ r, okPath k f na nb 72 = r := ⟨_, rfl⟩
      rw [hr] at HC HV
      clear hr
      go_enter Try.func60, Try.ntmps60
      go_wp2_with fail
      refine HA.out.mono ?_
      rintro e w1 ⟨rfl, hb1⟩
      have B1 := Lib.hid hb1
      have HQ1 := Lib.hid (HQ.out w1 (HPB.out.kept hb1))
      clear hb1
      go_wp2_with fail
      refine HQ1.out.mono ?_
      rintro e w2 ⟨rfl, hb2⟩
      have B2 := Lib.hid (B1.out.trans (hb2.mono B1.out.size))
      have HC2 := Lib.hid (HC.out w2 (HPC.out.kept B2.out))
      clear hb2
      go_wp2_with fail
      refine HC2.out.mono ?_
      rintro e w3 ⟨rfl, hb3⟩
      have B3 := Lib.hid (B2.out.trans (hb3.mono B2.out.size))
      clear hb3
      cases r
      all_goals
        go_wp2
        go_ret
        exact ⟨by rw [HV.out]; rfl, B3.out⟩
set_option maxRecDepth 100000 in
set_option maxHeartbeats 4000000 in
theorem pathCostI {ca cb c : Nat} (A B C : Option Addr) (na nb k : Nat) (fa fb : Nat → P3) (f : Nat → P2) (w : World) (ha : na ≤ 1048576) (hb : nb ≤ 1048576) (hk : k ≤ 1048576) (pa : PtsAt w A na fa) (pb : PtsAt w B nb fb) (pc : SpAt w C k f) :
    Calls Try.prog 27 #[.slice A na ca, .slice B nb cb, .slice C k c] w fun e w' => e = .returned (.tuple #[.int .i64 (pcR na nb k fa fb f), .int .i64 (fitC na nb k fa fb f)]) ∧ Below w.heap.size w w' := by
  have HF := Lib.hid (fitsI (ca := ca) (cb := cb) (c := c) A B C na nb k fa fb f w ha hb hk pa pb pc)
  have HPA := Lib.hid pa
  have HPB := Lib.hid pb
  have HPC := Lib.hid pc
  clear pa pb pc
  by_cases h0 : fitC na nb k fa fb f = 0
  rotate_left
  · have HR := Lib.hid (show pcR na nb k fa fb f = 0 by unfold pcR; rw [if_neg h0])
    have h12 : fitC na nb k fa fb f = 1 ∨ fitC na nb k fa fb f = 2 := by have := fit_any na nb k fa fb f; omega
    rw [HR.out]
    clear h0 HR HPA HPB HPC
    rcases h12 with h | h
    all_goals
      rw [h] at HF ⊢
      clear h
      go_enter Try.func27, Try.ntmps27
      go_wp2_with fail
      refine HF.out.mono ?_
      rintro e w1 ⟨rfl, hb1⟩
      have B1 := Lib.hid hb1
      clear hb1
      go_wp2
      go_ret2
      exact ⟨rfl, B1.out⟩
  have HR := Lib.hid (show pcR na nb k fa fb f = sumZ (pcAt fa fb f) k by unfold pcR; rw [if_pos h0])
  have HAT := Lib.hid (fun x hx => fit_at h0 x hx)
  have HIN := Lib.hid (fun x (hx : x ≤ k) => sumZ_in (g := pcAt fa fb f) (B := 574) (n := x) fun j hj => by
    obtain ⟨i, j', -, -, -, q1, q2, e⟩ := fit_at h0 j (by omega)
    rw [e]; exact cst_in q1 q2)
  rw [HR.out]
  rw [h0] at HF ⊢
  clear h0 HR
  obtain ⟨G, hG⟩ : ∃ G, sumZ (pcAt fa fb f) = G := ⟨_, rfl⟩
  have HG := Lib.hid (show G 0 = 0 ∧ ∀ x, G (x + 1) = G x + pcAt fa fb f x by rw [← hG]; exact ⟨rfl, fun _ => rfl⟩)
  rw [hG] at HIN ⊢
  clear hG
  have hmx : Try.prog.follows .mixedOrders = true := by kernel_rfl
  go_enter Try.func27, Try.ntmps27
  go_wp2_with fail
  refine HF.out.mono ?_
  rintro e w1 ⟨rfl, hb1⟩
  have B1 := Lib.hid hb1
  have PA1 := Lib.hid (HPA.out.kept hb1)
  have PB1 := Lib.hid (HPB.out.kept hb1)
  have PC1 := Lib.hid (HPC.out.kept hb1)
  clear hb1 HF HPA HPB HPC
  go_wp2
  go_loopw [9, 21] (fun s i w' => ∃ x : Nat, x ≤ k ∧ i = .int .i64 (x : Int) ∧ s = .int .i64 (G x) ∧ Hid (Below w1.heap.size w1 w')) (fun _ i _ => k - (intOf i).toNat)
  case atStart => exact ⟨0, Nat.zero_le _, rfl, by rw [HG.out.1], Lib.hid (Below.refl _ _)⟩
  case round =>
    obtain ⟨x, hx, rfl, rfl, HB⟩ := hrel
    by_cases hlt : x < k
    · have hli : (x : Int) < (k : Int) := by omega
      obtain ⟨i, j, hi, hj, hfx, q1, q2, hpc⟩ := HAT.out x hlt
      have hii : (i : Int) < (na : Int) := by omega
      have hjj : (j : Int) < (nb : Int) := by omega
      obtain ⟨g0, o0, rfl, hg0, a0, a1⟩ := (PC1.out.kept HB.out) x hlt
      obtain ⟨g1, o1, rfl, hg1, b0, b1, b2⟩ := (PA1.out.kept HB.out) i hi
      obtain ⟨g2, o2, rfl, hg2, d0, d1, d2⟩ := (PB1.out.kept HB.out) j hj
      rw [hfx] at a0 a1
      simp only at a0 a1
      have hs := HIN.out x (by omega)
      have hs2 := HIN.out (x + 1) (by omega)
      have HN := Lib.hid (show G x + cst (fa i) (fb j) = G (x + 1) by rw [HG.out.2 x, hpc])
      have HC := Lib.hid (fun W => costI (fa i) (fb j) q1 q2 W)
      obtain ⟨p, hp⟩ : ∃ p, fa i = p := ⟨_, rfl⟩
      obtain ⟨q, hq⟩ : ∃ q, fb j = q := ⟨_, rfl⟩
      rw [hp] at b0 b1 b2 HN HC
      rw [hq] at d0 d1 d2 HN HC
      obtain ⟨T, hT⟩ : ∃ T, cst p q = T := ⟨_, rfl⟩
      rw [hT] at HN HC
      obtain ⟨S, hS⟩ : ∃ S, G x = S := ⟨_, rfl⟩
      obtain ⟨S2, hS2⟩ : ∃ S, G (x + 1) = S := ⟨_, rfl⟩
      rw [hS] at hs HN ⊢
      rw [hS2] at hs2 HN
      have E1 : IntKind.i64.wrap (S + T) = S2 := by rw [HN.out]; exact IntWalk.i64_in _ (by omega)
      have F1 : wrap64 (S + T) = S2 := by rw [← IntWalk.i64_left]; exact E1
      have HS2 := Lib.hid hS2
      clear hp hq hT hS hS2 HN hs hs2 hfx hpc q1 q2 HAT
      have B8 := Lib.hid (HB.out.trans ((below_alloc1 wr (.cells #[.int .i64 (i : Int), .int .i64 (j : Int)] 59)).mono HB.out.size))
      go_wp2
      have K0 := heap_alloc_new wr (.cells #[.int .i64 (i : Int), .int .i64 (j : Int)] 59)
      have hbw : Below wr.heap.size wr (wr.alloc (.cells #[.int .i64 (i : Int), .int .i64 (j : Int)] 59)) := below_alloc1 _ _
      obtain ⟨w0, hw0⟩ : ∃ v, v = wr.alloc (.cells #[.int .i64 (i : Int), .int .i64 (j : Int)] 59) := ⟨_, rfl⟩
      rw [← hw0] at B8 K0 hbw ⊢
      have z1 := Nat.lt_of_lt_of_le hg1 hbw.size
      have z2 := Nat.lt_of_lt_of_le hg2 hbw.size
      have A0 := cell_kept (w := w0) (a := ⟨wr.heap.size, 0, none⟩) (v := .int .i64 (i : Int)) (block_size K0) (by rw [cell_of_block K0]; rfl)
      have A1 := cell_kept (w := w0) (a := ⟨wr.heap.size, 1, none⟩) (v := .int .i64 (j : Int)) (block_size K0) (by rw [cell_of_block K0]; rfl)
      have C0 := cell_kept (a := ⟨g1, o1 + i * 3, none⟩) z1 ((hbw.cell (p := ⟨g1, o1 + i * 3, none⟩) hg1).trans b0)
      have C1 := cell_kept (a := ⟨g1, o1 + i * 3 + 1, none⟩) z1 ((hbw.cell (p := ⟨g1, o1 + i * 3 + 1, none⟩) hg1).trans b1)
      have C2 := cell_kept (a := ⟨g1, o1 + i * 3 + 2, none⟩) z1 ((hbw.cell (p := ⟨g1, o1 + i * 3 + 2, none⟩) hg1).trans b2)
      have D0 := cell_kept (a := ⟨g2, o2 + j * 3, none⟩) z2 ((hbw.cell (p := ⟨g2, o2 + j * 3, none⟩) hg2).trans d0)
      have D1 := cell_kept (a := ⟨g2, o2 + j * 3 + 1, none⟩) z2 ((hbw.cell (p := ⟨g2, o2 + j * 3 + 1, none⟩) hg2).trans d1)
      have D2 := cell_kept (a := ⟨g2, o2 + j * 3 + 2, none⟩) z2 ((hbw.cell (p := ⟨g2, o2 + j * 3 + 2, none⟩) hg2).trans d2)
      clear a0 a1 b0 b1 b2 d0 d1 d2 hg0 hg1 hg2 z1 z2 hbw
      refine wp_region_quiet_kept (by assumption) (by kernel_rfl) ?_
      repeat (first | go_big_quiet_step (((go_at_call 61; with_reducible exact Calls.kept_of (HC.out _)))) | quiet_step (((go_at_call 61; with_reducible exact Calls.kept_of (HC.out _)))))
      refine wpQuiet_nil ?_
      intro w4 hw'
      have hB : Below w0.heap.size w0 w4 := by obtain ⟨⟨wk, hb0⟩, hw''⟩ := hw'; rw [hw'']; exact hb0
      have HB4 := Lib.hid (B8.out.trans (hB.mono B8.out.size))
      clear hw' hB A0 A1 C0 C1 C2 D0 D1 D2
      go_wp2
      go_roundw
      case rel => exact ⟨x + 1, by omega, by go_num, by rw [HS2.out], HB4⟩
      case measure => simp [intOf]; omega
    · obtain rfl : x = k := by omega
      go_wp2
      go_ret2
      exact ⟨rfl, B1.out.trans (HB.out.mono B1.out.size)⟩
end Go.Proofs.Ythpmckfjlbiiiab.path
