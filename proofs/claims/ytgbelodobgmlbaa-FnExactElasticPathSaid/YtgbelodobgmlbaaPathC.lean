/-
  Proved: what the document's function that tells the cost of a path returns.
  Conditions: none.
-/
import Derived.Test.YtgbelodobgmlbaaPathV
namespace Go.Proofs.Ytgbelodobgmlbaa.path
open Go.ChangeShapes Go.WideShapes Go.ChangeAt Go.RowKit Go.Joins
open Go.Proofs.Ytgbelodobgmlbaa.core Go.Proofs.Ytgbelodobgmlbaa.rown Go.Proofs.Ytgbelodobgmlbaa.stk Go.Proofs.Ytgbelodobgmlbaa.boxed Go.Proofs.Ytgbelodobgmlbaa.ft Go.Proofs.Ytgbelodobgmlbaa.seq
set_option linter.unusedVariables false
set_option linter.unusedSimpArgs false
def sumZ (g : Nat → Int) : Nat → Int
  | 0 => 0
  | n + 1 => sumZ g n + g n
theorem sumZ_in {g : Nat → Int} {B : Int} : ∀ {n : Nat}, (∀ j, j < n → 0 ≤ g j ∧ g j ≤ B) → 0 ≤ sumZ g n ∧ sumZ g n ≤ (n : Int) * B
  | 0, _ => by simp [sumZ]
  | n + 1, h => by
    have h1 := sumZ_in (n := n) fun j hj => h j (by omega)
    have h2 := h n (by omega)
    have h3 : ((n + 1 : Nat) : Int) * B = (n : Int) * B + B := by push_cast; rw [Int.add_mul, Int.one_mul]
    rw [h3]; unfold sumZ; omega
/-- The cost of one pair of a path. -/
def pcAt (fa fb : Nat → P3) (f : Nat → P2) (x : Nat) : Int := cst (fa (f x).1.toNat) (fb (f x).2.toNat)
noncomputable def pcR (na nb k : Nat) (fa fb : Nat → P3) (f : Nat → P2) : Int := if fitC na nb k fa fb f = 0 then sumZ (pcAt fa fb f) k else 0
theorem fit_of {na nb k : Nat} {fa fb : Nat → P3} {f : Nat → P2} (h : fitC na nb k fa fb f = 0) : okQ na fa = true ∧ okQ nb fb = true ∧ okPath k f na nb 72 = true := by
  unfold fitC at h
  split at h
  · rename_i h1
    split at h
    · rename_i h2; exact ⟨h1.1, h1.2, h2⟩
    · cases h
  · cases h
theorem fit_any (na nb k : Nat) (fa fb : Nat → P3) (f : Nat → P2) : fitC na nb k fa fb f = 0 ∨ fitC na nb k fa fb f = 1 ∨ fitC na nb k fa fb f = 2 := by
  unfold fitC; split <;> (try split) <;> simp
/-- What a pair of a path points at. -/
theorem fit_at {na nb k : Nat} {fa fb : Nat → P3} {f : Nat → P2} (h : fitC na nb k fa fb f = 0) (x : Nat) (hx : x < k) : ∃ i j, i < na ∧ j < nb ∧ f x = ((i : Int), (j : Int)) ∧ inF (fa i) = true ∧ inF (fb j) = true ∧ pcAt fa fb f x = cst (fa i) (fb j) := by
  obtain ⟨h1, h2, h3⟩ := fit_of h
  obtain ⟨⟨⟨a1, a2⟩, ⟨b1, b2⟩, -⟩, -⟩ := (okPath_of h3).2.2.2 x hx
  refine ⟨(f x).1.toNat, (f x).2.toNat, by omega, by omega, ?_, (okQ_of h1).2.2 _ (by omega), (okQ_of h2).2.2 _ (by omega), rfl⟩
  rw [Prod.ext_iff]
  exact ⟨by simp only; omega, by simp only; omega⟩
set_option maxRecDepth 100000 in
set_option maxHeartbeats 4000000 in
theorem pathCostS {ca cb c : Nat} (A B C : Option Addr) (na nb k : Nat) (fa fb : Nat → P3) (f : Nat → P2) (w : World) (ha : na ≤ 1048576) (hb : nb ≤ 1048576) (hk : k ≤ 1048576) (pa : PtsAt w A na fa) (pb : PtsAt w B nb fb) (pc : SpAt w C k f) :
    Calls Try.prog 34 #[.slice A na ca, .slice B nb cb, .slice C k c] w fun e w' => e = .returned (.tuple #[.int .i64 (pcR na nb k fa fb f), .int .i64 (fitC na nb k fa fb f)]) ∧ Below w.heap.size w w' := by
  have HF := Lib.hid (fitsS (ca := ca) (cb := cb) (c := c) A B C na nb k fa fb f w ha hb hk pa pb pc)
  have HPA := Lib.hid pa
  have HPB := Lib.hid pb
  have HPC := Lib.hid pc
  clear pa pb pc
  by_cases h0 : fitC na nb k fa fb f = 0
  rotate_left
  · have HR := Lib.hid (show pcR na nb k fa fb f = 0 by unfold pcR; rw [if_neg h0])
    have h12 : fitC na nb k fa fb f = 1 ∨ fitC na nb k fa fb f = 2 := by have := fit_any na nb k fa fb f; omega
    rw [HR.out]
    clear h0 HR HPA HPB HPC
    rcases h12 with h | h
    all_goals
      rw [h] at HF ⊢
      clear h
      go_enter Try.func34, Try.ntmps34
      go_wp2_with fail
      refine HF.out.mono ?_
      rintro e w1 ⟨rfl, hb1⟩
      have B1 := Lib.hid hb1
      clear hb1
      go_wp2
      go_ret2
      exact ⟨rfl, B1.out⟩
  have HR := Lib.hid (show pcR na nb k fa fb f = sumZ (pcAt fa fb f) k by unfold pcR; rw [if_pos h0])
  have HAT := Lib.hid (fun x hx => fit_at h0 x hx)
  have HIN := Lib.hid (fun x (hx : x ≤ k) => sumZ_in (g := pcAt fa fb f) (B := 574) (n := x) fun j hj => by
    obtain ⟨i, j', -, -, -, q1, q2, e⟩ := fit_at h0 j (by omega)
    rw [e]; exact cst_in q1 q2)
  rw [HR.out]
  rw [h0] at HF ⊢
  clear h0 HR
  obtain ⟨G, hG⟩ : ∃ G, sumZ (pcAt fa fb f) = G := ⟨_, rfl⟩
  have HG := Lib.hid (show G 0 = 0 ∧ ∀ x, G (x + 1) = G x + pcAt fa fb f x by rw [← hG]; exact ⟨rfl, fun _ => rfl⟩)
  rw [hG] at HIN ⊢
  clear hG
  have hmx : Try.prog.follows .mixedOrders = true := by kernel_rfl
  go_enter Try.func34, Try.ntmps34
  go_wp2_with fail
  refine HF.out.mono ?_
  rintro e w1 ⟨rfl, hb1⟩
  have B1 := Lib.hid hb1
  have PA1 := Lib.hid (HPA.out.kept hb1)
  have PB1 := Lib.hid (HPB.out.kept hb1)
  have PC1 := Lib.hid (HPC.out.kept hb1)
  clear hb1 HF HPA HPB HPC
  go_wp2
  go_loopw [9, 10] (fun s i w' => ∃ x : Nat, x ≤ k ∧ i = .int .i64 (x : Int) ∧ s = .int .i64 (G x) ∧ Hid (Below w1.heap.size w1 w')) (fun _ i _ => k - (intOf i).toNat)
  case atStart => exact ⟨0, Nat.zero_le _, rfl, by rw [HG.out.1], Lib.hid (Below.refl _ _)⟩
  case round =>
    obtain ⟨x, hx, rfl, rfl, HB⟩ := hrel
    by_cases hlt : x < k
    · have hli : (x : Int) < (k : Int) := by omega
      obtain ⟨i, j, hi, hj, hfx, q1, q2, hpc⟩ := HAT.out x hlt
      have hii : (i : Int) < (na : Int) := by omega
      have hjj : (j : Int) < (nb : Int) := by omega
      obtain ⟨g0, o0, rfl, hg0, a0, a1⟩ := (PC1.out.kept HB.out) x hlt
      obtain ⟨g1, o1, rfl, hg1, b0, b1, b2⟩ := (PA1.out.kept HB.out) i hi
      obtain ⟨g2, o2, rfl, hg2, d0, d1, d2⟩ := (PB1.out.kept HB.out) j hj
      rw [hfx] at a0 a1
      simp only at a0 a1
      have hs := HIN.out x (by omega)
      have hs2 := HIN.out (x + 1) (by omega)
      have HN := Lib.hid (show G x + cst (fa i) (fb j) = G (x + 1) by rw [HG.out.2 x, hpc])
      have HC := Lib.hid (fun W => costS (fa i) (fb j) q1 q2 W)
      obtain ⟨p, hp⟩ : ∃ p, fa i = p := ⟨_, rfl⟩
      obtain ⟨q, hq⟩ : ∃ q, fb j = q := ⟨_, rfl⟩
      rw [hp] at b0 b1 b2 HN HC
      rw [hq] at d0 d1 d2 HN HC
      obtain ⟨T, hT⟩ : ∃ T, cst p q = T := ⟨_, rfl⟩
      rw [hT] at HN HC
      obtain ⟨S, hS⟩ : ∃ S, G x = S := ⟨_, rfl⟩
      obtain ⟨S2, hS2⟩ : ∃ S, G (x + 1) = S := ⟨_, rfl⟩
      rw [hS] at hs HN ⊢
      rw [hS2] at hs2 HN
      have E1 : IntKind.i64.wrap (S + T) = S2 := by rw [HN.out]; exact IntWalk.i64_in _ (by omega)
      have F1 : wrap64 (S + T) = S2 := by rw [← IntWalk.i64_left]; exact E1
      have HS2 := Lib.hid hS2
      clear hp hq hT hS hS2 HN hs hs2 hfx hpc q1 q2 HAT
      have A0 := cell_kept (a := ⟨g0, o0 + x * 2, none⟩) hg0 a0
      have A1 := cell_kept (a := ⟨g0, o0 + x * 2 + 1, none⟩) hg0 a1
      have C0 := cell_kept (a := ⟨g1, o1 + i * 3, none⟩) hg1 b0
      have C1 := cell_kept (a := ⟨g1, o1 + i * 3 + 1, none⟩) hg1 b1
      have C2 := cell_kept (a := ⟨g1, o1 + i * 3 + 2, none⟩) hg1 b2
      have D0 := cell_kept (a := ⟨g2, o2 + j * 3, none⟩) hg2 d0
      have D1 := cell_kept (a := ⟨g2, o2 + j * 3 + 1, none⟩) hg2 d1
      have D2 := cell_kept (a := ⟨g2, o2 + j * 3 + 2, none⟩) hg2 d2
      clear a0 a1 b0 b1 b2 d0 d1 d2 hg0 hg1 hg2
      go_wp2
      refine wp_region_quiet_kept (by assumption) (by kernel_rfl) ?_
      repeat (first | go_big_quiet_step (((go_at_call 45; with_reducible exact Calls.kept_of (HC.out _)))) | quiet_step (((go_at_call 45; with_reducible exact Calls.kept_of (HC.out _)))))
      refine wpQuiet_nil ?_
      intro w4 hw'
      have hB : Below wr.heap.size wr w4 := by obtain ⟨⟨wk, hb0⟩, hw''⟩ := hw'; rw [hw'']; exact hb0
      have HB4 := Lib.hid (HB.out.trans (hB.mono HB.out.size))
      clear hw' hB A0 A1 C0 C1 C2 D0 D1 D2
      go_wp2
      go_roundw
      case rel => exact ⟨x + 1, by omega, by go_num, by rw [HS2.out], HB4⟩
      case measure => simp [intOf]; omega
    · obtain rfl : x = k := by omega
      go_wp2
      go_ret2
      exact ⟨rfl, B1.out.trans (HB.out.mono B1.out.size)⟩
end Go.Proofs.Ytgbelodobgmlbaa.path
