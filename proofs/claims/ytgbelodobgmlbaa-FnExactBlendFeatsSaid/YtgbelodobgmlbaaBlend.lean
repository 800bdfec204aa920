/-
  Proved: what the document's function that blends two sequences along a path returns.
  Conditions: the path fits both sequences.
-/
import Derived.Test.YtgbelodobgmlbaaPathC
import Derived.Test.YtgbelodobgmlbaaNear3
import Derived.StillTailTactics
namespace Go.Proofs.Ytgbelodobgmlbaa.path
open Go.ChangeShapes Go.WideShapes Go.ChangeAt Go.RowKit Go.Joins
open Go.Proofs.Ytgbelodobgmlbaa.core Go.Proofs.Ytgbelodobgmlbaa.rown Go.Proofs.Ytgbelodobgmlbaa.stk Go.Proofs.Ytgbelodobgmlbaa.boxed Go.Proofs.Ytgbelodobgmlbaa.ft Go.Proofs.Ytgbelodobgmlbaa.seq Go.Proofs.Ytgbelodobgmlbaa.near
set_option linter.unusedVariables false
set_option linter.unusedSimpArgs false
/-- The sum over the pairs of a path that stand at i. -/
def bs (f : Nat → P2) (g : Nat → Int) (i : Nat) : Nat → Int
  | 0 => 0
  | p + 1 => if (f p).1 = (i : Int) then bs f g i p + g p else bs f g i p
theorem bs_in {f : Nat → P2} {g : Nat → Int} {i : Nat} {B : Int} (hB : 0 ≤ B) : ∀ {n : Nat}, (∀ p, p < n → 0 ≤ g p ∧ g p ≤ B) → 0 ≤ bs f g i n ∧ bs f g i n ≤ (n : Int) * B
  | 0, _ => by simp [bs]
  | n + 1, h => by
    have h1 := bs_in (f := f) (g := g) (i := i) hB (n := n) fun j hj => h j (by omega)
    have h2 := h n (by omega)
    have h3 : ((n + 1 : Nat) : Int) * B = (n : Int) * B + B := by push_cast; rw [Int.add_mul, Int.one_mul]
    rw [h3]; unfold bs; split <;> omega
theorem bs_pos {f : Nat → P2} {i p : Nat} (hp : (f p).1 = (i : Int)) : ∀ n, p < n → 1 ≤ bs f (fun _ => 1) i n
  | 0, h => absurd h (by omega)
  | n + 1, h => by
    have h0 := (bs_in (f := f) (g := fun _ => 1) (i := i) (B := 1) (by omega) (n := n) fun _ _ => ⟨by omega, by omega⟩).1
    unfold bs
    split
    · omega
    · rename_i hne
      have hpn : p ≠ n := fun e => hne (e ▸ hp)
      exact bs_pos hp n (by omega)
/-- A path stands at each place of the first list. -/
theorem path_hits {k : Nat} {f : Nat → P2} {n m band : Int} (h : okPath k f n m band = true) (i : Nat) (hi : (i : Int) < n) : ∃ p, p < k ∧ (f p).1 = (i : Int) := by
  obtain ⟨h0, ⟨h1, -⟩, ⟨h2, -⟩, h3⟩ := okPath_of h
  have key : ∀ p, p < k → ∀ i : Nat, (i : Int) ≤ (f p).1 → ∃ q, q ≤ p ∧ (f q).1 = (i : Int) := by
    intro p
    induction p with
    | zero => intro _ i hi; exact ⟨0, Nat.le_refl _, by omega⟩
    | succ p ih =>
      intro hp i hi
      by_cases hle : (i : Int) ≤ (f p).1
      · obtain ⟨q, hq, e⟩ := ih (by omega) i hle
        exact ⟨q, by omega, e⟩
      · have hs := (h3 (p + 1) hp).2 (by omega)
        rw [Nat.add_sub_cancel] at hs
        exact ⟨p + 1, Nat.le_refl _, by have := hs.1; omega⟩
  obtain ⟨q, hq, e⟩ := key (k - 1) (by omega) i (by omega)
  exact ⟨q, by omega, e⟩
def gXf (fb : Nat → P3) (f : Nat → P2) (p : Nat) : Int := (fb (f p).2.toNat).1
def gYf (fb : Nat → P3) (f : Nat → P2) (p : Nat) : Int := (fb (f p).2.toNat).2.1
/-- The feature at a place of the blend. -/
def blendAt (k : Nat) (fa fb : Nat → P3) (f : Nat → P2) (i : Nat) : P3 :=
  (nr (bs f (gXf fb f) i k + bs f (fun _ => 1) i k * (fa i).1) (2 * bs f (fun _ => 1) i k), nr (bs f (gYf fb f) i k + bs f (fun _ => 1) i k * (fa i).2.1) (2 * bs f (fun _ => 1) i k), (fa i).2.2)
theorem mul_in {K a k : Int} (h1 : 0 ≤ K) (h2 : K ≤ k) (h3 : 0 ≤ a) (h4 : a ≤ 255) : 0 ≤ K * a ∧ K * a ≤ k * 255 := ⟨Int.mul_nonneg h1 h3, Int.mul_le_mul h2 h4 h3 (by omega)⟩
theorem still_f {P : Program} {f : FuncId} {args : Array Value} {w : World} {v : Value} (h : Calls P f args w fun e w' => e = .returned v ∧ w = w') : Calls P f args w fun e w' => e = .returned v ∧ w' = w := h.mono fun _ _ ⟨he, hw⟩ => ⟨he, hw.symm⟩
set_option maxRecDepth 100000 in
set_option maxHeartbeats 8000000 in
theorem l09BlendS {ca cb c : Nat} (A B C : Option Addr) (na nb k : Nat) (fa fb : Nat → P3) (f : Nat → P2) (w : World) (hk : k ≤ 1048576) (pa : PtsAt w A na fa) (pb : PtsAt w B nb fb) (pc : SpAt w C k f) (h0 : fitC na nb k fa fb f = 0) :
    Calls Try.prog 65 #[.slice A na ca, .slice B nb cb, .slice C k c] w fun e w' => ∃ v, e = .returned v ∧ w'.ownsRow w.heap.size 33 3 v na (rws (row3 (blendAt k fa fb f)) na) ∧ Below w.heap.size w w' := by
  obtain ⟨i0, hi0, hz0, hz1, hz2⟩ := rown.info_get infoFeat
  obtain ⟨va, vb, vp⟩ := fit_of h0
  have ha72 := (okQ_of va).2.1
  have HAT := Lib.hid (fun x hx => fit_at h0 x hx)
  have HVA := Lib.hid (okQ_of va).2.2
  have HHIT := Lib.hid (fun i (hi : i < na) => path_hits vp i (by omega))
  have HGX := Lib.hid (show ∀ p, p < k → (0 ≤ gXf fb f p ∧ gXf fb f p ≤ 255) ∧ (0 ≤ gYf fb f p ∧ gYf fb f p ≤ 255) from fun p hp => by
    obtain ⟨a, b, -, -, e, -, q2, -⟩ := fit_at h0 p hp
    have := inF_of q2
    unfold gXf gYf
    rw [e]
    simp only [Int.toNat_natCast]
    omega)
  have HPA := Lib.hid pa
  have HPB := Lib.hid pb
  have HPC := Lib.hid pc
  obtain ⟨F, hF⟩ : ∃ F, F = blendAt k fa fb f := ⟨_, rfl⟩
  have HF := Lib.hid hF
  rw [← hF]
  clear pa pb pc h0 va vb vp hF
  have hmx : Try.prog.follows .mixedOrders = true := by kernel_rfl
  go_enter Try.func65, Try.ntmps65
  go_wp2
  go_loopw [7, 8] (fun o i w' => ∃ (i' d : Nat) (D : Option Addr), i' ≤ na ∧ i = .int .i64 (i' : Int) ∧ o = .slice D i' d ∧ Hid (w'.ownsRow w.heap.size 33 3 (.slice D i' d) i' (rws (row3 F) i')) ∧ Hid (Below w.heap.size w w')) (fun _ i _ => na - (intOf i).toNat)
  case atStart => exact ⟨0, 0, _, Nat.zero_le _, rfl, rfl, Lib.hid (empty_row w _ _), Lib.hid (below_alloc1 _ _)⟩
  case round =>
    obtain ⟨i, d, D, hi, rfl, rfl, HO, HB⟩ := hrel
    by_cases hli : i < na
    · have hix : (i : Int) < (na : Int) := by omega
      have hi0' : (0 : Int) ≤ (i : Int) := by omega
      obtain ⟨X, hX⟩ : ∃ G, bs f (gXf fb f) i = G := ⟨_, rfl⟩
      obtain ⟨Y, hY⟩ : ∃ G, bs f (gYf fb f) i = G := ⟨_, rfl⟩
      obtain ⟨Q, hQ⟩ : ∃ G, bs f (fun _ => 1) i = G := ⟨_, rfl⟩
      have HX := Lib.hid (show X 0 = 0 ∧ ∀ p, X (p + 1) = if (f p).1 = (i : Int) then X p + gXf fb f p else X p by rw [← hX]; exact ⟨rfl, fun _ => rfl⟩)
      have HY := Lib.hid (show Y 0 = 0 ∧ ∀ p, Y (p + 1) = if (f p).1 = (i : Int) then Y p + gYf fb f p else Y p by rw [← hY]; exact ⟨rfl, fun _ => rfl⟩)
      have HQ := Lib.hid (show Q 0 = 0 ∧ ∀ p, Q (p + 1) = if (f p).1 = (i : Int) then Q p + 1 else Q p by rw [← hQ]; exact ⟨rfl, fun _ => rfl⟩)
      have HXI := Lib.hid (show ∀ p, p ≤ k → (0 ≤ X p ∧ X p ≤ (p : Int) * 255) ∧ (0 ≤ Y p ∧ Y p ≤ (p : Int) * 255) ∧ (0 ≤ Q p ∧ Q p ≤ (p : Int) * 1) from fun p hp => by
        rw [← hX, ← hY, ← hQ]
        exact ⟨bs_in (by omega) fun x hx => (HGX.out x (by omega)).1, bs_in (by omega) fun x hx => (HGX.out x (by omega)).2, bs_in (by omega) fun _ _ => ⟨by omega, by omega⟩⟩)
      have HQP := Lib.hid (show 1 ≤ Q k by obtain ⟨p, hp, e⟩ := HHIT.out i hli; rw [← hQ]; exact bs_pos e k hp)
      have HFI := Lib.hid (show F i = (nr (X k + Q k * (fa i).1) (2 * Q k), nr (Y k + Q k * (fa i).2.1) (2 * Q k), (fa i).2.2) by rw [HF.out, ← hX, ← hY, ← hQ]; rfl)
      have HLI := Lib.hid hli
      clear hX hY hQ
      go_wp2
      go_loopw [9, 10, 11, 12] (fun x y n p w' => ∃ q : Nat, q ≤ k ∧ p = .int .i64 (q : Int) ∧ x = .int .i64 (X q) ∧ y = .int .i64 (Y q) ∧ n = .int .i64 (Q q) ∧ Hid (w'.ownsRow w.heap.size 33 3 (.slice D i d) i (rws (row3 F) i)) ∧ Hid (Below w.heap.size w w')) (fun _ _ _ p _ => k - (intOf p).toNat)
      case atStart => exact ⟨0, Nat.zero_le _, rfl, by rw [HX.out.1], by rw [HY.out.1], by rw [HQ.out.1], HO, HB⟩
      case round =>
        obtain ⟨q, hq, rfl, rfl, rfl, rfl, HO2, HB2⟩ := hrel
        by_cases hlq : q < k
        · have hqx : (q : Int) < (k : Int) := by omega
          obtain ⟨a, b, han, hbn, hfq, -, -, -⟩ := HAT.out q hlq
          obtain ⟨g0, o0, rfl, hg0, p0, p1⟩ := (HPC.out.kept HB2.out) q hlq
          have h1 := HXI.out q (by omega)
          have h2 := HXI.out (q + 1) (by omega)
          have e1 := HX.out.2 q
          have e2 := HY.out.2 q
          have e3 := HQ.out.2 q
          rw [hfq] at p0 p1 e1 e2 e3
          simp only at p0 p1 e1 e2 e3
          by_cases hai : a = i
          · subst hai
            rw [if_pos rfl] at e1 e2 e3
            have hbx : (b : Int) < (nb : Int) := by omega
            obtain ⟨g1, o1, rfl, hg1, b0, b1, b2⟩ := (HPB.out.kept HB2.out) b hbn
            have hgx : gXf fb f q = (fb b).1 := by unfold gXf; rw [hfq]; rfl
            have hgy : gYf fb f q = (fb b).2.1 := by unfold gYf; rw [hfq]; rfl
            rw [hgx] at e1
            rw [hgy] at e2
            obtain ⟨pp, hpp⟩ : ∃ p, fb b = p := ⟨_, rfl⟩
            rw [hpp] at b0 b1 b2 e1 e2
            have HX1 := Lib.hid e1
            have HY1 := Lib.hid e2
            have HQ1 := Lib.hid e3
            obtain ⟨X0, hX0⟩ : ∃ v, X q = v := ⟨_, rfl⟩
            obtain ⟨Y0, hY0⟩ : ∃ v, Y q = v := ⟨_, rfl⟩
            obtain ⟨Q0, hQ0⟩ : ∃ v, Q q = v := ⟨_, rfl⟩
            obtain ⟨X1, hX1⟩ : ∃ v, X (q + 1) = v := ⟨_, rfl⟩
            obtain ⟨Y1, hY1⟩ : ∃ v, Y (q + 1) = v := ⟨_, rfl⟩
            obtain ⟨Q1, hQ1⟩ : ∃ v, Q (q + 1) = v := ⟨_, rfl⟩
            have GX := Lib.hid hX1
            have GY := Lib.hid hY1
            have GQ := Lib.hid hQ1
            rw [hX0, hX1] at e1
            rw [hY0, hY1] at e2
            rw [hQ0, hQ1] at e3
            rw [hX1, hY1, hQ1] at h2
            rw [hX0, hY0, hQ0] at h1 ⊢
            have E1 : IntKind.i64.wrap (X0 + pp.1) = X1 := by rw [← e1]; exact IntWalk.i64_in _ (by omega)
            have E2 : IntKind.i64.wrap (Y0 + pp.2.1) = Y1 := by rw [← e2]; exact IntWalk.i64_in _ (by omega)
            have E3 : IntKind.i64.wrap (Q0 + 1) = Q1 := by rw [← e3]; exact IntWalk.i64_in _ (by omega)
            have F1 : wrap64 (X0 + pp.1) = X1 := by rw [← IntWalk.i64_left]; exact E1
            have F2 : wrap64 (Y0 + pp.2.1) = Y1 := by rw [← IntWalk.i64_left]; exact E2
            have F3 : wrap64 (Q0 + 1) = Q1 := by rw [← IntWalk.i64_left]; exact E3
            clear HX1 HY1 HQ1 e1 e2 e3 h1 h2 hX0 hY0 hQ0 hX1 hY1 hQ1 hpp hgx hgy hfq hg0 hg1
            go_wp2
            go_roundw
            case rel => exact ⟨q + 1, by omega, by go_num, by rw [GX.out], by rw [GY.out], by rw [GQ.out], HO2, HB2⟩
            case measure => simp [intOf]; omega
          · have hne : ¬ (a : Int) = (i : Int) := by omega
            have hne1 : ((a : Int) == (i : Int)) = false := by simp; omega
            rw [if_neg hne] at e1 e2 e3
            have GX := Lib.hid e1
            have GY := Lib.hid e2
            have GQ := Lib.hid e3
            clear e1 e2 e3 h1 h2 hfq hg0
            go_wp2
            go_roundw
            case rel => exact ⟨q + 1, by omega, by go_num, by rw [GX.out], by rw [GY.out], by rw [GQ.out], HO2, HB2⟩
            case measure => simp [intOf]; omega
        · obtain rfl : q = k := by omega
          have hs := HXI.out q (Nat.le_refl _)
          have hqp := HQP.out
          obtain ⟨g1, o1, rfl, hg1, a0, a1, a2⟩ := (HPA.out.kept HB2.out) i HLI.out
          have hin := inF_of (HVA.out i HLI.out)
          have HEI := Lib.hid HFI.out
          have HE := Lib.hid (show rws (row3 F) (i + 1) = rws (row3 F) i ++ c3 (F i) by rw [rws_succ]; rfl)
          obtain ⟨pp, hpp⟩ : ∃ p, fa i = p := ⟨_, rfl⟩
          rw [hpp] at a0 a1 a2 hin HEI
          obtain ⟨X0, hX0⟩ : ∃ v, X q = v := ⟨_, rfl⟩
          obtain ⟨Y0, hY0⟩ : ∃ v, Y q = v := ⟨_, rfl⟩
          obtain ⟨Q0, hQ0⟩ : ∃ v, Q q = v := ⟨_, rfl⟩
          rw [hX0, hY0, hQ0] at hs HEI ⊢
          rw [hQ0] at hqp
          have hm1 := mul_in (K := Q0) (k := (q : Int)) (a := pp.1) (by omega) (by omega) (by omega) (by omega)
          have hm2 := mul_in (K := Q0) (k := (q : Int)) (a := pp.2.1) (by omega) (by omega) (by omega) (by omega)
          obtain ⟨M1, hM1⟩ : ∃ v, Q0 * pp.1 = v := ⟨_, rfl⟩
          obtain ⟨M2, hM2⟩ : ∃ v, Q0 * pp.2.1 = v := ⟨_, rfl⟩
          rw [hM1] at hm1 HEI
          rw [hM2] at hm2 HEI
          have E1 : IntKind.i64.wrap (Q0 * pp.1) = M1 := by rw [hM1]; exact IntWalk.i64_in _ (by omega)
          have E2 : IntKind.i64.wrap (Q0 * pp.2.1) = M2 := by rw [hM2]; exact IntWalk.i64_in _ (by omega)
          have F1 : wrap64 (Q0 * pp.1) = M1 := by rw [← IntWalk.i64_left]; exact E1
          have F2 : wrap64 (Q0 * pp.2.1) = M2 := by rw [← IntWalk.i64_left]; exact E2
          have HNX := Lib.hid (fun W => specNear3 (X0 + M1) (2 * Q0) (by omega) (by omega) (by omega) (by omega) W)
          have HNY := Lib.hid (fun W => specNear3 (Y0 + M2) (2 * Q0) (by omega) (by omega) (by omega) (by omega) W)
          obtain ⟨S1, hS1⟩ : ∃ v, X0 + M1 = v := ⟨_, rfl⟩
          obtain ⟨S2, hS2⟩ : ∃ v, Y0 + M2 = v := ⟨_, rfl⟩
          obtain ⟨S3, hS3⟩ : ∃ v, 2 * Q0 = v := ⟨_, rfl⟩
          have E3 : IntKind.i64.wrap (X0 + M1) = S1 := by rw [hS1]; exact IntWalk.i64_in _ (by omega)
          have E4 : IntKind.i64.wrap (Y0 + M2) = S2 := by rw [hS2]; exact IntWalk.i64_in _ (by omega)
          have E5 : IntKind.i64.wrap (2 * Q0) = S3 := by rw [hS3]; exact IntWalk.i64_in _ (by omega)
          have F3 : wrap64 (X0 + M1) = S1 := by rw [← IntWalk.i64_left]; exact E3
          have F4 : wrap64 (Y0 + M2) = S2 := by rw [← IntWalk.i64_left]; exact E4
          have F5 : wrap64 (2 * Q0) = S3 := by rw [← IntWalk.i64_left]; exact E5
          rw [hS1, hS3] at HNX
          rw [hS2, hS3] at HNY
          rw [hS1, hS2, hS3] at HEI
          obtain ⟨R1, hR1⟩ : ∃ v, nr S1 S3 = v := ⟨_, rfl⟩
          obtain ⟨R2, hR2⟩ : ∃ v, nr S2 S3 = v := ⟨_, rfl⟩
          rw [hR1] at HNX HEI
          rw [hR2] at HNY HEI
          rw [HEI.out] at HE
          clear hpp hX0 hY0 hQ0 hM1 hM2 hS1 hS2 hS3 hR1 hR2 hs hqp hm1 hm2 HEI hin hmx
          have HOD := Lib.hid (show wr.drew.ownsRow w.heap.size 33 3 (.slice D i d) i (rws (row3 F) i) from rown.ownsRow_kept HO2.out (Below.refl _ _).drew)
          have hzr := HB2.out.size
          go_wp2
          go_region_law (first
            | (refine step_append_lies _ rfl (.tmp 57) (.tmp 88) _ rfl w.heap.size 33 i0 _ 3 24 Try.underlying25 hi0 hz0 hz1 hz2 rfl (by omega) (.slice D i d) i _ (by simp [Act.eval]) (rown.ownsRow_kept HOD.out (below_alloc1 _ _)) ⟨wr.heap.size, 0, none⟩ 1 1 [.int .i64 R1, .int .i64 R2, .int .i64 pp.2.2] (by simp [Act.eval]) (by simp) (three_new rfl) (by simp [Value.oneCell']) (by omega) (by simp only [maxLen]; omega) (by omega) (Nat.le_trans hzr (by simp)) _ rfl ?_; intro g3 cap3 w5 hown hgr hat hlt3; have HO4 := Lib.hid hown; have HB4 := Lib.hid (HB2.out.trans ((Below.refl _ _).drew.trans (rown.under HOD.out hzr hgr))); clear hown hgr hat)
            | (go_simp; go_at_call 78; (first | (with_reducible refine (HNX.out _).mono ?_) | (with_reducible refine (HNY.out _).mono ?_)); rintro e wl ⟨rfl, rfl⟩))
          all_goals
            clear a0 a1 a2 E1 E2 E3 E4 E5 F1 F2 F3 F4 F5
            go_wp2
            go_roundw
            case rel => exact ⟨i + 1, cap3, some ⟨g3, 0, none⟩, by omega, by go_num, rfl, Lib.hid (by rw [HE.out]; exact HO4.out), HB4⟩
            case measure => simp [intOf]; omega
    · obtain rfl : i = na := by omega
      go_wp2
      go_ret
      exact ⟨_, rfl, HO.out, HB.out⟩
end Go.Proofs.Ytgbelodobgmlbaa.path
