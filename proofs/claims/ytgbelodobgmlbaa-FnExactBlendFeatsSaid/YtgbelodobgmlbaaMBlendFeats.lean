/-
  Proved: both functions that blend two sequences along a path return the same list, in memory of its own.
  Conditions: none.
-/
import Derived.Test.YtgbelodobgmlbaaBlFI
import Derived.Test.YtgbelodobgmlbaaPrs
namespace Go.Proofs.Ytgbelodobgmlbaa.wBlendFeats
open Go.ChangeShapes Go.WideShapes Go.ChangeAt Go.RowKit Go.Joins
open Go.Proofs.Ytgbelodobgmlbaa.core Go.Proofs.Ytgbelodobgmlbaa.rown Go.Proofs.Ytgbelodobgmlbaa.stk Go.Proofs.Ytgbelodobgmlbaa.boxed Go.Proofs.Ytgbelodobgmlbaa.ft Go.Proofs.Ytgbelodobgmlbaa.seq Go.Proofs.Ytgbelodobgmlbaa.near Go.Proofs.Ytgbelodobgmlbaa.path
set_option linter.unusedVariables false
set_option linter.unusedSimpArgs false
theorem nr_le {m D : Int} (h0 : 0 ≤ m) (h1 : m ≤ 1000000000) (h2 : 1 ≤ D) (h3 : D ≤ 1000000000) : -100000000000 ≤ nr m D ∧ nr m D ≤ 100000000000 := by
  unfold nr
  have hq := Int.mul_ediv_add_emod (2 * m + D) (2 * D)
  have hp : 0 < 2 * D := by omega
  have hr0 := Int.emod_nonneg (2 * m + D) (show 2 * D ≠ 0 by omega)
  have h0' : 0 ≤ (2 * m + D) / (2 * D) := Int.ediv_nonneg (by omega) (by omega)
  have h1' : (2 * m + D) / (2 * D) ≤ 2 * m + D := Int.ediv_le_self _ (by omega)
  omega
theorem blend_in {na nb k : Nat} {fa fb : Nat → P3} {f : Nat → P2} (hk : k ≤ 1048576) (h0 : fitC na nb k fa fb f = 0) : ∀ i j, i < na → j < 3 → inI64 (fi3 (blendAt k fa fb f) i j) := by
  intro i j hi hj
  obtain ⟨va, vb, vp⟩ := fit_of h0
  have hin := inF_of ((okQ_of va).2.2 i hi)
  have HGX : ∀ p, p < k → (0 ≤ gXf fb f p ∧ gXf fb f p ≤ 255) ∧ (0 ≤ gYf fb f p ∧ gYf fb f p ≤ 255) := fun p hp => by
    obtain ⟨a, b, -, -, e, -, q2, -⟩ := fit_at h0 p hp
    have := inF_of q2
    unfold gXf gYf
    rw [e]
    simp only [Int.toNat_natCast]
    omega
  have b1 := bs_in (f := f) (g := gXf fb f) (i := i) (B := 255) (by omega) (n := k) fun x hx => (HGX x hx).1
  have b2 := bs_in (f := f) (g := gYf fb f) (i := i) (B := 255) (by omega) (n := k) fun x hx => (HGX x hx).2
  have b3 := bs_in (f := f) (g := fun _ => 1) (i := i) (B := 1) (by omega) (n := k) fun x hx => ⟨by omega, by omega⟩
  obtain ⟨p, hp, e⟩ := path_hits vp i (by omega)
  have b4 := bs_pos e k hp
  have m1 := mul_in (K := bs f (fun _ => 1) i k) (k := 1048576) (a := (fa i).1) (by omega) (by omega) (by omega) (by omega)
  have m2 := mul_in (K := bs f (fun _ => 1) i k) (k := 1048576) (a := (fa i).2.1) (by omega) (by omega) (by omega) (by omega)
  have n1 := nr_le (m := bs f (gXf fb f) i k + bs f (fun _ => 1) i k * (fa i).1) (D := 2 * bs f (fun _ => 1) i k) (by omega) (by omega) (by omega) (by omega)
  have n2 := nr_le (m := bs f (gYf fb f) i k + bs f (fun _ => 1) i k * (fa i).2.1) (D := 2 * bs f (fun _ => 1) i k) (by omega) (by omega) (by omega) (by omega)
  unfold inI64
  rcases (by omega : j = 0 ∨ j = 1 ∨ j = 2) with rfl | rfl | rfl
  · show _ ≤ (blendAt k fa fb f i).1 ∧ (blendAt k fa fb f i).1 ≤ _
    unfold blendAt; simp only; omega
  · show _ ≤ (blendAt k fa fb f i).2.1 ∧ (blendAt k fa fb f i).2.1 ≤ _
    unfold blendAt; simp only; omega
  · show _ ≤ (blendAt k fa fb f i).2.2 ∧ (blendAt k fa fb f i).2.2 ≤ _
    unfold blendAt; simp only; omega
theorem ty_of (n : Nat) (f : Nat → Nat → Int) : tyrFeatS (datRows n 3 f) := ⟨n, _, rfl, fun i _ => ⟨⟨_, rfl⟩, ⟨_, rfl⟩, ⟨_, rfl⟩⟩⟩
theorem meat (vs0 : Nat → Value) (g0 : Nat → Dat) (vs1 : Nat → Value) (g1 : Nat → Dat) (vs2 : Nat → Value) (g2 : Nat → Dat) (ht0 : tyrFeatS g0) (ht1 : tyrFeatS g1) (ht2 : tyrPairS g2) :
    costRec 1 g0 ≤ 1048576 → costRec 1 g1 ≤ 1048576 → costRec 1 g2 ≤ 1048576 → ∃ (R : Nat → Dat) (r1 : Int), tyrFeatS R ∧ cntRec 1 R ≤ 100000000000 ∧ (∀ (W : World) (us0 : Nat → Value) (us1 : Nat → Value) (us2 : Nat → Value), ReadsRec W 1 us0 g0 → (∃ (A : Option Addr) (n c : Nat), us0 0 = .slice A n c ∧ n ≤ c) → ReadsRec W 1 us1 g1 → (∃ (A : Option Addr) (n c : Nat), us1 0 = .slice A n c ∧ n ≤ c) → ReadsRec W 1 us2 g2 → (∃ (A : Option Addr) (n c : Nat), us2 0 = .slice A n c ∧ n ≤ c) → Calls Try.prog 36 #[us0 0, us1 0, us2 0] W fun e W' => ∃ xs : Nat → Value, e = .returned (.tuple #[xs 0, .int .i64 r1]) ∧ OwnRec W' 1 xs R (iv W.heap.size W'.heap.size) ∧ Below W.heap.size W W') ∧ (∀ (W : World) (us0 : Nat → Value) (us1 : Nat → Value) (us2 : Nat → Value), ReadsRec W 1 us0 g0 → (∃ (A : Option Addr) (n c : Nat), us0 0 = .slice A n c ∧ n ≤ c) → ReadsRec W 1 us1 g1 → (∃ (A : Option Addr) (n c : Nat), us1 0 = .slice A n c ∧ n ≤ c) → ReadsRec W 1 us2 g2 → (∃ (A : Option Addr) (n c : Nat), us2 0 = .slice A n c ∧ n ≤ c) → Calls Try.prog 37 #[us0 0, us1 0, us2 0] W fun e W' => ∃ xs : Nat → Value, e = .returned (.tuple #[xs 0, .int .i64 r1]) ∧ OwnRec W' 1 xs R (iv W.heap.size W'.heap.size) ∧ Below W.heap.size W W') := by
  intro hq0 hq1 hq2
  by_cases hv : fitC (ftN g0) (ftN g1) (prN g2) (ftF g0) (ftF g1) (prF g2) = 0
  · refine ⟨datRows (ftN g0) 3 (fi3 (blendAt (prN g2) (ftF g0) (ftF g1) (prF g2))), 0, ty_of _ _, Nat.le_trans (datRows_cnt _ _ _) (by have := (okQ_of (fit_of hv).1).2.1; omega), fun W us0 us1 us2 h0 _ h1 _ h2 _ => ?_, fun W us0 us1 us2 h0 _ h1 _ h2 _ => ?_⟩
    · obtain ⟨A, ca, ea, hna, hpa⟩ := reads_fts h0 ht0 hq0
      obtain ⟨B, cb, eb, hnb, hpb⟩ := reads_fts h1 ht1 hq1
      obtain ⟨C, cc, ec, hnc, hpc, -⟩ := reads_prs h2 ht2 hq2
      rw [ea, eb, ec]
      exact fin (T := fun v => .tuple #[v, .int .i64 0]) (row3_len _) (row3_get _) (blend_in hnc hv) (blendFeatsS_yes A B C _ _ _ _ _ _ W hna hnb hnc hpa hpb hpc hv)
    · obtain ⟨A, ca, ea, hna, hpa⟩ := reads_fts h0 ht0 hq0
      obtain ⟨B, cb, eb, hnb, hpb⟩ := reads_fts h1 ht1 hq1
      obtain ⟨C, cc, ec, hnc, hpc, -⟩ := reads_prs h2 ht2 hq2
      rw [ea, eb, ec]
      exact fin (T := fun v => .tuple #[v, .int .i64 0]) (row3_len _) (row3_get _) (blend_in hnc hv) (blendFeatsI_yes A B C _ _ _ _ _ _ W hna hnb hnc hpa hpb hpc hv)
  · refine ⟨datRows 0 3 (fi3 (fun _ => (0, 0, 0))), fitC (ftN g0) (ftN g1) (prN g2) (ftF g0) (ftF g1) (prF g2), ty_of _ _, Nat.le_trans (datRows_cnt _ _ _) (by omega), fun W us0 us1 us2 h0 _ h1 _ h2 _ => ?_, fun W us0 us1 us2 h0 _ h1 _ h2 _ => ?_⟩
    · obtain ⟨A, ca, ea, hna, hpa⟩ := reads_fts h0 ht0 hq0
      obtain ⟨B, cb, eb, hnb, hpb⟩ := reads_fts h1 ht1 hq1
      obtain ⟨C, cc, ec, hnc, hpc, -⟩ := reads_prs h2 ht2 hq2
      rw [ea, eb, ec]
      exact fin (T := fun v => .tuple #[v, .int .i64 _]) (row3_len _) (row3_get _) (fun i j hi _ => absurd hi (by omega)) (blendFeatsS_no A B C _ _ _ _ _ _ W hna hnb hnc hpa hpb hpc hv)
    · obtain ⟨A, ca, ea, hna, hpa⟩ := reads_fts h0 ht0 hq0
      obtain ⟨B, cb, eb, hnb, hpb⟩ := reads_fts h1 ht1 hq1
      obtain ⟨C, cc, ec, hnc, hpc, -⟩ := reads_prs h2 ht2 hq2
      rw [ea, eb, ec]
      exact fin (T := fun v => .tuple #[v, .int .i64 _]) (row3_len _) (row3_get _) (fun i j hi _ => absurd hi (by omega)) (blendFeatsI_no A B C _ _ _ _ _ _ W hna hnb hnc hpa hpb hpc hv)
end Go.Proofs.Ytgbelodobgmlbaa.wBlendFeats
