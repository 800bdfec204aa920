/-
  Proved: both functions that turn a path round return the same list, in memory of its own.
  Conditions: none.
-/
import Derived.Test.YtgbelodobgmlbaaRevPI
import Derived.Test.YtgbelodobgmlbaaPrs
namespace Go.Proofs.Ytgbelodobgmlbaa.wReversePath
open Go.ChangeShapes Go.WideShapes Go.ChangeAt Go.RowKit Go.Joins
open Go.Proofs.Ytgbelodobgmlbaa.core Go.Proofs.Ytgbelodobgmlbaa.rown Go.Proofs.Ytgbelodobgmlbaa.stk Go.Proofs.Ytgbelodobgmlbaa.boxed Go.Proofs.Ytgbelodobgmlbaa.ft Go.Proofs.Ytgbelodobgmlbaa.seq Go.Proofs.Ytgbelodobgmlbaa.path Go.Proofs.Ytgbelodobgmlbaa.bwd
set_option linter.unusedVariables false
set_option linter.unusedSimpArgs false
def fi2 (f : Nat → P2) (i j : Nat) : Int := if j = 0 then (f i).1 else (f i).2
theorem sp2_get (f : Nat → P2) : ∀ i j, j < 2 → (sp2 f i)[j]? = some (.int .i64 (fi2 f i j)) := fun i j hj => by
  rcases (by omega : j = 0 ∨ j = 1) with rfl | rfl <;> rfl
theorem ty_of (n : Nat) (f : Nat → Nat → Int) : tyrPairS (datRows n 2 f) := ⟨n, _, rfl, fun i _ => ⟨⟨_, rfl⟩, ⟨_, rfl⟩⟩⟩
theorem rev_in {k : Nat} {f : Nat → P2} (hv : revOk k f = true) : ∀ i j, i < k → j < 2 → inI64 (fi2 (revAt k f) i j) := by
  intro i j hi hj
  obtain ⟨-, q1, q2, q3⟩ := revOk_of hv
  obtain ⟨⟨⟨a1, a2⟩, ⟨b1, b2⟩, -⟩, -⟩ := (okPath_of q3).2.2.2 (k - 1 - i) (by omega)
  unfold inI64 fi2 revAt
  split <;> (simp only; omega)
theorem meat (vs0 : Nat → Value) (g0 : Nat → Dat) (ht0 : tyrPairS g0) :
    costRec 1 g0 ≤ 1048576 → ∃ (R : Nat → Dat) (r1 : Int), tyrPairS R ∧ cntRec 1 R ≤ 100000000000 ∧ (∀ (W : World) (us0 : Nat → Value), ReadsRec W 1 us0 g0 → (∃ (A : Option Addr) (n c : Nat), us0 0 = .slice A n c ∧ n ≤ c) → Calls Try.prog 32 #[us0 0] W fun e W' => ∃ xs : Nat → Value, e = .returned (.tuple #[xs 0, .int .i64 r1]) ∧ OwnRec W' 1 xs R (iv W.heap.size W'.heap.size) ∧ Below W.heap.size W W') ∧ (∀ (W : World) (us0 : Nat → Value), ReadsRec W 1 us0 g0 → (∃ (A : Option Addr) (n c : Nat), us0 0 = .slice A n c ∧ n ≤ c) → Calls Try.prog 33 #[us0 0] W fun e W' => ∃ xs : Nat → Value, e = .returned (.tuple #[xs 0, .int .i64 r1]) ∧ OwnRec W' 1 xs R (iv W.heap.size W'.heap.size) ∧ Below W.heap.size W W') := by
  intro hq
  have hsz : costRec 1 g0 ≤ 1048576 → prN g0 ≤ 1048576 := fun h => by
    obtain ⟨n, f, hg, -⟩ := ht0
    have e1 : prN g0 = n := by simp [prN, hg, dLen]
    have hc := le_cost n 2 f
    have e : costRec 1 g0 = cost (.sl n 2 f) := by simp [costRec, sumTo, hg]
    rw [e] at h
    omega
  have hsz := hsz hq
  cases hv : revOk (prN g0) (prF g0) with
  | true =>
    refine ⟨datRows (prN g0) 2 (fi2 (revAt (prN g0) (prF g0))), 0, ty_of _ _, Nat.le_trans (datRows_cnt _ _ _) (by omega), fun W us0 h0 _ => ?_, fun W us0 h0 _ => ?_⟩
    · obtain ⟨A, c, e, hn, hp, hi⟩ := reads_prs h0 ht0 hq
      rw [e]; exact fin (T := fun v => .tuple #[v, .int .i64 0]) (sp2_len _) (sp2_get _) (rev_in hv) (revS_yes A _ _ W hn hp hv)
    · obtain ⟨A, c, e, hn, hp, hi⟩ := reads_prs h0 ht0 hq
      rw [e]; exact fin (T := fun v => .tuple #[v, .int .i64 0]) (sp2_len _) (sp2_get _) (rev_in hv) (revI_yes A _ _ W hn hp hi hv)
  | false =>
    refine ⟨datRows 0 2 (fi2 fun _ => (0, 0)), 1, ty_of _ _, Nat.le_trans (datRows_cnt _ _ _) (by omega), fun W us0 h0 _ => ?_, fun W us0 h0 _ => ?_⟩
    · obtain ⟨A, c, e, hn, hp, hi⟩ := reads_prs h0 ht0 hq
      rw [e]; exact fin (T := fun v => .tuple #[v, .int .i64 1]) (sp2_len _) (sp2_get _) (fun i j hi _ => absurd hi (by omega)) (revS_no A _ _ W hn hp hv)
    · obtain ⟨A, c, e, hn, hp, hi⟩ := reads_prs h0 ht0 hq
      rw [e]; exact fin (T := fun v => .tuple #[v, .int .i64 1]) (sp2_len _) (sp2_get _) (fun i j hi _ => absurd hi (by omega)) (revI_no A _ _ W hn hp hi hv)
end Go.Proofs.Ytgbelodobgmlbaa.wReversePath
