/-
  Proved: both functions that tell which samples are classified wrongly return the same, in memory of its own.
  Conditions: none.
-/
import Derived.Test.YtimkochgnjggdaaMist
import Derived.Test.YtimkochgnjggdaaSmV
namespace Go.Proofs.Ytimkochgnjggdaa.wMistakesOf
open Go.ChangeShapes Go.WideShapes Go.ChangeAt Go.RowKit Go.Joins
open Go.Proofs.Ytimkochgnjggdaa.core Go.Proofs.Ytimkochgnjggdaa.rown Go.Proofs.Ytimkochgnjggdaa.one1 Go.Proofs.Ytimkochgnjggdaa.per Go.Proofs.Ytimkochgnjggdaa.smp Go.Proofs.Ytimkochgnjggdaa.mist
set_option linter.unusedVariables false
set_option linter.unusedSimpArgs false
theorem fin1 {K : FuncId} {args : Array Value} {w : World} {l : List Int} {code : Int} (h : Calls Try.prog K args w (Mi w l code)) (hF : ∀ i, i < l.length → inI64 (fOf l i)) :
    Calls Try.prog K args w fun e W' => ∃ xs : Nat → Value, e = .returned (.tuple #[xs 0, .int .i64 code]) ∧ OwnRec W' 1 xs (datRows l.length 1 (fun i _ => fOf l i)) (iv w.heap.size W'.heap.size) ∧ Below w.heap.size w W' :=
  fin (T := fun v => .tuple #[v, .int .i64 code]) (one_len (fOf l)) (fun i j hj => one_get (fOf l) i j hj) (fun i j hi _ => hF i hi) (h.mono fun e w' ⟨v, he, ho, hb⟩ => ⟨v, he, by rw [← vals_rws]; exact ho, hb⟩)
theorem ty_of (n : Nat) (f : Nat → Nat → Int) : tyrInt64S (datRows n 1 f) := ⟨n, _, rfl, fun i _ => ⟨_, rfl⟩⟩
theorem meat (vs0 : Nat → Value) (g0 : Nat → Dat) (vs1 : Nat → Value) (g1 : Nat → Dat) (ht0 : tyrPerceptron g0) (ht1 : tyrSampleS g1) :
    costRec 2 g0 ≤ 1048576 → costRec 1 g1 ≤ 1048576 → ∃ (R : Nat → Dat) (r1 : Int), tyrInt64S R ∧ cntRec 1 R ≤ 100000000000 ∧ (∀ (W : World) (us0 : Nat → Value) (us1 : Nat → Value), ReadsRec W 2 us0 g0 → ReadsRec W 1 us1 g1 → (∃ (A : Option Addr) (n c : Nat), us1 0 = .slice A n c ∧ n ≤ c) → Calls Try.prog 55 #[.agg #[us0 0, us0 1], us1 0] W fun e W' => ∃ xs : Nat → Value, e = .returned (.tuple #[xs 0, .int .i64 r1]) ∧ OwnRec W' 1 xs R (iv W.heap.size W'.heap.size) ∧ Below W.heap.size W W') ∧ (∀ (W : World) (us0 : Nat → Value) (us1 : Nat → Value), ReadsRec W 2 us0 g0 → ReadsRec W 1 us1 g1 → (∃ (A : Option Addr) (n c : Nat), us1 0 = .slice A n c ∧ n ≤ c) → Calls Try.prog 56 #[.agg #[us0 0, us0 1], us1 0] W fun e W' => ∃ xs : Nat → Value, e = .returned (.tuple #[xs 0, .int .i64 r1]) ∧ OwnRec W' 1 xs R (iv W.heap.size W'.heap.size) ∧ Below W.heap.size W W') := by
  intro hq hq'
  by_cases hv : cdC (peB (peN g0) (peM g0) (peS g0) (peW g0) (peF g0)) (peN g0) (peS g0) (smN g1) (smS g1) (smC g1) (smF g1) = 0
  · obtain ⟨v1, v2, v3, hN⟩ := cd_of hv
    obtain ⟨M, hM⟩ : ∃ M, peN g0 = M + 1 := ⟨peN g0 - 1, by have := (pe_iff.1 v1).1.1; omega⟩
    have hml := mst_le (wrong (peS g0) (smS g1) (peF g0) (smC g1) (smF g1) M) (smN g1)
    have hF : ∀ i, i < (mst (wrong (peS g0) (smS g1) (peF g0) (smC g1) (smF g1) M) (smN g1)).length → inI64 (fOf (mst (wrong (peS g0) (smS g1) (peF g0) (smC g1) (smF g1) M) (smN g1)) i) := fun i hi => by
      have h := mst_mem (wrong (peS g0) (smS g1) (peF g0) (smC g1) (smF g1) M) (smN g1) (fOf (mst (wrong (peS g0) (smS g1) (peF g0) (smC g1) (smF g1) M) (smN g1)) i) (by unfold fOf; rw [List.getD_eq_getElem?_getD, List.getElem?_eq_getElem hi]; exact List.getElem_mem hi)
      unfold inI64
      omega
    refine ⟨datRows (mst (wrong (peS g0) (smS g1) (peF g0) (smC g1) (smF g1) M) (smN g1)).length 1 (fun i _ => fOf (mst (wrong (peS g0) (smS g1) (peF g0) (smC g1) (smF g1) M) (smN g1)) i), 0, ty_of _ _, Nat.le_trans (datRows_cnt _ _ _) (by omega), fun W us us' h h' _ => ?_, fun W us us' h h' _ => ?_⟩
    · obtain ⟨A, c, B, d, e0, e1, -, -, hl, hp, hp'⟩ := reads_per h ht0 hq
      obtain ⟨L, cf, e, hs, hf⟩ := reads_sms h' ht1 hq'
      rw [e0, e1, e]
      rw [hM] at hl hp hv ⊢
      exact fin1 (mistS_yes A B L _ _ _ _ _ _ _ _ _ W hl hs hp hp' hf hv) hF
    · obtain ⟨A, c, B, d, e0, e1, -, -, hl, hp, hp'⟩ := reads_per h ht0 hq
      obtain ⟨L, cf, e, hs, hf⟩ := reads_sms h' ht1 hq'
      rw [e0, e1, e]
      rw [hM] at hl hp hv ⊢
      exact fin1 (mistI_yes A B L _ _ _ _ _ _ _ _ _ W hl hs hp hp' hf hv) hF
  · refine ⟨datRows 0 1 (fun i _ => fOf [] i), cdC (peB (peN g0) (peM g0) (peS g0) (peW g0) (peF g0)) (peN g0) (peS g0) (smN g1) (smS g1) (smC g1) (smF g1), ty_of _ _, Nat.le_trans (datRows_cnt _ _ _) (by omega), fun W us us' h h' _ => ?_, fun W us us' h h' _ => ?_⟩
    · obtain ⟨A, c, B, d, e0, e1, -, -, hl, hp, hp'⟩ := reads_per h ht0 hq
      obtain ⟨L, cf, e, hs, hf⟩ := reads_sms h' ht1 hq'
      rw [e0, e1, e]
      exact fin1 (mistS_no A B L _ _ _ _ _ _ _ _ _ W hl hs hp hp' hf hv) (fun i hi => absurd hi (by simp))
    · obtain ⟨A, c, B, d, e0, e1, -, -, hl, hp, hp'⟩ := reads_per h ht0 hq
      obtain ⟨L, cf, e, hs, hf⟩ := reads_sms h' ht1 hq'
      rw [e0, e1, e]
      exact fin1 (mistI_no A B L _ _ _ _ _ _ _ _ _ W hl hs hp hp' hf hv) (fun i hi => absurd hi (by simp))
end Go.Proofs.Ytimkochgnjggdaa.wMistakesOf
