/-
  Proved: both functions that add a template return the same store, in memory of its own.
  Conditions: none.
-/
import Derived.Test.YtghaddpicedenaaAdy
import Derived.Test.YtghaddpicedenaaMRemoveTemplate
namespace Go.Proofs.Ytghaddpicedenaa.wAddTemplate
open Go.ChangeShapes Go.WideShapes Go.ChangeAt Go.RowKit Go.Joins
open Go.Proofs.Ytghaddpicedenaa.core Go.Proofs.Ytghaddpicedenaa.rown Go.Proofs.Ytghaddpicedenaa.stk Go.Proofs.Ytghaddpicedenaa.boxed Go.Proofs.Ytghaddpicedenaa.ft Go.Proofs.Ytghaddpicedenaa.seq Go.Proofs.Ytghaddpicedenaa.sto Go.Proofs.Ytghaddpicedenaa.tmp Go.Proofs.Ytghaddpicedenaa.gro
open Go.Proofs.Ytghaddpicedenaa.wRemoveTemplate (room_of no_own fin_no)
set_option linter.unusedVariables false
set_option linter.unusedSimpArgs false
def tmL (g : Nat → Dat) : ByteArray := dStr (g 0)
def tmN (g : Nat → Dat) : Nat := dLen (g 1)
def tmF (g : Nat → Dat) (j : Nat) : P3 := (dInt (dFun (g 1) j 0), dInt (dFun (g 1) j 1), dInt (dFun (g 1) j 2))
theorem reads_tm {W : World} {us : Nat → Value} {g : Nat → Dat} (h : ReadsRec W 2 us g) (ht : tyrTemplate g) (hq : costRec 2 g ≤ 1048576) :
    ∃ A c, us 0 = .string (tmL g) ∧ us 1 = .slice A (tmN g) c ∧ (tmL g).size ≤ 1048576 ∧ tmN g ≤ 1048576 ∧ PtsAt W A (tmN g) (tmF g) := by
  obtain ⟨⟨s, e0⟩, ht1⟩ := ht
  have h0 := h 0 (by omega)
  rw [e0] at h0
  obtain ⟨hv0, -⟩ := h0.str_inv
  have q0 := sumTo_lt (fun j => cost (g j)) (show 0 < 2 by omega)
  have q1 := sumTo_lt (fun j => cost (g j)) (show 1 < 2 by omega)
  have e : costRec 2 g = sumTo (fun j => cost (g j)) 2 := rfl
  have l0 : tmL g = s := by unfold tmL; rw [e0]; rfl
  have c0 : cost (g 0) = s.size := by rw [e0]; rfl
  have ht1' := ht1
  obtain ⟨n, f, e1, hf⟩ := ht1
  have h1 := h 1 (by omega)
  rw [e1] at h1
  obtain ⟨A, c, hv, hn, hR⟩ := h1.sl_inv
  have hc := le_cost n 3 f
  have ln : tmN g = n := by unfold tmN; rw [e1]; rfl
  have c1 : cost (g 1) = cost (.sl n 3 f) := by rw [e1]
  refine ⟨A, c, by rw [hv0, l0], by rw [hv, ln], by rw [l0]; omega, by rw [ln]; omega, ?_⟩
  rw [ln]
  rw [e1] at ht1'
  intro j hj
  obtain ⟨b', o', e', hb', ⟨q0, -⟩, ⟨q1, -⟩, ⟨q2, -⟩⟩ := viewFeatS hR ht1' j hj
  unfold tmF
  rw [e1]
  exact ⟨b', o', e', hb', q0, q1, q2⟩
theorem fin_ad {K : FuncId} {args : Array Value} {W : World} {band : Int} {n : Nat} {lb : Nat → ByteArray} {ln : Nat → Nat} {lf : Nat → Nat → P3} (hb : inI64 band) (hs : ∀ i, i < n + 1 → (lb i).size ≤ maxLen) (hf : ∀ i x y, i < n + 1 → x < ln i → y < 3 → inI64 (f3 (lf i x) y))
    (h : Calls Try.prog K args W (AdYes W band n lb ln lf)) :
    Calls Try.prog K args W fun e W' => ∃ xs : Nat → Value, e = .returned (.tuple #[.agg #[xs 0, xs 1], .int .i64 0]) ∧ OwnRec W' 2 xs (sdat band (n + 1) lb ln lf) (iv W.heap.size W'.heap.size) ∧ Below W.heap.size W W' :=
  h.mono fun e W' ⟨D, C, gi, ci, he, htd, hbl⟩ => ⟨_, he, htd.store hb hs hf (Nat.le_refl _), hbl⟩
theorem tm_in {s : ByteArray} {m : Nat} {f : Nat → P3} (h : tmB s m f = true) : s.size ≤ maxLen ∧ (1 ≤ m ∧ m ≤ 72) ∧ ∀ x y, x < m → y < 3 → inI64 (f3 (f x) y) := by
  unfold tmB at h
  rw [Bool.and_eq_true] at h
  have h1 := lab.labB_size h.1
  have h2 := okQ_of h.2
  refine ⟨by unfold maxLen; omega, ⟨h2.1, h2.2.1⟩, fun x y hx hy => ?_⟩
  have h3 := inF_of (h2.2.2 x hx)
  unfold f3 inI64
  split
  · omega
  · split <;> omega
theorem meat (vs0 : Nat → Value) (g0 : Nat → Dat) (vs1 : Nat → Value) (g1 : Nat → Dat) (ht0 : tyrStore g0) (ht1 : tyrTemplate g1) :
    costRec 2 g0 ≤ 1048576 → costRec 2 g1 ≤ 1048576 → ∃ (R : Nat → Dat) (r1 : Int), tyrStore R ∧ cntRec 2 R ≤ 100000000000 ∧ (∀ (W : World) (us0 : Nat → Value) (us1 : Nat → Value), ReadsRec W 2 us0 g0 → ReadsRec W 2 us1 g1 → Calls Try.prog 6 #[.agg #[us0 0, us0 1], .agg #[us1 0, us1 1]] W fun e W' => ∃ xs : Nat → Value, e = .returned (.tuple #[.agg #[xs 0, xs 1], .int .i64 r1]) ∧ OwnRec W' 2 xs R (iv W.heap.size W'.heap.size) ∧ Below W.heap.size W W') ∧ (∀ (W : World) (us0 : Nat → Value) (us1 : Nat → Value), ReadsRec W 2 us0 g0 → ReadsRec W 2 us1 g1 → Calls Try.prog 9 #[.agg #[us0 0, us0 1], .agg #[us1 0, us1 1]] W fun e W' => ∃ xs : Nat → Value, e = .returned (.tuple #[.agg #[xs 0, xs 1], .int .i64 r1]) ∧ OwnRec W' 2 xs R (iv W.heap.size W'.heap.size) ∧ Below W.heap.size W W') := by
  intro hq0 hq1
  have none_ty := sdat_ty 0 0 (fun _ => ⟨#[]⟩) (fun _ => 0) (fun _ _ => (0, 0, 0))
  have none_cnt := sdat_cnt 0 (j := 0) (fun _ => ⟨#[]⟩) (ln := fun _ => 0) (fun _ _ => (0, 0, 0)) (by omega) (fun i hi => absurd hi (by omega))
  cases hv : stB (stD g0) (stN g0) (stL g0) (stC g0) (stF g0) with
  | false =>
    refine ⟨_, 1, none_ty, none_cnt, fun W us0 us1 h0 h1 => ?_, fun W us0 us1 h0 h1 => ?_⟩
    · obtain ⟨T, c, e0, e1, -, hl, hp⟩ := reads_sto h0 ht0 hq0
      obtain ⟨U, cu, x0, x1, hs, hm, hu⟩ := reads_tm h1 ht1 hq1
      rw [e0, e1, x0, x1]
      exact fin_no (addS_st _ T _ _ _ _ _ U _ _ W hl hp hs hm hu hv)
    · obtain ⟨T, c, e0, e1, -, hl, hp⟩ := reads_sto h0 ht0 hq0
      obtain ⟨U, cu, x0, x1, hs, hm, hu⟩ := reads_tm h1 ht1 hq1
      rw [e0, e1, x0, x1]
      exact fin_no (addI_st _ T _ _ _ _ _ U _ _ W hl hp hs hm hu hv)
  | true =>
    have hst := st_iff.1 hv
    cases ht : tmB (tmL g1) (tmN g1) (tmF g1) with
    | false =>
      refine ⟨_, 1, none_ty, none_cnt, fun W us0 us1 h0 h1 => ?_, fun W us0 us1 h0 h1 => ?_⟩
      · obtain ⟨T, c, e0, e1, -, hl, hp⟩ := reads_sto h0 ht0 hq0
        obtain ⟨U, cu, x0, x1, hs, hm, hu⟩ := reads_tm h1 ht1 hq1
        rw [e0, e1, x0, x1]
        exact fin_no (addS_tm _ T _ _ _ _ _ U _ _ W hl hp hs hm hu hv ht)
      · obtain ⟨T, c, e0, e1, -, hl, hp⟩ := reads_sto h0 ht0 hq0
        obtain ⟨U, cu, x0, x1, hs, hm, hu⟩ := reads_tm h1 ht1 hq1
        rw [e0, e1, x0, x1]
        exact fin_no (addI_tm _ T _ _ _ _ _ U _ _ W hl hp hs hm hu hv ht)
    | true =>
      by_cases hn : 40 ≤ stN g0
      · refine ⟨_, 5, none_ty, none_cnt, fun W us0 us1 h0 h1 => ?_, fun W us0 us1 h0 h1 => ?_⟩
        · obtain ⟨T, c, e0, e1, -, hl, hp⟩ := reads_sto h0 ht0 hq0
          obtain ⟨U, cu, x0, x1, hs, hm, hu⟩ := reads_tm h1 ht1 hq1
          rw [e0, e1, x0, x1]
          exact fin_no (addS_full _ T _ _ _ _ _ U _ _ W hl hp hs hm hu hv ht hn)
        · obtain ⟨T, c, e0, e1, -, hl, hp⟩ := reads_sto h0 ht0 hq0
          obtain ⟨U, cu, x0, x1, hs, hm, hu⟩ := reads_tm h1 ht1 hq1
          rw [e0, e1, x0, x1]
          exact fin_no (addI_full _ T _ _ _ _ _ U _ _ W hl hp hs hm hu hv ht hn)
      · have hb : inI64 (stD g0) := by have := hst.1; unfold inI64; omega
        obtain ⟨a1, a2, a3⟩ := tm_in ht
        have hS : ∀ i, i < stN g0 + 1 → (at1 (stL g0) (stN g0) (tmL g1) i).size ≤ maxLen := fun i hi => by
          unfold at1
          split
          · exact a1
          · exact (tm_in (hst.2.2 i (by omega))).1
        have hF : ∀ i x y, i < stN g0 + 1 → x < at1 (stC g0) (stN g0) (tmN g1) i → y < 3 → inI64 (f3 (at1 (stF g0) (stN g0) (tmF g1) i x) y) := fun i x y hi hx hy => by
          unfold at1 at hx ⊢
          split
          · rename_i h; rw [if_pos h] at hx; exact a3 x y hx hy
          · rename_i h; rw [if_neg h] at hx; exact (tm_in (hst.2.2 i (by omega))).2.2 x y hx hy
        have hC : ∀ i, i < stN g0 + 1 → at1 (stC g0) (stN g0) (tmN g1) i ≤ 72 := fun i hi => by
          unfold at1
          split
          · exact a2.2
          · exact (tm_in (hst.2.2 i (by omega))).2.1.2
        refine ⟨sdat (stD g0) (stN g0 + 1) (at1 (stL g0) (stN g0) (tmL g1)) (at1 (stC g0) (stN g0) (tmN g1)) (at1 (stF g0) (stN g0) (tmF g1)), 0, sdat_ty _ _ _ _ _, sdat_cnt _ _ _ (by omega) hC, fun W us0 us1 h0 h1 => ?_, fun W us0 us1 h0 h1 => ?_⟩
        · obtain ⟨T, c, e0, e1, -, hl, hp⟩ := reads_sto h0 ht0 hq0
          obtain ⟨U, cu, x0, x1, hs, hm, hu⟩ := reads_tm h1 ht1 hq1
          rw [e0, e1, x0, x1]
          exact fin_ad hb hS hF (addS_yes _ T _ _ _ _ _ U _ _ W hl hp hs hm hu hv ht hn)
        · obtain ⟨T, c, e0, e1, -, hl, hp⟩ := reads_sto h0 ht0 hq0
          obtain ⟨U, cu, x0, x1, hs, hm, hu⟩ := reads_tm h1 ht1 hq1
          rw [e0, e1, x0, x1]
          exact fin_ad hb hS hF (addI_yes _ T _ _ _ _ _ U _ _ W hl hp hs hm hu hv ht hn)
end Go.Proofs.Ytghaddpicedenaa.wAddTemplate
