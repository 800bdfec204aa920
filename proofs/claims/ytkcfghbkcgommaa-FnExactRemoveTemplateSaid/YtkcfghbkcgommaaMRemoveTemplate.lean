/-
  Proved: both functions that remove a template return the same store, in memory of its own.
  Conditions: none.
-/
import Derived.Test.YtkcfghbkcgommaaRmv
namespace Go.Proofs.Ytkcfghbkcgommaa.wRemoveTemplate
open Go.ChangeShapes Go.WideShapes Go.ChangeAt Go.RowKit Go.Joins
open Go.Proofs.Ytkcfghbkcgommaa.core Go.Proofs.Ytkcfghbkcgommaa.rown Go.Proofs.Ytkcfghbkcgommaa.stk Go.Proofs.Ytkcfghbkcgommaa.boxed Go.Proofs.Ytkcfghbkcgommaa.ft Go.Proofs.Ytkcfghbkcgommaa.seq Go.Proofs.Ytkcfghbkcgommaa.sto Go.Proofs.Ytkcfghbkcgommaa.tmp Go.Proofs.Ytkcfghbkcgommaa.gro
set_option linter.unusedVariables false
set_option linter.unusedSimpArgs false
theorem room_of {W : World} {us : Nat → Value} {g : Nat → Dat} {A : Option Addr} {c : Nat} (h : ReadsRec W 2 us g) (ht : tyrStore g) (e : us 1 = .slice A (stN g) c) : stN g ≤ c := by
  obtain ⟨-, n, f, e1, -⟩ := ht
  have h1 := h 1 (by omega)
  have hs : stN g = n := by unfold stN; rw [e1]; rfl
  rw [e, e1, hs] at h1
  rw [hs]
  exact Reads.cap h1
theorem no_own (w : World) (lo : Nat) : OwnRec w 2 (fun q => if q = 0 then .int .i64 0 else .slice none 0 0) (sdat 0 0 (fun _ => ⟨#[]⟩) (fun _ => 0) (fun _ _ => (0, 0, 0))) (iv lo w.heap.size) :=
  (TD.nil w lo (fun _ => ⟨#[]⟩) (fun _ => 0) (fun _ => 0) (fun _ => 0) (fun _ _ => (0, 0, 0))).store (by unfold inI64; omega) (fun i hi => absurd hi (by omega)) (fun i a b hi => absurd hi (by omega)) (Nat.le_refl _)
theorem fin_no {K : FuncId} {args : Array Value} {W : World} {code : Int} (h : Calls Try.prog K args W (RmNo W code)) :
    Calls Try.prog K args W fun e W' => ∃ xs : Nat → Value, e = .returned (.tuple #[.agg #[xs 0, xs 1], .int .i64 code]) ∧ OwnRec W' 2 xs (sdat 0 0 (fun _ => ⟨#[]⟩) (fun _ => 0) (fun _ _ => (0, 0, 0))) (iv W.heap.size W'.heap.size) ∧ Below W.heap.size W W' :=
  h.mono fun e W' ⟨he, hb⟩ => ⟨_, he, no_own W' W.heap.size, hb⟩
theorem fin_yes {K : FuncId} {args : Array Value} {W : World} {band a : Int} {N : Nat} {lb : Nat → ByteArray} {ln : Nat → Nat} {lf : Nat → Nat → P3} (hb : inI64 band) (hs : ∀ i, i < N → (lb (kE a i)).size ≤ maxLen) (hf : ∀ i x y, i < N → x < ln (kE a i) → y < 3 → inI64 (f3 (lf (kE a i) x) y))
    (h : Calls Try.prog K args W (RmYes W band N a lb ln lf)) :
    Calls Try.prog K args W fun e W' => ∃ xs : Nat → Value, e = .returned (.tuple #[.agg #[xs 0, xs 1], .int .i64 0]) ∧ OwnRec W' 2 xs (sdat band N (fun i => lb (kE a i)) (fun i => ln (kE a i)) (fun i => lf (kE a i))) (iv W.heap.size W'.heap.size) ∧ Below W.heap.size W W' :=
  h.mono fun e W' ⟨D, C, gi, ci, he, htd, hbl⟩ => ⟨_, he, htd.store hb hs hf (Nat.le_refl _), hbl⟩
theorem meat (vs0 : Nat → Value) (g0 : Nat → Dat) (a1 : Int) (ht0 : tyrStore g0) (hi1 : inI64 a1) :
    costRec 2 g0 ≤ 1048576 → ∃ (R : Nat → Dat) (r1 : Int), tyrStore R ∧ cntRec 2 R ≤ 100000000000 ∧ (∀ (W : World) (us0 : Nat → Value), ReadsRec W 2 us0 g0 → Calls Try.prog 28 #[.agg #[us0 0, us0 1], .int .i64 a1] W fun e W' => ∃ xs : Nat → Value, e = .returned (.tuple #[.agg #[xs 0, xs 1], .int .i64 r1]) ∧ OwnRec W' 2 xs R (iv W.heap.size W'.heap.size) ∧ Below W.heap.size W W') ∧ (∀ (W : World) (us0 : Nat → Value), ReadsRec W 2 us0 g0 → Calls Try.prog 29 #[.agg #[us0 0, us0 1], .int .i64 a1] W fun e W' => ∃ xs : Nat → Value, e = .returned (.tuple #[.agg #[xs 0, xs 1], .int .i64 r1]) ∧ OwnRec W' 2 xs R (iv W.heap.size W'.heap.size) ∧ Below W.heap.size W W') := by
  intro hq0
  cases hv : stB (stD g0) (stN g0) (stL g0) (stC g0) (stF g0) with
  | false =>
    refine ⟨sdat 0 0 (fun _ => ⟨#[]⟩) (fun _ => 0) (fun _ _ => (0, 0, 0)), 1, sdat_ty _ _ _ _ _, sdat_cnt _ _ _ (by omega) (fun i hi => absurd hi (by omega)), fun W us0 h0 => ?_, fun W us0 h0 => ?_⟩
    · obtain ⟨T, c, e0, e1, -, hl, hp⟩ := reads_sto h0 ht0 hq0
      rw [e0, e1]
      exact fin_no (rmS_inv _ T _ a1 _ _ _ W hl hp hv)
    · obtain ⟨T, c, e0, e1, -, hl, hp⟩ := reads_sto h0 ht0 hq0
      rw [e0, e1]
      exact fin_no (rmI_inv _ T _ a1 _ _ _ W hl hp hv)
  | true =>
    have hst := st_iff.1 hv
    by_cases ha : 0 ≤ a1 ∧ a1 < (stN g0 : Int)
    · obtain ⟨n1, rfl⟩ : ∃ n1 : Nat, a1 = (n1 : Int) := ⟨a1.toNat, by omega⟩
      obtain ⟨N, hN⟩ : ∃ N, stN g0 = N + 1 := ⟨stN g0 - 1, by omega⟩
      have hn40 := hst.2.1
      have hk : ∀ i, i < N → kE (n1 : Int) i < stN g0 := fun i hi => by unfold kE; split <;> omega
      have hsl := st_len hst
      have hb : inI64 (stD g0) := by have := hst.1; unfold inI64; omega
      have hf : ∀ i x y, i < N → x < stC g0 (kE (n1 : Int) i) → y < 3 → inI64 (f3 (stF g0 (kE (n1 : Int) i) x) y) := fun i x y hi hx hy => by
        have h2 := hst.2.2 _ (hk i hi)
        unfold tmB at h2
        rw [Bool.and_eq_true] at h2
        have h3 := inF_of ((okQ_of h2.2).2.2 x hx)
        unfold f3 inI64
        split
        · omega
        · split <;> omega
      have hs : ∀ i, i < N → (stL g0 (kE (n1 : Int) i)).size ≤ maxLen := fun i hi => by
        have h2 := hst.2.2 _ (hk i hi)
        unfold tmB at h2
        rw [Bool.and_eq_true] at h2
        have h3 := lab.labB_size h2.1
        unfold maxLen
        omega
      refine ⟨sdat (stD g0) N (fun i => stL g0 (kE (n1 : Int) i)) (fun i => stC g0 (kE (n1 : Int) i)) (fun i => stF g0 (kE (n1 : Int) i)), 0, sdat_ty _ _ _ _ _, sdat_cnt _ _ _ (by omega) (fun i hi => (hsl _ (hk i hi)).2), fun W us0 h0 => ?_, fun W us0 h0 => ?_⟩
      · obtain ⟨T, c, e0, e1, -, hl, hp⟩ := reads_sto h0 ht0 hq0
        have hc := room_of h0 ht0 e1
        rw [e0, e1]
        exact fin_yes hb hs hf (rmS_yes _ T _ _ _ _ _ W hl hp hc hst n1 N rfl (by omega) hN)
      · obtain ⟨T, c, e0, e1, -, hl, hp⟩ := reads_sto h0 ht0 hq0
        have hc := room_of h0 ht0 e1
        rw [e0, e1]
        exact fin_yes hb hs hf (rmI_yes _ T _ _ _ _ _ W hl hp hc hst n1 N rfl (by omega) hN)
    · refine ⟨sdat 0 0 (fun _ => ⟨#[]⟩) (fun _ => 0) (fun _ _ => (0, 0, 0)), 2, sdat_ty _ _ _ _ _, sdat_cnt _ _ _ (by omega) (fun i hi => absurd hi (by omega)), fun W us0 h0 => ?_, fun W us0 h0 => ?_⟩
      · obtain ⟨T, c, e0, e1, -, hl, hp⟩ := reads_sto h0 ht0 hq0
        rw [e0, e1]
        exact fin_no (rmS_rng _ T _ a1 _ _ _ W hl hp hv ha)
      · obtain ⟨T, c, e0, e1, -, hl, hp⟩ := reads_sto h0 ht0 hq0
        rw [e0, e1]
        exact fin_no (rmI_rng _ T _ a1 _ _ _ W hl hp hv ha)
end Go.Proofs.Ytkcfghbkcgommaa.wRemoveTemplate
