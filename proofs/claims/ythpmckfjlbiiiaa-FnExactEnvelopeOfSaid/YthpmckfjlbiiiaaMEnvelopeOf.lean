/-
  Proved: both functions that return the envelope of a list return the same, in memory of its own.
  Conditions: none.
-/
import Derived.Test.YthpmckfjlbiiiaaLsV
import Derived.Test.YthpmckfjlbiiiaaOwnV
import Derived.Test.YthpmckfjlbiiiaaEnvExI
namespace Go.Proofs.Ythpmckfjlbiiiaa.wEnvelopeOf
open Go.ChangeShapes Go.WideShapes Go.ChangeAt Go.RowKit Go.Joins
open Go.Proofs.Ythpmckfjlbiiiaa.core Go.Proofs.Ythpmckfjlbiiiaa.rown Go.Proofs.Ythpmckfjlbiiiaa.stk Go.Proofs.Ythpmckfjlbiiiaa.boxed Go.Proofs.Ythpmckfjlbiiiaa.ft Go.Proofs.Ythpmckfjlbiiiaa.seq Go.Proofs.Ythpmckfjlbiiiaa.env Go.Proofs.Ythpmckfjlbiiiaa.tab
set_option linter.unusedVariables false
set_option linter.unusedSimpArgs false
theorem ty_num (n : Nat) (F : Nat → Int) : tyInt64S (datN n F) := ⟨n, _, rfl, fun i _ => ⟨_, rfl⟩⟩
theorem ty_env (n : Nat) (F : Nat → Nat → Int) : tyrEnvelope (fun k => datN n (F k)) := ⟨ty_num _ _, ty_num _ _, ty_num _ _, ty_num _ _⟩
theorem cnt_num (n : Nat) (F : Nat → Int) : cntS (datN n F) ≤ n := by
  simp only [datN, cntS, cnt]
  rw [sumTo_const, sumTo_const]
  simp
theorem cnt_env (n : Nat) (hn : n ≤ 72) (F : Nat → Nat → Int) : cntRec 4 (fun k => datN n (F k)) ≤ 100000000000 := by
  have h0 := cnt_num n (F 0)
  have h1 := cnt_num n (F 1)
  have h2 := cnt_num n (F 2)
  have h3 := cnt_num n (F 3)
  simp only [cntRec, sumTo]
  omega
theorem nil_four (w : World) (lo hi : Nat) : OwnRec w 4 (fun _ => .slice none 0 0) (fun _ => datN 0 (fun _ => 0)) (iv lo hi) :=
  ⟨fun _ _ => False, fun _ _ => .nil _ _ _ _ _, fun _ _ _ h => h.elim, fun _ _ _ _ _ h => h.elim⟩
theorem env_in {n m : Nat} {fb : Nat → P3} {band : Int} (hn : 1 ≤ n ∧ n ≤ 72) (vb : okQ m fb = true) (hb : 0 ≤ band ∧ band ≤ 72) (hab : absv ((n : Int) - (m : Int)) ≤ band) : ∀ k i, k < 4 → i < n → inI64 (envF fb m band k i) := fun k i hk hi => by
  obtain ⟨-, -, h⟩ := okE_of (env_okE hn vb hb hab)
  have h1 := h i hi
  have : k = 0 ∨ k = 1 ∨ k = 2 ∨ k = 3 := by omega
  unfold inI64
  rcases this with rfl | rfl | rfl | rfl <;> omega
theorem meat (vs0 : Nat → Value) (g0 : Nat → Dat) (a1 : Int) (a2 : Int) (ht0 : tyrFeatS g0) (hi1 : inI64 a1) (hi2 : inI64 a2) :
    costRec 1 g0 ≤ 1048576 → ∃ (R : Nat → Dat) (r1 : Int), tyrEnvelope R ∧ cntRec 4 R ≤ 100000000000 ∧ (∀ (W : World) (us0 : Nat → Value), ReadsRec W 1 us0 g0 → (∃ (A : Option Addr) (n c : Nat), us0 0 = .slice A n c ∧ n ≤ c) → Calls Try.prog 15 #[us0 0, .int .i64 a1, .int .i64 a2] W fun e W' => ∃ xs : Nat → Value, e = .returned (.tuple #[.agg #[xs 0, xs 1, xs 2, xs 3], .int .i64 r1]) ∧ OwnRec W' 4 xs R (iv W.heap.size W'.heap.size) ∧ Below W.heap.size W W') ∧ (∀ (W : World) (us0 : Nat → Value), ReadsRec W 1 us0 g0 → (∃ (A : Option Addr) (n c : Nat), us0 0 = .slice A n c ∧ n ≤ c) → Calls Try.prog 17 #[us0 0, .int .i64 a1, .int .i64 a2] W fun e W' => ∃ xs : Nat → Value, e = .returned (.tuple #[.agg #[xs 0, xs 1, xs 2, xs 3], .int .i64 r1]) ∧ OwnRec W' 4 xs R (iv W.heap.size W'.heap.size) ∧ Below W.heap.size W W') := by
  intro hq0
  by_cases hc : envC (ftN g0) (ftF g0) a1 a2 = 0
  · obtain ⟨vb, hn, hb, hab⟩ := envC_of hc
    obtain ⟨n, rfl⟩ : ∃ n : Nat, a1 = (n : Int) := ⟨a1.toNat, by omega⟩
    have hn' : 1 ≤ n ∧ n ≤ 72 := by omega
    refine ⟨fun k => datN n (envF (ftF g0) (ftN g0) a2 k), 0, ty_env _ _, cnt_env _ hn'.2 _, fun W us0 h0 _ => ?_, fun W us0 h0 _ => ?_⟩
    · obtain ⟨A, ca, ea, hna, hpa⟩ := reads_fts h0 ht0 hq0
      rw [ea]
      refine (envelopeS_yes A _ _ n a2 W hpa hc).mono ?_
      rintro e W' ⟨s, he, h4, hbl⟩
      exact ⟨s, he, own_four h4 (env_in hn' vb hb hab), hbl⟩
    · obtain ⟨A, ca, ea, hna, hpa⟩ := reads_fts h0 ht0 hq0
      rw [ea]
      refine (envelopeI_yes A _ _ n a2 W hpa hc).mono ?_
      rintro e W' ⟨s, he, h4, hbl⟩
      exact ⟨s, he, own_four h4 (env_in hn' vb hb hab), hbl⟩
  · refine ⟨fun _ => datN 0 (fun _ => 0), envC (ftN g0) (ftF g0) a1 a2, ty_env 0 (fun _ _ => 0), cnt_env 0 (by omega) (fun _ _ => 0), fun W us0 h0 _ => ?_, fun W us0 h0 _ => ?_⟩
    · obtain ⟨A, ca, ea, hna, hpa⟩ := reads_fts h0 ht0 hq0
      rw [ea]
      refine (envelopeS_no A _ _ a1 a2 W hna hpa hc).mono ?_
      rintro e W' ⟨he, hbl⟩
      exact ⟨fun _ => .slice none 0 0, he, nil_four _ _ _, hbl⟩
    · obtain ⟨A, ca, ea, hna, hpa⟩ := reads_fts h0 ht0 hq0
      rw [ea]
      refine (envelopeI_no A _ _ a1 a2 W hna hpa hc).mono ?_
      rintro e W' ⟨he, hbl⟩
      exact ⟨fun _ => .slice none 0 0, he, nil_four _ _ _, hbl⟩
end Go.Proofs.Ythpmckfjlbiiiaa.wEnvelopeOf
