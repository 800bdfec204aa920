/-
  Proved: both functions that match a sequence with a part of another one return the same.
  Conditions: none.
-/
import Derived.Test.YtgbelodobgmlbaaPartI
import Derived.Test.YtgbelodobgmlbaaCap
namespace Go.Proofs.Ytgbelodobgmlbaa.wPartElastic
open Go.ChangeShapes Go.WideShapes Go.ChangeAt Go.RowKit Go.Joins
open Go.Proofs.Ytgbelodobgmlbaa.core Go.Proofs.Ytgbelodobgmlbaa.rown Go.Proofs.Ytgbelodobgmlbaa.stk Go.Proofs.Ytgbelodobgmlbaa.boxed Go.Proofs.Ytgbelodobgmlbaa.ft Go.Proofs.Ytgbelodobgmlbaa.seq Go.Proofs.Ytgbelodobgmlbaa.tab Go.Proofs.Ytgbelodobgmlbaa.dp
set_option linter.unusedVariables false
set_option linter.unusedSimpArgs false
set_option maxRecDepth 100000 in
set_option maxHeartbeats 4000000 in
theorem partI_no {ca cb : Nat} (A B : Option Addr) (na nb : Nat) (fa fb : Nat → P3) (w : World) (ha : na ≤ 1048576) (hb : nb ≤ 1048576) (pa : PtsAt w A na fa) (pb : PtsAt w B nb fb) (hv : partOk na nb fa fb = false) :
    Calls Try.prog 40 #[.slice A na ca, .slice B nb cb] w fun e w' => e = .returned (.tuple #[.int .i64 0, .int .i64 0, .int .i64 0, .int .i64 1]) ∧ Below w.heap.size w w' := by
  have HA := Lib.hid (okQI (c := ca) A na fa w ha pa)
  have HPB := Lib.hid pb
  clear pa pb
  unfold partOk at hv
  cases va : okQ na fa with
  | false =>
    rw [va] at HA
    clear va hv
    have hu : undef = Value.tuple #[] := rfl
    go_enter Try.func40, Try.ntmps40
    go_wp2_with fail
    refine HA.out.mono ?_
    rintro e w1 ⟨rfl, hb⟩
    have B1 := Lib.hid hb
    clear hb
    go_wp2
    exact bodyPost_ret (v := .tuple #[.int .i64 0, .int .i64 0, .int .i64 0, .int .i64 1]) (by simp [results, Try.results40, go_sem]) rfl ⟨rfl, B1.out⟩
  | true =>
    rw [va] at HA hv
    rw [Bool.true_and] at hv
    have HQ := Lib.hid (fun W hW => okQI (c := cb) B nb fb W hb hW)
    rw [hv] at HQ
    clear va hv
    go_enter Try.func40, Try.ntmps40
    go_wp2_with fail
    refine HA.out.mono ?_
    rintro e w1 ⟨rfl, hb1⟩
    have B1 := Lib.hid hb1
    have HQ1 := Lib.hid (HQ.out w1 (HPB.out.kept hb1))
    clear hb1
    go_wp2_with fail
    refine HQ1.out.mono ?_
    rintro e w2 ⟨rfl, hb2⟩
    have B2 := Lib.hid (B1.out.trans (hb2.mono B1.out.size))
    clear hb2
    go_wp2
    exact bodyPost_ret (v := .tuple #[.int .i64 0, .int .i64 0, .int .i64 0, .int .i64 1]) (by simp [results, Try.results40, go_sem]) rfl ⟨rfl, B2.out⟩
theorem meat (vs0 : Nat → Value) (g0 : Nat → Dat) (vs1 : Nat → Value) (g1 : Nat → Dat) (ht0 : tyrFeatS g0) (ht1 : tyrFeatS g1) :
    costRec 1 g0 ≤ 1048576 → costRec 1 g1 ≤ 1048576 → ∃ (r0 : Int) (r1 : Int) (r2 : Int) (r3 : Int), (∀ (W : World) (us0 : Nat → Value) (us1 : Nat → Value), ReadsRec W 1 us0 g0 → (∃ (A : Option Addr) (n c : Nat), us0 0 = .slice A n c ∧ n ≤ c) → ReadsRec W 1 us1 g1 → (∃ (A : Option Addr) (n c : Nat), us1 0 = .slice A n c ∧ n ≤ c) → Calls Try.prog 39 #[us0 0, us1 0] W fun e W' => e = .returned (.tuple #[.int .i64 r0, .int .i64 r1, .int .i64 r2, .int .i64 r3]) ∧ Below W.heap.size W W') ∧ (∀ (W : World) (us0 : Nat → Value) (us1 : Nat → Value), ReadsRec W 1 us0 g0 → (∃ (A : Option Addr) (n c : Nat), us0 0 = .slice A n c ∧ n ≤ c) → ReadsRec W 1 us1 g1 → (∃ (A : Option Addr) (n c : Nat), us1 0 = .slice A n c ∧ n ≤ c) → Calls Try.prog 40 #[us0 0, us1 0] W fun e W' => e = .returned (.tuple #[.int .i64 r0, .int .i64 r1, .int .i64 r2, .int .i64 r3]) ∧ Below W.heap.size W W') := by
  intro hq0 hq1
  cases hv : partOk (ftN g0) (ftN g1) (ftF g0) (ftF g1) with
  | false =>
    refine ⟨0, 0, 0, 1, fun W us0 us1 h0 _ h1 _ => ?_, fun W us0 us1 h0 _ h1 _ => ?_⟩
    · obtain ⟨A, ca, ea, hna, hpa⟩ := reads_fts h0 ht0 hq0
      obtain ⟨B, cb, eb, hnb, hpb⟩ := reads_fts h1 ht1 hq1
      rw [ea, eb]
      exact partS_no A B _ _ _ _ W hna hnb hpa hpb hv
    · obtain ⟨A, ca, ea, hna, hpa⟩ := reads_fts h0 ht0 hq0
      obtain ⟨B, cb, eb, hnb, hpb⟩ := reads_fts h1 ht1 hq1
      rw [ea, eb]
      exact partI_no A B _ _ _ _ W hna hnb hpa hpb hv
  | true =>
    refine ⟨(pout (ftN g0) (ftF g0) (ftF g1) (ftN g1)).1, ((pout (ftN g0) (ftF g0) (ftF g1) (ftN g1)).2.1 : Int), ((pout (ftN g0) (ftF g0) (ftF g1) (ftN g1)).2.2 : Int), 0, fun W us0 us1 h0 _ h1 _ => ?_, fun W us0 us1 h0 _ h1 _ => ?_⟩
    · obtain ⟨A, ca, ea, hna, hpa⟩ := reads_fts h0 ht0 hq0
      obtain ⟨B, cb, eb, hnb, hpb⟩ := reads_fts h1 ht1 hq1
      have hcap := reads_fts_cap h1 ht1 eb
      rw [ea, eb]
      exact partS_yes A B _ _ _ _ W hcap hpa hpb hv
    · obtain ⟨A, ca, ea, hna, hpa⟩ := reads_fts h0 ht0 hq0
      obtain ⟨B, cb, eb, hnb, hpb⟩ := reads_fts h1 ht1 hq1
      have hcap := reads_fts_cap h1 ht1 eb
      rw [ea, eb]
      exact partI_yes A B _ _ _ _ W hcap hpa hpb hv
end Go.Proofs.Ytgbelodobgmlbaa.wPartElastic
