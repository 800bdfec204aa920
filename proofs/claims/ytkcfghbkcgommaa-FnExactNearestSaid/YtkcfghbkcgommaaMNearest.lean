/-
  Proved: both functions return the same nearest matches, in memory of their own.
  Conditions: none.
-/
import Derived.Test.YtkcfghbkcgommaaNstC
namespace Go.Proofs.Ytkcfghbkcgommaa.wNearest
open Go.ChangeShapes Go.WideShapes Go.ChangeAt Go.RowKit Go.Joins
open Go.Proofs.Ytkcfghbkcgommaa.core Go.Proofs.Ytkcfghbkcgommaa.rown Go.Proofs.Ytkcfghbkcgommaa.stk Go.Proofs.Ytkcfghbkcgommaa.boxed Go.Proofs.Ytkcfghbkcgommaa.ft Go.Proofs.Ytkcfghbkcgommaa.seq Go.Proofs.Ytkcfghbkcgommaa.tab Go.Proofs.Ytkcfghbkcgommaa.env Go.Proofs.Ytkcfghbkcgommaa.sto Go.Proofs.Ytkcfghbkcgommaa.mat Go.Proofs.Ytkcfghbkcgommaa.hp
set_option linter.unusedVariables false
set_option linter.unusedSimpArgs false
theorem ty_of (n : Nat) (f : Nat → Nat → Int) : tyrMatchS (datRows n 2 f) := ⟨n, _, rfl, fun i _ => ⟨⟨_, rfl⟩, ⟨_, rfl⟩⟩⟩
def fi2 (F : Nat → P2) (i j : Nat) : Int := if j = 0 then (F i).1 else (F i).2
theorem twoAt (F : Nat → P2) : ∀ i j, j < 2 → (sp2 F i)[j]? = some (.int .i64 (fi2 F i j)) := fun i j hj => by
  rcases (by omega : j = 0 ∨ j = 1) with rfl | rfl <;> rfl
theorem meat (vs0 : Nat → Value) (g0 : Nat → Dat) (vs1 : Nat → Value) (g1 : Nat → Dat) (a2 : Int) (ht0 : tyrStore g0) (ht1 : tyrFeatS g1) (hi2 : inI64 a2) :
    costRec 2 g0 ≤ 1048576 → costRec 1 g1 ≤ 1048576 → ∃ (R : Nat → Dat) (r1 : Int), tyrMatchS R ∧ cntRec 1 R ≤ 100000000000 ∧ (∀ (W : World) (us0 : Nat → Value) (us1 : Nat → Value), ReadsRec W 2 us0 g0 → ReadsRec W 1 us1 g1 → (∃ (A : Option Addr) (n c : Nat), us1 0 = .slice A n c ∧ n ≤ c) → Calls Try.prog 44 #[.agg #[us0 0, us0 1], us1 0, .int .i64 a2] W fun e W' => ∃ xs : Nat → Value, e = .returned (.tuple #[xs 0, .int .i64 r1]) ∧ OwnRec W' 1 xs R (iv W.heap.size W'.heap.size) ∧ Below W.heap.size W W') ∧ (∀ (W : World) (us0 : Nat → Value) (us1 : Nat → Value), ReadsRec W 2 us0 g0 → ReadsRec W 1 us1 g1 → (∃ (A : Option Addr) (n c : Nat), us1 0 = .slice A n c ∧ n ≤ c) → Calls Try.prog 45 #[.agg #[us0 0, us0 1], us1 0, .int .i64 a2] W fun e W' => ∃ xs : Nat → Value, e = .returned (.tuple #[xs 0, .int .i64 r1]) ∧ OwnRec W' 1 xs R (iv W.heap.size W'.heap.size) ∧ Below W.heap.size W W') := by
  intro hq0 hq1
  by_cases hc : nkC (stD g0) (stN g0) (stL g0) (stC g0) (stF g0) (ftN g1) (ftF g1) a2 = 0
  · obtain ⟨hst, va⟩ := mC_of (nk_of hc).1
    have hle := mst_le (ftN g1) (ftF g1) (stC g0) (stF g0) (stD g0) (stN g0)
    have hn40 := hst.2.1
    have hin := mst_in (band := stD g0) va (st_seq hst) (stN g0) (Nat.le_refl _)
    have hso := (srt_ok (mst_rise (ftN g1) (ftF g1) (stC g0) (stF g0) (stD g0) (stN g0)).1 _ (Nat.le_refl _)).2
    have hkm : kMin a2 (mst (ftN g1) (ftF g1) (stC g0) (stF g0) (stD g0) (stN g0)).1 ≤ (mst (ftN g1) (ftF g1) (stC g0) (stF g0) (stD g0) (stN g0)).1 := by unfold kMin; omega
    generalize srt (mst (ftN g1) (ftF g1) (stC g0) (stF g0) (stD g0) (stN g0)).2 (mst (ftN g1) (ftF g1) (stC g0) (stF g0) (stD g0) (stN g0)).1 = s at hso
    have hin' : ∀ i j, i < kMin a2 (mst (ftN g1) (ftF g1) (stC g0) (stF g0) (stD g0) (stN g0)).1 → j < 2 → inI64 (fi2 (srt (mst (ftN g1) (ftF g1) (stC g0) (stF g0) (stD g0) (stN g0)).2 (mst (ftN g1) (ftF g1) (stC g0) (stF g0) (stD g0) (stN g0)).1) i j) := fun i j hi hj => by
      obtain ⟨i2, h1, h2⟩ := (srt_ok (mst_rise (ftN g1) (ftF g1) (stC g0) (stF g0) (stD g0) (stN g0)).1 _ (Nat.le_refl _)).2.into i (by omega)
      have := hin i2 h1
      unfold inI64 fi2
      rw [h2]
      split <;> omega
    clear hso
    refine ⟨datRows (kMin a2 (mst (ftN g1) (ftF g1) (stC g0) (stF g0) (stD g0) (stN g0)).1) 2 (fi2 (srt (mst (ftN g1) (ftF g1) (stC g0) (stF g0) (stD g0) (stN g0)).2 (mst (ftN g1) (ftF g1) (stC g0) (stF g0) (stD g0) (stN g0)).1)), 0, ty_of _ _, Nat.le_trans (datRows_cnt _ _ _) (by omega), fun W us0 us1 h0 h1 _ => ?_, fun W us0 us1 h0 h1 _ => ?_⟩
    · obtain ⟨T, c, e0, e1, -, hl, hp⟩ := reads_sto h0 ht0 hq0
      obtain ⟨A, ca, ea, hna, hpa⟩ := reads_fts h1 ht1 hq1
      rw [e0, e1, ea]
      exact fin (T := fun v => .tuple #[v, .int .i64 0]) (sp2_len _) (twoAt _) hin' (nearestS_yes _ a2 T A _ _ _ _ _ _ W hl hna hp hpa hc)
    · obtain ⟨T, c, e0, e1, -, hl, hp⟩ := reads_sto h0 ht0 hq0
      obtain ⟨A, ca, ea, hna, hpa⟩ := reads_fts h1 ht1 hq1
      rw [e0, e1, ea]
      exact fin (T := fun v => .tuple #[v, .int .i64 0]) (sp2_len _) (twoAt _) hin' (nearestI_yes _ a2 T A _ _ _ _ _ _ W hl hna hp hpa hc)
  · refine ⟨datRows 0 2 (fi2 fun _ => (0, 0)), nkC (stD g0) (stN g0) (stL g0) (stC g0) (stF g0) (ftN g1) (ftF g1) a2, ty_of _ _, Nat.le_trans (datRows_cnt _ _ _) (by omega), fun W us0 us1 h0 h1 _ => ?_, fun W us0 us1 h0 h1 _ => ?_⟩
    · obtain ⟨T, c, e0, e1, -, hl, hp⟩ := reads_sto h0 ht0 hq0
      obtain ⟨A, ca, ea, hna, hpa⟩ := reads_fts h1 ht1 hq1
      rw [e0, e1, ea]
      exact fin (E := 101) (T := fun v => .tuple #[v, .int .i64 _]) (sp2_len _) (twoAt _) (fun i j hi _ => absurd hi (by omega)) ((nearestS_no _ a2 T A _ _ _ _ _ _ W hl hna hp hpa hc).mono fun e W' ⟨he, hb⟩ => ⟨_, he, World.ownsRow_nil _ _ _ _, hb⟩)
    · obtain ⟨T, c, e0, e1, -, hl, hp⟩ := reads_sto h0 ht0 hq0
      obtain ⟨A, ca, ea, hna, hpa⟩ := reads_fts h1 ht1 hq1
      rw [e0, e1, ea]
      exact fin (E := 101) (T := fun v => .tuple #[v, .int .i64 _]) (sp2_len _) (twoAt _) (fun i j hi _ => absurd hi (by omega)) ((nearestI_no _ a2 T A _ _ _ _ _ _ W hl hna hp hpa hc).mono fun e W' ⟨he, hb⟩ => ⟨_, he, World.ownsRow_nil _ _ _ _, hb⟩)
end Go.Proofs.Ytkcfghbkcgommaa.wNearest
