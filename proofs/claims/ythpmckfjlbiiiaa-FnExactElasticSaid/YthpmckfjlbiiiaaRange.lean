/-
  Proved: what the document's function that looks for the least and greatest numbers near an index returns.
  Conditions: the list has at most a million elements.
-/
import Derived.Test.YthpmckfjlbiiiaaEnvD
namespace Go.Proofs.Ythpmckfjlbiiiaa.env
open Go.ChangeShapes Go.WideShapes Go.ChangeAt Go.RowKit Go.Joins
open Go.Proofs.Ythpmckfjlbiiiaa.core Go.Proofs.Ythpmckfjlbiiiaa.rown Go.Proofs.Ythpmckfjlbiiiaa.stk Go.Proofs.Ythpmckfjlbiiiaa.boxed Go.Proofs.Ythpmckfjlbiiiaa.ft Go.Proofs.Ythpmckfjlbiiiaa.seq
set_option linter.unusedVariables false
set_option linter.unusedSimpArgs false
theorem maxE (a b : Int) (w : World) : Calls Try.prog 103 #[.int .i64 a, .int .i64 b] w fun e w' => e = .returned (.int .i64 (max a b)) ∧ w = w' := by
  by_cases h : b < a
  · have hd : decide (b < a) = true := decide_eq_true h
    have HA := Lib.hid (show a = max a b by omega)
    go_enter Try.func103, Try.ntmps103
    go_wp2
    go_ret
    exact ⟨by rw [← HA.out]; rfl, rfl⟩
  · have hd : decide (b < a) = false := decide_eq_false h
    have HA := Lib.hid (show b = max a b by omega)
    go_enter Try.func103, Try.ntmps103
    go_wp2
    go_ret
    exact ⟨by rw [← HA.out]; rfl, rfl⟩
set_option maxRecDepth 100000 in
set_option maxHeartbeats 4000000 in
theorem rangeS {c : Nat} (A : Option Addr) (m : Nat) (f : Nat → P3) (a b : Int) (ver : Bool) (w : World) (hm : m ≤ 1048576) (ha : a ≤ 1048576) (hp : PtsAt w A m f) :
    Calls Try.prog 92 #[.slice A m c, .int .i64 a, .int .i64 b, .bool ver] w fun e w' => e = .returned (.tuple #[.int .i64 (wLo (fun j => vOf ver (f j)) m a b), .int .i64 (wHi (fun j => vOf ver (f j)) m a b)]) ∧ Below w.heap.size w w' := by
  have HP := Lib.hid hp
  have HK := Lib.hid (show ∀ c, c < wN m a b ↔ ((((wS a + c : Nat)) : Int) ≤ b ∧ wS a + c < m) from fun c => by unfold wN wS; omega)
  have hS : ((wS a : Nat) : Int) = max 0 a := by unfold wS; omega
  have hS2 : wS a ≤ 1048576 := by omega
  have hlo : wLo (fun j => vOf ver (f j)) m a b = mnR (fun j => vOf ver (f j)) (wS a) (wN m a b) := rfl
  have hhi : wHi (fun j => vOf ver (f j)) m a b = mxR (fun j => vOf ver (f j)) (wS a) (wN m a b) := rfl
  rw [hlo, hhi]
  clear hp hlo hhi
  generalize wN m a b = K at *
  generalize wS a = S at *
  obtain ⟨lo, hlo⟩ : ∃ lo, mnR (fun j => vOf ver (f j)) S = lo := ⟨_, rfl⟩
  obtain ⟨hi, hhi⟩ : ∃ hi, mxR (fun j => vOf ver (f j)) S = hi := ⟨_, rfl⟩
  have HL := Lib.hid (show lo 0 = 255 ∧ ∀ c, lo (c + 1) = min (lo c) (vOf ver (f (S + c))) by rw [← hlo]; exact ⟨rfl, fun _ => rfl⟩)
  have HH := Lib.hid (show hi 0 = 0 ∧ ∀ c, hi (c + 1) = max (hi c) (vOf ver (f (S + c))) by rw [← hhi]; exact ⟨rfl, fun _ => rfl⟩)
  rw [hlo, hhi]
  clear hlo hhi
  have HM := Lib.hid (fun W => maxE 0 a W)
  rw [← hS] at HM
  clear hS
  go_enter Try.func92, Try.ntmps92
  go_wp2_with fail
  refine (HM.out _).mono ?_
  rintro e w1 ⟨rfl, rfl⟩
  go_wp2
  go_loopw [10, 11, 12] (fun l h j w' => ∃ (c J : Nat), c ≤ K ∧ J = S + c ∧ j = .int .i64 (J : Int) ∧ l = .int .i64 (lo c) ∧ h = .int .i64 (hi c) ∧ Hid (Below w.heap.size w w')) (fun _ _ j _ => S + K - (intOf j).toNat)
  case atStart => exact ⟨0, S, Nat.zero_le _, rfl, rfl, by rw [HL.out.1], by rw [HH.out.1], Lib.hid (Below.refl _ _)⟩
  case round =>
    obtain ⟨k, J, hk, hJ, rfl, rfl, rfl, HB⟩ := hrel
    have HJ := Lib.hid hJ
    by_cases hlt : k < K
    · obtain ⟨q1, q2⟩ := (HK.out k).1 hlt
      rw [← hJ] at q1 q2
      have q3 : (J : Int) < (m : Int) := by omega
      have hm8 : J ≤ 1048576 := by omega
      obtain ⟨g, o, rfl, hg, p0, p1, p2⟩ := (HP.out.kept HB.out) J q2
      have e1 := HL.out.2 k
      have e2 := HH.out.2 k
      rw [← hJ] at e1 e2
      have hk1 : k + 1 ≤ K := by omega
      have hJ2 := Lib.hid (show J + 1 = S + (k + 1) by omega)
      have hms : S + K - (J + 1) < S + K - J := by omega
      clear hJ hlt hk
      cases ver
      · have hv : vOf false (f J) = (f J).1 := rfl
        rw [hv] at e1 e2
        have HE1 := Lib.hid e1
        have HE2 := Lib.hid e2
        clear hv e1 e2
        generalize (f J).1 = v at *
        go_wp2_with fail
        refine (minS _ _ _).mono ?_
        rintro e _ ⟨rfl, rfl⟩
        go_wp2_with fail
        refine (maxE _ _ _).mono ?_
        rintro e _ ⟨rfl, rfl⟩
        rw [← HE1.out, ← HE2.out]
        go_wp2
        go_roundw
        case rel => exact ⟨k + 1, J + 1, hk1, hJ2.out, by go_num, rfl, rfl, HB⟩
        case measure => simp [intOf]; omega
      · have hv : vOf true (f J) = (f J).2.1 := rfl
        rw [hv] at e1 e2
        have HE1 := Lib.hid e1
        have HE2 := Lib.hid e2
        clear hv e1 e2
        generalize (f J).2.1 = v at *
        go_wp2_with fail
        refine (minS _ _ _).mono ?_
        rintro e _ ⟨rfl, rfl⟩
        go_wp2_with fail
        refine (maxE _ _ _).mono ?_
        rintro e _ ⟨rfl, rfl⟩
        rw [← HE1.out, ← HE2.out]
        go_wp2
        go_roundw
        case rel => exact ⟨k + 1, J + 1, hk1, hJ2.out, by go_num, rfl, rfl, HB⟩
        case measure => simp [intOf]; omega
    · have hke := Lib.hid (show k = K by omega)
      have hn : ¬ ((J : Int) ≤ b ∧ J < m) := fun h => hlt ((HK.out k).2 (by rw [← hJ]; exact h))
      have hfin := Lib.hid (show lo k = lo K ∧ hi k = hi K by rw [hke.out]; exact ⟨rfl, rfl⟩)
      by_cases hb : (J : Int) ≤ b
      · have h2 : ¬ (J : Int) < (m : Int) := by omega
        clear hn hlt hJ
        go_wp2
        go_ret2
        exact ⟨by rw [← hfin.out.1, ← hfin.out.2]; rfl, HB.out⟩
      · clear hn hlt hJ
        go_wp2
        go_ret2
        exact ⟨by rw [← hfin.out.1, ← hfin.out.2]; rfl, HB.out⟩
end Go.Proofs.Ythpmckfjlbiiiaa.env
