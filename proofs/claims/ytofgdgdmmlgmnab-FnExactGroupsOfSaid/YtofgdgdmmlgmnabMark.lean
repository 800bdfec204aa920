/-
  Proved: marking a value in blocks of its own leaves the marks there (contracts of callees of the exact laws).
  Conditions: the value owns its memory.
-/
import Derived.Test.YtofgdgdmmlgmnabShape
namespace Go.Proofs.Ytofgdgdmmlgmnab.core
open Go.ChangeShapes Go.WideShapes Go.ChangeAt Go.RowKit Go.Joins
set_option linter.unusedVariables false
set_option linter.unusedSimpArgs false

set_option maxRecDepth 100000 in
set_option maxHeartbeats 2000000 in
theorem markPointS_some (G n c K : Nat) (z : Int) (f : Nat → Nat → Dat) (F : Nat → Prop) (w : World) (hz : z = (K : Int)) (h1 : 1 ≤ K) (hcap : K + cnt (.sl n 3 f) ≤ 1000000000000) (hm : n ≤ maxLen) (ht : tyPointS (.sl n 3 f)) (ho : Own w (.slice (some ⟨G, 0, none⟩) n c) (.sl n 3 f) F) :
    Calls Try.prog 52 #[.slice (some ⟨G, 0, none⟩) n c, .int .i64 z] w fun e w' => e = .returned (.int .i64 ((K + cnt (.sl n 3 f) : Nat) : Int)) ∧ Own w' (.slice (some ⟨G, 0, none⟩) n c) (mark mt (.sl n 3 f) K) F ∧ OnlyF F w w' := by
  subst hz
  have HT := Lib.hid (tyPointS_at ht)
  have HO := Lib.hid ho
  have hm' : n ≤ 9223372036854775807 := by unfold maxLen at hm; omega
  have HC := Lib.hid hcap
  clear ht ho hcap hm
  go_enter Try.func52, Try.ntmps52
  go_wp2
  go_loopw [1, 5] (fun a i w' => ∃ m : Nat, m ≤ n ∧ i = .int .i64 (m : Int) ∧ a = .int .i64 ((K + pre (fun a b => cnt (f a b)) 3 m 0 : Nat) : Int) ∧ Hid (Own w' (.slice (some ⟨G, 0, none⟩) n c) (.sl n 3 (fun a b => if a < m then mark mt (f a b) (K + pre (fun a b => cnt (f a b)) 3 a b) else f a b)) F) ∧ Hid (OnlyF F w w')) (fun _ i _ => n - (intOf i).toNat)
  case atStart => exact ⟨0, Nat.zero_le _, rfl, rfl, Lib.hid (HO.out.cast fun a b _ _ => by simp), Lib.hid (OnlyF.refl _ _)⟩
  case round =>
    clear HO
    obtain ⟨m, hmn, rfl, rfl, HG, HW⟩ := hrel
    by_cases hlt : m < n
    · have hT := HT.out m hlt
      have hli : (m : Int) < (n : Int) := by omega
      obtain ⟨⟨x0, e0⟩, ⟨x1, e1⟩, ⟨x2, e2⟩⟩ := hT
      have E0 := Lib.hid e0
      clear e0
      have E1 := Lib.hid e1
      clear e1
      have E2 := Lib.hid e2
      clear e2
      have N0 := Lib.hid (show pre (fun a b => cnt (f a b)) 3 m 1 = pre (fun a b => cnt (f a b)) 3 m 0 + 1 by rw [pre_col]; simp only [E0.out]; try rfl)
      have N1 := Lib.hid (show pre (fun a b => cnt (f a b)) 3 m 2 = pre (fun a b => cnt (f a b)) 3 m 1 + 1 by rw [pre_col]; simp only [E1.out]; try rfl)
      have N2 := Lib.hid (show pre (fun a b => cnt (f a b)) 3 m 3 = pre (fun a b => cnt (f a b)) 3 m 2 + 1 by rw [pre_col]; simp only [E2.out]; try rfl)
      have NR := Lib.hid (pre_row (fun a b => cnt (f a b)) 3 m)
      have NL := Lib.hid (show K + pre (fun a b => cnt (f a b)) 3 m 3 ≤ 1000000000000 by have := HC.out; have := pre_le (fun a b => cnt (f a b)) hlt (Nat.le_refl 3); simp only [cnt] at *; omega)
      obtain ⟨p0, hp0⟩ : ∃ p, p = K + pre (fun a b => cnt (f a b)) 3 m 0 := ⟨_, rfl⟩
      obtain ⟨p1, hp1⟩ : ∃ p, p = K + pre (fun a b => cnt (f a b)) 3 m 1 := ⟨_, rfl⟩
      obtain ⟨p2, hp2⟩ : ∃ p, p = K + pre (fun a b => cnt (f a b)) 3 m 2 := ⟨_, rfl⟩
      obtain ⟨p3, hp3⟩ : ∃ p, p = K + pre (fun a b => cnt (f a b)) 3 m 3 := ⟨_, rfl⟩
      rw [← hp0]
      have z0 : p1 = p0 + 1 := by have := N0.out; omega
      have z1 : p2 = p1 + 1 := by have := N1.out; omega
      have z2 : p3 = p2 + 1 := by have := N2.out; omega
      have zl : p3 ≤ 1000000000000 := by have := NL.out; omega
      have zf : 1 ≤ p0 := by omega
      have zb0 : p0 ≤ 1000000000000 := by omega
      have za0 : 1 ≤ p0 := by omega
      have zb1 : p1 ≤ 1000000000000 := by omega
      have za1 : 1 ≤ p1 := by omega
      have zb2 : p2 ≤ 1000000000000 := by omega
      have za2 : 1 ≤ p2 := by omega
      have zb3 : p3 ≤ 1000000000000 := by omega
      have za3 : 1 ≤ p3 := by omega
      have HP0 := Lib.hid hp0
      have HP1 := Lib.hid hp1
      have HP2 := Lib.hid hp2
      have HP3 := Lib.hid hp3
      have Z0 := Lib.hid z0
      have Z1 := Lib.hid z1
      have Z2 := Lib.hid z2
      clear hp0 hp1 hp2 hp3 z0 z1 z2 zl zf
      generalize hfm : (fun a b => if a < m then mark mt (f a b) (K + pre (fun a b => cnt (f a b)) 3 a b) else f a b) = fm at HG
      have HFM := Lib.hid hfm
      clear hfm
      obtain ⟨u0, c0, -⟩ := HG.out.cell hlt 0 (by omega) (m * 3) (by omega)
      obtain ⟨u1, c1, -⟩ := HG.out.cell hlt 1 (by omega) (m * 3 + 1) (by omega)
      obtain ⟨u2, c2, -⟩ := HG.out.cell hlt 2 (by omega) (m * 3 + 2) (by omega)
      have hfz := HG.out.free hlt
      have hgz := HG.out.ltG hlt
      have hFG := Lib.hid (HG.out.hasG hlt)
      have HG0 := Lib.hid (HG.out.set hlt 0 (by omega) (m * 3) (by omega) (.int .i64 ((p0 : Int))) (.int ((p0 : Int))) trivial (.int _ _ ⟨by omega, by omega⟩))
      have HW0 := Lib.hid (HW.out.setCell (i := m * 3) hFG.out (.int .i64 ((p0 : Int))))
      have HG1 := Lib.hid (HG0.out.set hlt 1 (by omega) (m * 3 + 1) (by omega) (.int .i64 ((p0 : Int) + 1)) (.int ((p0 : Int) + 1)) trivial (.int _ _ ⟨by omega, by omega⟩))
      have HW1 := Lib.hid (HW0.out.setCell (i := m * 3 + 1) hFG.out (.int .i64 ((p0 : Int) + 1)))
      have HG2 := Lib.hid (HG1.out.set hlt 2 (by omega) (m * 3 + 2) (by omega) (.int .i64 ((p0 : Int) + 1 + 1)) (.int ((p0 : Int) + 1 + 1)) trivial (.int _ _ ⟨by omega, by omega⟩))
      have HW2 := Lib.hid (HW1.out.setCell (i := m * 3 + 2) hFG.out (.int .i64 ((p0 : Int) + 1 + 1)))
      have HA := Lib.hid (show (p0 : Int) + 1 + 1 + 1 = ((K + pre (fun a b => cnt (f a b)) 3 (m + 1) 0 : Nat) : Int) by have := NR.out; have := Z0.out; have := Z1.out; have := Z2.out; have := HP0.out; have := HP1.out; have := HP2.out; have := HP3.out; omega)
      have HEND := Lib.hid (HG2.out.cast (f' := (fun a b => if a < (m + 1) then mark mt (f a b) (K + pre (fun a b => cnt (f a b)) 3 a b) else f a b)) fun a b ha hb => by
        by_cases e : a = m
        · subst e
          simp only [Nat.lt_succ_self, if_true, show a < a + 1 by omega]
          rcases (by omega : b = 0 ∨ b = 1 ∨ b = 2) with rfl | rfl | rfl
          · simp [upd]
            rw [E0.out, ← HP0.out]
            all_goals (first | rfl | (simp only [mark]; congr 1; have := Z0.out; have := Z1.out; have := Z2.out; omega))
          · simp [upd]
            rw [E1.out, ← HP1.out]
            all_goals (first | rfl | (simp only [mark]; congr 1; have := Z0.out; have := Z1.out; have := Z2.out; omega))
          · simp [upd]
            rw [E2.out, ← HP2.out]
            all_goals (first | rfl | (simp only [mark]; congr 1; have := Z0.out; have := Z1.out; have := Z2.out; omega))
        · rw [← HFM.out]
          have e2 : (a < m + 1) = (a < m) := by simp; omega
          simp only [upd, e, e2, false_and, if_false])
      go_wp2
      go_roundw
      case rel => exact ⟨m + 1, by omega, by go_num, congrArg (Value.int .i64) (by have := HA.out; omega), HEND, HW2⟩
      case measure => simp [intOf]; omega
    · obtain rfl : m = n := by omega
      have HF := Lib.hid (HG.out.cast (f' := fun a b => mark mt (f a b) (K + pre (fun a b => cnt (f a b)) 3 a b)) fun a b ha _ => by simp [ha])
      clear HG
      go_wp2
      go_ret
      exact ⟨rfl, HF.out, HW.out⟩

set_option maxRecDepth 100000 in
set_option maxHeartbeats 2000000 in
theorem markPointS_calls (A : Option Addr) (n c K : Nat) (z : Int) (f : Nat → Nat → Dat) (F : Nat → Prop) (w : World) (hz : z = (K : Int)) (h1 : 1 ≤ K) (hcap : K + cnt (.sl n 3 f) ≤ 1000000000000) (hm : n ≤ maxLen) (ht : tyPointS (.sl n 3 f)) (ho : Own w (.slice A n c) (.sl n 3 f) F) :
    Calls Try.prog 52 #[.slice A n c, .int .i64 z] w fun e w' => e = .returned (.int .i64 ((K + cnt (.sl n 3 f) : Nat) : Int)) ∧ Own w' (.slice A n c) (mark mt (.sl n 3 f) K) F ∧ OnlyF F w w' := by
  obtain ⟨A', c', e, _, h0⟩ := ho.sl_inv
  cases e
  rcases h0 with rfl | ⟨G, rfl, _, _⟩
  · subst hz
    have HE := Lib.hid (show K + cnt (.sl 0 3 f) = K by simp [cnt, sumTo])
    rw [HE.out]
    clear ho ht hm hcap
    go_enter Try.func52, Try.ntmps52
    go_wp2
    go_loopw [1, 5] (fun m i w' => i = .int .i64 0 ∧ m = .int .i64 (K : Int) ∧ w = w') (fun _ _ _ => 0)
    case atStart => exact ⟨rfl, rfl, rfl⟩
    case round =>
      obtain ⟨rfl, rfl, rfl⟩ := hrel
      go_wp2
      go_ret
      exact ⟨rfl, .nil _ _ _ _ _, OnlyF.refl _ _⟩
  · exact markPointS_some G n c K z f F w hz h1 hcap hm ht ho

set_option maxRecDepth 100000 in
set_option maxHeartbeats 2000000 in
theorem markStrokeS_some (G n c K : Nat) (z : Int) (f : Nat → Nat → Dat) (F : Nat → Prop) (w : World) (hz : z = (K : Int)) (h1 : 1 ≤ K) (hcap : K + cnt (.sl n 1 f) ≤ 1000000000000) (hm : n ≤ maxLen) (ht : tyStrokeS (.sl n 1 f)) (ho : Own w (.slice (some ⟨G, 0, none⟩) n c) (.sl n 1 f) F) :
    Calls Try.prog 33 #[.slice (some ⟨G, 0, none⟩) n c, .int .i64 z] w fun e w' => e = .returned (.int .i64 ((K + cnt (.sl n 1 f) : Nat) : Int)) ∧ Own w' (.slice (some ⟨G, 0, none⟩) n c) (mark mt (.sl n 1 f) K) F ∧ OnlyF F w w' := by
  subst hz
  have HT := Lib.hid (tyStrokeS_at ht)
  have HO := Lib.hid ho
  have hm' : n ≤ 9223372036854775807 := by unfold maxLen at hm; omega
  have HC := Lib.hid hcap
  clear ht ho hcap hm
  go_enter Try.func33, Try.ntmps33
  go_wp2
  go_loopw [1, 5] (fun a i w' => ∃ m : Nat, m ≤ n ∧ i = .int .i64 (m : Int) ∧ a = .int .i64 ((K + pre (fun a b => cnt (f a b)) 1 m 0 : Nat) : Int) ∧ Hid (Own w' (.slice (some ⟨G, 0, none⟩) n c) (.sl n 1 (fun a b => if a < m then mark mt (f a b) (K + pre (fun a b => cnt (f a b)) 1 a b) else f a b)) F) ∧ Hid (OnlyF F w w')) (fun _ i _ => n - (intOf i).toNat)
  case atStart => exact ⟨0, Nat.zero_le _, rfl, rfl, Lib.hid (HO.out.cast fun a b _ _ => by simp), Lib.hid (OnlyF.refl _ _)⟩
  case round =>
    clear HO
    obtain ⟨m, hmn, rfl, rfl, HG, HW⟩ := hrel
    by_cases hlt : m < n
    · have hT := HT.out m hlt
      have hli : (m : Int) < (n : Int) := by omega
      have ht0 := hT
      have HT0 := Lib.hid ht0
      obtain ⟨n0, f0, e0, -⟩ := ht0
      rw [e0] at HT0
      have E0 := Lib.hid e0
      clear e0
      have N0 := Lib.hid (show pre (fun a b => cnt (f a b)) 1 m 1 = pre (fun a b => cnt (f a b)) 1 m 0 + cnt (.sl n0 3 f0) by rw [pre_col]; simp only [E0.out]; try rfl)
      have NR := Lib.hid (pre_row (fun a b => cnt (f a b)) 1 m)
      have NL := Lib.hid (show K + pre (fun a b => cnt (f a b)) 1 m 1 ≤ 1000000000000 by have := HC.out; have := pre_le (fun a b => cnt (f a b)) hlt (Nat.le_refl 1); simp only [cnt] at *; omega)
      obtain ⟨p0, hp0⟩ : ∃ p, p = K + pre (fun a b => cnt (f a b)) 1 m 0 := ⟨_, rfl⟩
      obtain ⟨p1, hp1⟩ : ∃ p, p = K + pre (fun a b => cnt (f a b)) 1 m 1 := ⟨_, rfl⟩
      rw [← hp0]
      have z0 : p1 = p0 + cnt (.sl n0 3 f0) := by have := N0.out; omega
      have zl : p1 ≤ 1000000000000 := by have := NL.out; omega
      have zf : 1 ≤ p0 := by omega
      have zb0 : p0 ≤ 1000000000000 := by omega
      have za0 : 1 ≤ p0 := by omega
      have zb1 : p1 ≤ 1000000000000 := by omega
      have za1 : 1 ≤ p1 := by omega
      have HP0 := Lib.hid hp0
      have HP1 := Lib.hid hp1
      have Z0 := Lib.hid z0
      clear hp0 hp1 z0 zl zf
      generalize hfm : (fun a b => if a < m then mark mt (f a b) (K + pre (fun a b => cnt (f a b)) 1 a b) else f a b) = fm at HG
      have HFM := Lib.hid hfm
      clear hfm
      have M0 := Lib.hid (show fm m 0 = .sl n0 3 f0 by rw [← HFM.out]; simp only [Nat.lt_irrefl, if_false]; exact E0.out)
      obtain ⟨u0, c0, fp0, hown0⟩ := HG.out.cell hlt 0 (by omega) (m) (by omega)
      obtain ⟨fp0, hown, hfp, hsub⟩ := HG.out.sub hlt 0 (by omega) (by omega) c0
      rw [M0.out] at hown
      obtain ⟨A0, d0, rfl, hm0, -⟩ := hown.sl_inv
      clear hown0
      have HSUB0 := Lib.hid hsub
      have HFP0 := Lib.hid hfp
      have HOW0 := Lib.hid hown
      have hgz := HG.out.ltG hlt
      clear hown hfp hsub
      go_wp2_with fail
      refine (markPointS_calls A0 n0 d0 p0 _ f0 fp0 _ (by have := Z0.out; omega) za0 (by have := Z0.out; omega) hm0 HT0.out HOW0.out).mono ?_
      rintro e w0 ⟨rfl, ho2, hw2⟩
      have HG0 := Lib.hid (HSUB0.out _ _ hw2 ho2)
      have HW0 := Lib.hid (HW.out.trans (hw2.mono fun x hx => (HFP0.out x hx).1))
      clear ho2 hw2 c0 hgz
      have HA := Lib.hid (show ((p0 + cnt (.sl n0 3 f0) : Nat) : Int) = ((K + pre (fun a b => cnt (f a b)) 1 (m + 1) 0 : Nat) : Int) by have := NR.out; have := Z0.out; have := HP0.out; have := HP1.out; omega)
      have HEND := Lib.hid (HG0.out.cast (f' := (fun a b => if a < (m + 1) then mark mt (f a b) (K + pre (fun a b => cnt (f a b)) 1 a b) else f a b)) fun a b ha hb => by
        by_cases e : a = m
        · subst e
          simp only [Nat.lt_succ_self, if_true, show a < a + 1 by omega]
          obtain rfl : b = 0 := by omega
          simp [upd]
          rw [E0.out, ← HP0.out]
          all_goals (first | rfl | (simp only [mark]; congr 1; have := Z0.out; omega))
        · rw [← HFM.out]
          have e2 : (a < m + 1) = (a < m) := by simp; omega
          simp only [upd, e, e2, false_and, if_false])
      go_wp2
      go_roundw
      case rel => exact ⟨m + 1, by omega, by go_num, congrArg (Value.int .i64) (by have := HA.out; omega), HEND, HW0⟩
      case measure => simp [intOf]; omega
    · obtain rfl : m = n := by omega
      have HF := Lib.hid (HG.out.cast (f' := fun a b => mark mt (f a b) (K + pre (fun a b => cnt (f a b)) 1 a b)) fun a b ha _ => by simp [ha])
      clear HG
      go_wp2
      go_ret
      exact ⟨rfl, HF.out, HW.out⟩

set_option maxRecDepth 100000 in
set_option maxHeartbeats 2000000 in
theorem markStrokeS_calls (A : Option Addr) (n c K : Nat) (z : Int) (f : Nat → Nat → Dat) (F : Nat → Prop) (w : World) (hz : z = (K : Int)) (h1 : 1 ≤ K) (hcap : K + cnt (.sl n 1 f) ≤ 1000000000000) (hm : n ≤ maxLen) (ht : tyStrokeS (.sl n 1 f)) (ho : Own w (.slice A n c) (.sl n 1 f) F) :
    Calls Try.prog 33 #[.slice A n c, .int .i64 z] w fun e w' => e = .returned (.int .i64 ((K + cnt (.sl n 1 f) : Nat) : Int)) ∧ Own w' (.slice A n c) (mark mt (.sl n 1 f) K) F ∧ OnlyF F w w' := by
  obtain ⟨A', c', e, _, h0⟩ := ho.sl_inv
  cases e
  rcases h0 with rfl | ⟨G, rfl, _, _⟩
  · subst hz
    have HE := Lib.hid (show K + cnt (.sl 0 1 f) = K by simp [cnt, sumTo])
    rw [HE.out]
    clear ho ht hm hcap
    go_enter Try.func33, Try.ntmps33
    go_wp2
    go_loopw [1, 5] (fun m i w' => i = .int .i64 0 ∧ m = .int .i64 (K : Int) ∧ w = w') (fun _ _ _ => 0)
    case atStart => exact ⟨rfl, rfl, rfl⟩
    case round =>
      obtain ⟨rfl, rfl, rfl⟩ := hrel
      go_wp2
      go_ret
      exact ⟨rfl, .nil _ _ _ _ _, OnlyF.refl _ _⟩
  · exact markStrokeS_some G n c K z f F w hz h1 hcap hm ht ho

set_option maxRecDepth 100000 in
set_option maxHeartbeats 2000000 in
theorem markInt64S_some (G n c K : Nat) (z : Int) (f : Nat → Nat → Dat) (F : Nat → Prop) (w : World) (hz : z = (K : Int)) (h1 : 1 ≤ K) (hcap : K + cnt (.sl n 1 f) ≤ 1000000000000) (hm : n ≤ maxLen) (ht : tyInt64S (.sl n 1 f)) (ho : Own w (.slice (some ⟨G, 0, none⟩) n c) (.sl n 1 f) F) :
    Calls Try.prog 14 #[.slice (some ⟨G, 0, none⟩) n c, .int .i64 z] w fun e w' => e = .returned (.int .i64 ((K + cnt (.sl n 1 f) : Nat) : Int)) ∧ Own w' (.slice (some ⟨G, 0, none⟩) n c) (mark mt (.sl n 1 f) K) F ∧ OnlyF F w w' := by
  subst hz
  have HT := Lib.hid (tyInt64S_at ht)
  have HO := Lib.hid ho
  have hm' : n ≤ 9223372036854775807 := by unfold maxLen at hm; omega
  have HC := Lib.hid hcap
  clear ht ho hcap hm
  go_enter Try.func14, Try.ntmps14
  go_wp2
  go_loopw [1, 5] (fun a i w' => ∃ m : Nat, m ≤ n ∧ i = .int .i64 (m : Int) ∧ a = .int .i64 ((K + pre (fun a b => cnt (f a b)) 1 m 0 : Nat) : Int) ∧ Hid (Own w' (.slice (some ⟨G, 0, none⟩) n c) (.sl n 1 (fun a b => if a < m then mark mt (f a b) (K + pre (fun a b => cnt (f a b)) 1 a b) else f a b)) F) ∧ Hid (OnlyF F w w')) (fun _ i _ => n - (intOf i).toNat)
  case atStart => exact ⟨0, Nat.zero_le _, rfl, rfl, Lib.hid (HO.out.cast fun a b _ _ => by simp), Lib.hid (OnlyF.refl _ _)⟩
  case round =>
    clear HO
    obtain ⟨m, hmn, rfl, rfl, HG, HW⟩ := hrel
    by_cases hlt : m < n
    · have hT := HT.out m hlt
      have hli : (m : Int) < (n : Int) := by omega
      obtain ⟨x0, e0⟩ := hT
      have E0 := Lib.hid e0
      clear e0
      have N0 := Lib.hid (show pre (fun a b => cnt (f a b)) 1 m 1 = pre (fun a b => cnt (f a b)) 1 m 0 + 1 by rw [pre_col]; simp only [E0.out]; try rfl)
      have NR := Lib.hid (pre_row (fun a b => cnt (f a b)) 1 m)
      have NL := Lib.hid (show K + pre (fun a b => cnt (f a b)) 1 m 1 ≤ 1000000000000 by have := HC.out; have := pre_le (fun a b => cnt (f a b)) hlt (Nat.le_refl 1); simp only [cnt] at *; omega)
      obtain ⟨p0, hp0⟩ : ∃ p, p = K + pre (fun a b => cnt (f a b)) 1 m 0 := ⟨_, rfl⟩
      obtain ⟨p1, hp1⟩ : ∃ p, p = K + pre (fun a b => cnt (f a b)) 1 m 1 := ⟨_, rfl⟩
      rw [← hp0]
      have z0 : p1 = p0 + 1 := by have := N0.out; omega
      have zl : p1 ≤ 1000000000000 := by have := NL.out; omega
      have zf : 1 ≤ p0 := by omega
      have zb0 : p0 ≤ 1000000000000 := by omega
      have za0 : 1 ≤ p0 := by omega
      have zb1 : p1 ≤ 1000000000000 := by omega
      have za1 : 1 ≤ p1 := by omega
      have HP0 := Lib.hid hp0
      have HP1 := Lib.hid hp1
      have Z0 := Lib.hid z0
      clear hp0 hp1 z0 zl zf
      generalize hfm : (fun a b => if a < m then mark mt (f a b) (K + pre (fun a b => cnt (f a b)) 1 a b) else f a b) = fm at HG
      have HFM := Lib.hid hfm
      clear hfm
      obtain ⟨u0, c0, -⟩ := HG.out.cell hlt 0 (by omega) (m) (by omega)
      have hfz := HG.out.free hlt
      have hgz := HG.out.ltG hlt
      have hFG := Lib.hid (HG.out.hasG hlt)
      have HG0 := Lib.hid (HG.out.set hlt 0 (by omega) (m) (by omega) (.int .i64 ((p0 : Int))) (.int ((p0 : Int))) trivial (.int _ _ ⟨by omega, by omega⟩))
      have HW0 := Lib.hid (HW.out.setCell (i := m) hFG.out (.int .i64 ((p0 : Int))))
      have HA := Lib.hid (show (p0 : Int) + 1 = ((K + pre (fun a b => cnt (f a b)) 1 (m + 1) 0 : Nat) : Int) by have := NR.out; have := Z0.out; have := HP0.out; have := HP1.out; omega)
      have HEND := Lib.hid (HG0.out.cast (f' := (fun a b => if a < (m + 1) then mark mt (f a b) (K + pre (fun a b => cnt (f a b)) 1 a b) else f a b)) fun a b ha hb => by
        by_cases e : a = m
        · subst e
          simp only [Nat.lt_succ_self, if_true, show a < a + 1 by omega]
          obtain rfl : b = 0 := by omega
          simp [upd]
          rw [E0.out, ← HP0.out]
          all_goals (first | rfl | (simp only [mark]; congr 1; have := Z0.out; omega))
        · rw [← HFM.out]
          have e2 : (a < m + 1) = (a < m) := by simp; omega
          simp only [upd, e, e2, false_and, if_false])
      go_wp2
      go_roundw
      case rel => exact ⟨m + 1, by omega, by go_num, congrArg (Value.int .i64) (by have := HA.out; omega), HEND, HW0⟩
      case measure => simp [intOf]; omega
    · obtain rfl : m = n := by omega
      have HF := Lib.hid (HG.out.cast (f' := fun a b => mark mt (f a b) (K + pre (fun a b => cnt (f a b)) 1 a b)) fun a b ha _ => by simp [ha])
      clear HG
      go_wp2
      go_ret
      exact ⟨rfl, HF.out, HW.out⟩

set_option maxRecDepth 100000 in
set_option maxHeartbeats 2000000 in
theorem markInt64S_calls (A : Option Addr) (n c K : Nat) (z : Int) (f : Nat → Nat → Dat) (F : Nat → Prop) (w : World) (hz : z = (K : Int)) (h1 : 1 ≤ K) (hcap : K + cnt (.sl n 1 f) ≤ 1000000000000) (hm : n ≤ maxLen) (ht : tyInt64S (.sl n 1 f)) (ho : Own w (.slice A n c) (.sl n 1 f) F) :
    Calls Try.prog 14 #[.slice A n c, .int .i64 z] w fun e w' => e = .returned (.int .i64 ((K + cnt (.sl n 1 f) : Nat) : Int)) ∧ Own w' (.slice A n c) (mark mt (.sl n 1 f) K) F ∧ OnlyF F w w' := by
  obtain ⟨A', c', e, _, h0⟩ := ho.sl_inv
  cases e
  rcases h0 with rfl | ⟨G, rfl, _, _⟩
  · subst hz
    have HE := Lib.hid (show K + cnt (.sl 0 1 f) = K by simp [cnt, sumTo])
    rw [HE.out]
    clear ho ht hm hcap
    go_enter Try.func14, Try.ntmps14
    go_wp2
    go_loopw [1, 5] (fun m i w' => i = .int .i64 0 ∧ m = .int .i64 (K : Int) ∧ w = w') (fun _ _ _ => 0)
    case atStart => exact ⟨rfl, rfl, rfl⟩
    case round =>
      obtain ⟨rfl, rfl, rfl⟩ := hrel
      go_wp2
      go_ret
      exact ⟨rfl, .nil _ _ _ _ _, OnlyF.refl _ _⟩
  · exact markInt64S_some G n c K z f F w hz h1 hcap hm ht ho

set_option maxRecDepth 100000 in
set_option maxHeartbeats 2000000 in
theorem markGroupS_some (G n c K : Nat) (z : Int) (f : Nat → Nat → Dat) (F : Nat → Prop) (w : World) (hz : z = (K : Int)) (h1 : 1 ≤ K) (hcap : K + cnt (.sl n 2 f) ≤ 1000000000000) (hm : n ≤ maxLen) (ht : tyGroupS (.sl n 2 f)) (ho : Own w (.slice (some ⟨G, 0, none⟩) n c) (.sl n 2 f) F) :
    Calls Try.prog 19 #[.slice (some ⟨G, 0, none⟩) n c, .int .i64 z] w fun e w' => e = .returned (.int .i64 ((K + cnt (.sl n 2 f) : Nat) : Int)) ∧ Own w' (.slice (some ⟨G, 0, none⟩) n c) (mark mt (.sl n 2 f) K) F ∧ OnlyF F w w' := by
  subst hz
  have HT := Lib.hid (tyGroupS_at ht)
  have HO := Lib.hid ho
  have hm' : n ≤ 9223372036854775807 := by unfold maxLen at hm; omega
  have HC := Lib.hid hcap
  clear ht ho hcap hm
  go_enter Try.func19, Try.ntmps19
  go_wp2
  go_loopw [1, 5] (fun a i w' => ∃ m : Nat, m ≤ n ∧ i = .int .i64 (m : Int) ∧ a = .int .i64 ((K + pre (fun a b => cnt (f a b)) 2 m 0 : Nat) : Int) ∧ Hid (Own w' (.slice (some ⟨G, 0, none⟩) n c) (.sl n 2 (fun a b => if a < m then mark mt (f a b) (K + pre (fun a b => cnt (f a b)) 2 a b) else f a b)) F) ∧ Hid (OnlyF F w w')) (fun _ i _ => n - (intOf i).toNat)
  case atStart => exact ⟨0, Nat.zero_le _, rfl, rfl, Lib.hid (HO.out.cast fun a b _ _ => by simp), Lib.hid (OnlyF.refl _ _)⟩
  case round =>
    clear HO
    obtain ⟨m, hmn, rfl, rfl, HG, HW⟩ := hrel
    by_cases hlt : m < n
    · have hT := HT.out m hlt
      have hli : (m : Int) < (n : Int) := by omega
      obtain ⟨⟨x0, e0⟩, ⟨x1, e1⟩⟩ := hT
      have E0 := Lib.hid e0
      clear e0
      have E1 := Lib.hid e1
      clear e1
      have N0 := Lib.hid (show pre (fun a b => cnt (f a b)) 2 m 1 = pre (fun a b => cnt (f a b)) 2 m 0 + 1 by rw [pre_col]; simp only [E0.out]; try rfl)
      have N1 := Lib.hid (show pre (fun a b => cnt (f a b)) 2 m 2 = pre (fun a b => cnt (f a b)) 2 m 1 + 1 by rw [pre_col]; simp only [E1.out]; try rfl)
      have NR := Lib.hid (pre_row (fun a b => cnt (f a b)) 2 m)
      have NL := Lib.hid (show K + pre (fun a b => cnt (f a b)) 2 m 2 ≤ 1000000000000 by have := HC.out; have := pre_le (fun a b => cnt (f a b)) hlt (Nat.le_refl 2); simp only [cnt] at *; omega)
      obtain ⟨p0, hp0⟩ : ∃ p, p = K + pre (fun a b => cnt (f a b)) 2 m 0 := ⟨_, rfl⟩
      obtain ⟨p1, hp1⟩ : ∃ p, p = K + pre (fun a b => cnt (f a b)) 2 m 1 := ⟨_, rfl⟩
      obtain ⟨p2, hp2⟩ : ∃ p, p = K + pre (fun a b => cnt (f a b)) 2 m 2 := ⟨_, rfl⟩
      rw [← hp0]
      have z0 : p1 = p0 + 1 := by have := N0.out; omega
      have z1 : p2 = p1 + 1 := by have := N1.out; omega
      have zl : p2 ≤ 1000000000000 := by have := NL.out; omega
      have zf : 1 ≤ p0 := by omega
      have zb0 : p0 ≤ 1000000000000 := by omega
      have za0 : 1 ≤ p0 := by omega
      have zb1 : p1 ≤ 1000000000000 := by omega
      have za1 : 1 ≤ p1 := by omega
      have zb2 : p2 ≤ 1000000000000 := by omega
      have za2 : 1 ≤ p2 := by omega
      have HP0 := Lib.hid hp0
      have HP1 := Lib.hid hp1
      have HP2 := Lib.hid hp2
      have Z0 := Lib.hid z0
      have Z1 := Lib.hid z1
      clear hp0 hp1 hp2 z0 z1 zl zf
      generalize hfm : (fun a b => if a < m then mark mt (f a b) (K + pre (fun a b => cnt (f a b)) 2 a b) else f a b) = fm at HG
      have HFM := Lib.hid hfm
      clear hfm
      obtain ⟨u0, c0, -⟩ := HG.out.cell hlt 0 (by omega) (m * 2) (by omega)
      obtain ⟨u1, c1, -⟩ := HG.out.cell hlt 1 (by omega) (m * 2 + 1) (by omega)
      have hfz := HG.out.free hlt
      have hgz := HG.out.ltG hlt
      have hFG := Lib.hid (HG.out.hasG hlt)
      have HG0 := Lib.hid (HG.out.set hlt 0 (by omega) (m * 2) (by omega) (.int .i64 ((p0 : Int))) (.int ((p0 : Int))) trivial (.int _ _ ⟨by omega, by omega⟩))
      have HW0 := Lib.hid (HW.out.setCell (i := m * 2) hFG.out (.int .i64 ((p0 : Int))))
      have HG1 := Lib.hid (HG0.out.set hlt 1 (by omega) (m * 2 + 1) (by omega) (.int .i64 ((p0 : Int) + 1)) (.int ((p0 : Int) + 1)) trivial (.int _ _ ⟨by omega, by omega⟩))
      have HW1 := Lib.hid (HW0.out.setCell (i := m * 2 + 1) hFG.out (.int .i64 ((p0 : Int) + 1)))
      have HA := Lib.hid (show (p0 : Int) + 1 + 1 = ((K + pre (fun a b => cnt (f a b)) 2 (m + 1) 0 : Nat) : Int) by have := NR.out; have := Z0.out; have := Z1.out; have := HP0.out; have := HP1.out; have := HP2.out; omega)
      have HEND := Lib.hid (HG1.out.cast (f' := (fun a b => if a < (m + 1) then mark mt (f a b) (K + pre (fun a b => cnt (f a b)) 2 a b) else f a b)) fun a b ha hb => by
        by_cases e : a = m
        · subst e
          simp only [Nat.lt_succ_self, if_true, show a < a + 1 by omega]
          rcases (by omega : b = 0 ∨ b = 1) with rfl | rfl
          · simp [upd]
            rw [E0.out, ← HP0.out]
            all_goals (first | rfl | (simp only [mark]; congr 1; have := Z0.out; have := Z1.out; omega))
          · simp [upd]
            rw [E1.out, ← HP1.out]
            all_goals (first | rfl | (simp only [mark]; congr 1; have := Z0.out; have := Z1.out; omega))
        · rw [← HFM.out]
          have e2 : (a < m + 1) = (a < m) := by simp; omega
          simp only [upd, e, e2, false_and, if_false])
      go_wp2
      go_roundw
      case rel => exact ⟨m + 1, by omega, by go_num, congrArg (Value.int .i64) (by have := HA.out; omega), HEND, HW1⟩
      case measure => simp [intOf]; omega
    · obtain rfl : m = n := by omega
      have HF := Lib.hid (HG.out.cast (f' := fun a b => mark mt (f a b) (K + pre (fun a b => cnt (f a b)) 2 a b)) fun a b ha _ => by simp [ha])
      clear HG
      go_wp2
      go_ret
      exact ⟨rfl, HF.out, HW.out⟩

set_option maxRecDepth 100000 in
set_option maxHeartbeats 2000000 in
theorem markGroupS_calls (A : Option Addr) (n c K : Nat) (z : Int) (f : Nat → Nat → Dat) (F : Nat → Prop) (w : World) (hz : z = (K : Int)) (h1 : 1 ≤ K) (hcap : K + cnt (.sl n 2 f) ≤ 1000000000000) (hm : n ≤ maxLen) (ht : tyGroupS (.sl n 2 f)) (ho : Own w (.slice A n c) (.sl n 2 f) F) :
    Calls Try.prog 19 #[.slice A n c, .int .i64 z] w fun e w' => e = .returned (.int .i64 ((K + cnt (.sl n 2 f) : Nat) : Int)) ∧ Own w' (.slice A n c) (mark mt (.sl n 2 f) K) F ∧ OnlyF F w w' := by
  obtain ⟨A', c', e, _, h0⟩ := ho.sl_inv
  cases e
  rcases h0 with rfl | ⟨G, rfl, _, _⟩
  · subst hz
    have HE := Lib.hid (show K + cnt (.sl 0 2 f) = K by simp [cnt, sumTo])
    rw [HE.out]
    clear ho ht hm hcap
    go_enter Try.func19, Try.ntmps19
    go_wp2
    go_loopw [1, 5] (fun m i w' => i = .int .i64 0 ∧ m = .int .i64 (K : Int) ∧ w = w') (fun _ _ _ => 0)
    case atStart => exact ⟨rfl, rfl, rfl⟩
    case round =>
      obtain ⟨rfl, rfl, rfl⟩ := hrel
      go_wp2
      go_ret
      exact ⟨rfl, .nil _ _ _ _ _, OnlyF.refl _ _⟩
  · exact markGroupS_some G n c K z f F w hz h1 hcap hm ht ho

end Go.Proofs.Ytofgdgdmmlgmnab.core
