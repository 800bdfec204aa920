/-
  Proved: marking a value in blocks of its own leaves the marks there (contracts of callees of the exact laws).
  Conditions: the value owns its memory.
-/
import Derived.Test.YtofgdgdmmlgmnaaShape
namespace Go.Proofs.Ytofgdgdmmlgmnaa.core
open Go.ChangeShapes Go.WideShapes Go.ChangeAt Go.RowKit Go.Joins
set_option linter.unusedVariables false
set_option linter.unusedSimpArgs false

set_option maxRecDepth 100000 in
set_option maxHeartbeats 2000000 in
theorem markText_calls (k : Nat) (z : Int) (w : World) (hz : z = (k : Int)) (h1 : 1 ≤ k) (hk : k ≤ 1000000000000) :
    Calls Try.prog 56 #[.int .i64 z] w fun e w' => e = .returned (.string (mt k)) ∧ Below w.heap.size w w' := by
  subst hz
  have h0 : ¬ ((k : Int) ≤ 0) := by omega
  go_enter Try.func56, Try.ntmps56
  go_wp2
  go_loopw [0, 3] (fun a o w' => ∃ (j : Nat) (t : ByteArray), j + t.size ≤ k ∧ a = .int .i64 (j : Int) ∧ o = .string t ∧ Hid (dgt j t = dgt k ⟨#[]⟩) ∧ Hid (Below w.heap.size w w')) (fun a _ _ => (intOf a).toNat)
  case atStart => exact ⟨k, _, by simp [ByteArray.size], rfl, rfl, Lib.hid rfl, Lib.hid (Below.refl _ _)⟩
  case round =>
    obtain ⟨j, t, hj, rfl, rfl, HD, HB⟩ := hrel
    have hsz : t.size ≤ 1000000000000 := by omega
    by_cases h0 : j = 0
    · subst h0
      have HE := Lib.hid (show t = dgt k ⟨#[]⟩ by rw [← HD.out]; unfold dgt; simp)
      have hs1 : ¬ (9223372036854775807 < 1 + t.size) := by omega
      go_wp2
      go_ret
      exact ⟨by rw [HE.out]; rfl, HB.out⟩
    · have hj0 : (0 : Int) < (j : Int) := by omega
      have hcv := run_convert_bytes_back (P := Try.prog) (wr.alloc (.cells #[.int .u8 (48 + (j : Int) % 10)] 5)) 119 9 5 ⟨wr.heap.size, 0, none⟩ 1 [UInt8.ofNat (48 + j % 10)] Try.underlying119 Try.underlying5 Try.underlying9 (fun i hi => by
        obtain rfl : i = 0 := by simpa using hi
        simp [Addr.add]
        omega)
      rw [show [UInt8.ofNat (48 + j % 10)].length = 1 from rfl] at hcv
      have hs1 : ¬ (9223372036854775807 < 1 + t.size) := by omega
      have HD2 := Lib.hid (show dgt (j / 10) (⟨#[UInt8.ofNat (48 + j % 10)]⟩ ++ t) = dgt k ⟨#[]⟩ by rw [← HD.out]; conv => rhs; unfold dgt; simp only [h0, dite_false])
      have hsz2 : j / 10 + (⟨#[UInt8.ofNat (48 + j % 10)]⟩ ++ t : ByteArray).size ≤ k := by
        rw [ByteArray.size_append, one_size]
        omega
      have HS2 := Lib.hid hsz2
      clear hsz2
      generalize UInt8.ofNat (48 + j % 10) = u at hcv HD2 HS2
      go_wp2
      go_roundw
      case rel => exact ⟨j / 10, _, HS2.out, by go_num, rfl, HD2, Lib.hid (HB.out.alloc HB.out.size _)⟩
      case measure => simp [intOf]; omega

set_option maxRecDepth 100000 in
set_option maxHeartbeats 2000000 in
theorem markHypS_some (G n c K : Nat) (z : Int) (f : Nat → Nat → Dat) (F : Nat → Prop) (w : World) (hz : z = (K : Int)) (h1 : 1 ≤ K) (hcap : K + cnt (.sl n 2 f) ≤ 1000000000000) (hm : n ≤ maxLen) (ht : tyHypS (.sl n 2 f)) (ho : Own w (.slice (some ⟨G, 0, none⟩) n c) (.sl n 2 f) F) :
    Calls Try.prog 22 #[.slice (some ⟨G, 0, none⟩) n c, .int .i64 z] w fun e w' => e = .returned (.int .i64 ((K + cnt (.sl n 2 f) : Nat) : Int)) ∧ Own w' (.slice (some ⟨G, 0, none⟩) n c) (mark mt (.sl n 2 f) K) F ∧ OnlyF F w w' := by
  subst hz
  have HT := Lib.hid (tyHypS_at ht)
  have HO := Lib.hid ho
  have hm' : n ≤ 9223372036854775807 := by unfold maxLen at hm; omega
  have HC := Lib.hid hcap
  clear ht ho hcap hm
  go_enter Try.func22, Try.ntmps22
  go_wp2
  go_loopw [1, 5] (fun a i w' => ∃ m : Nat, m ≤ n ∧ i = .int .i64 (m : Int) ∧ a = .int .i64 ((K + pre (fun a b => cnt (f a b)) 2 m 0 : Nat) : Int) ∧ Hid (Own w' (.slice (some ⟨G, 0, none⟩) n c) (.sl n 2 (fun a b => if a < m then mark mt (f a b) (K + pre (fun a b => cnt (f a b)) 2 a b) else f a b)) F) ∧ Hid (OnlyF F w w')) (fun _ i _ => n - (intOf i).toNat)
  case atStart => exact ⟨0, Nat.zero_le _, rfl, rfl, Lib.hid (HO.out.cast fun a b _ _ => by simp), Lib.hid (OnlyF.refl _ _)⟩
  case round =>
    clear HO
    obtain ⟨m, hmn, rfl, rfl, HG, HW⟩ := hrel
    by_cases hlt : m < n
    · have hT := HT.out m hlt
      have hli : (m : Int) < (n : Int) := by omega
      obtain ⟨⟨s0, e0⟩, ⟨x1, e1⟩⟩ := hT
      have E0 := Lib.hid e0
      clear e0
      have E1 := Lib.hid e1
      clear e1
      have N0 := Lib.hid (show pre (fun a b => cnt (f a b)) 2 m 1 = pre (fun a b => cnt (f a b)) 2 m 0 + 1 by rw [pre_col]; simp only [E0.out]; try rfl)
      have N1 := Lib.hid (show pre (fun a b => cnt (f a b)) 2 m 2 = pre (fun a b => cnt (f a b)) 2 m 1 + 1 by rw [pre_col]; simp only [E1.out]; try rfl)
      have NR := Lib.hid (pre_row (fun a b => cnt (f a b)) 2 m)
      have NL := Lib.hid (show K + pre (fun a b => cnt (f a b)) 2 m 2 ≤ 1000000000000 by have := HC.out; have := pre_le (fun a b => cnt (f a b)) hlt (Nat.le_refl 2); simp only [cnt] at *; omega)
      obtain ⟨p0, hp0⟩ : ∃ p, p = K + pre (fun a b => cnt (f a b)) 2 m 0 := ⟨_, rfl⟩
      obtain ⟨p1, hp1⟩ : ∃ p, p = K + pre (fun a b => cnt (f a b)) 2 m 1 := ⟨_, rfl⟩
      obtain ⟨p2, hp2⟩ : ∃ p, p = K + pre (fun a b => cnt (f a b)) 2 m 2 := ⟨_, rfl⟩
      rw [← hp0]
      have z0 : p1 = p0 + 1 := by have := N0.out; omega
      have z1 : p2 = p1 + 1 := by have := N1.out; omega
      have zl : p2 ≤ 1000000000000 := by have := NL.out; omega
      have zf : 1 ≤ p0 := by omega
      have zb0 : p0 ≤ 1000000000000 := by omega
      have za0 : 1 ≤ p0 := by omega
      have zb1 : p1 ≤ 1000000000000 := by omega
      have za1 : 1 ≤ p1 := by omega
      have zb2 : p2 ≤ 1000000000000 := by omega
      have za2 : 1 ≤ p2 := by omega
      have HP0 := Lib.hid hp0
      have HP1 := Lib.hid hp1
      have HP2 := Lib.hid hp2
      have Z0 := Lib.hid z0
      have Z1 := Lib.hid z1
      clear hp0 hp1 hp2 z0 z1 zl zf
      generalize hfm : (fun a b => if a < m then mark mt (f a b) (K + pre (fun a b => cnt (f a b)) 2 a b) else f a b) = fm at HG
      have HFM := Lib.hid hfm
      clear hfm
      go_wp2_with fail
      refine (markText_calls p0 _ _ (by have := Z0.out; have := Z0.out; omega) za0 zb0).mono ?_
      rintro e w0 ⟨rfl, hb⟩
      have HX0 := Lib.hid (HG.out.kept hb)
      have HY0 := Lib.hid (HW.out.then_below hb)
      clear hb
      obtain ⟨u0, c0, -⟩ := HX0.out.cell hlt 0 (by omega) (m * 2) (by omega)
      obtain ⟨u1, c1, -⟩ := HX0.out.cell hlt 1 (by omega) (m * 2 + 1) (by omega)
      have hfz := HX0.out.free hlt
      have hgz := HX0.out.ltG hlt
      have hFG := Lib.hid (HX0.out.hasG hlt)
      have HG0 := Lib.hid (HX0.out.set hlt 0 (by omega) (m * 2) (by omega) (.string (mt p0)) (.str (mt p0)) trivial (.str _ _ (mt_len zb0)))
      have HW0 := Lib.hid (HY0.out.setCell (i := m * 2) hFG.out (.string (mt p0)))
      have HG1 := Lib.hid (HG0.out.set hlt 1 (by omega) (m * 2 + 1) (by omega) (.int .i64 ((p0 : Int) + 1)) (.int ((p0 : Int) + 1)) trivial (.int _ _ ⟨by omega, by omega⟩))
      have HW1 := Lib.hid (HW0.out.setCell (i := m * 2 + 1) hFG.out (.int .i64 ((p0 : Int) + 1)))
      have HA := Lib.hid (show (p0 : Int) + 1 + 1 = ((K + pre (fun a b => cnt (f a b)) 2 (m + 1) 0 : Nat) : Int) by have := NR.out; have := Z0.out; have := Z1.out; have := HP0.out; have := HP1.out; have := HP2.out; omega)
      have HEND := Lib.hid (HG1.out.cast (f' := (fun a b => if a < (m + 1) then mark mt (f a b) (K + pre (fun a b => cnt (f a b)) 2 a b) else f a b)) fun a b ha hb => by
        by_cases e : a = m
        · subst e
          simp only [Nat.lt_succ_self, if_true, show a < a + 1 by omega]
          rcases (by omega : b = 0 ∨ b = 1) with rfl | rfl
          · simp [upd]
            rw [E0.out, ← HP0.out]
            all_goals (first | rfl | (simp only [mark]; congr 1; have := Z0.out; have := Z1.out; omega))
          · simp [upd]
            rw [E1.out, ← HP1.out]
            all_goals (first | rfl | (simp only [mark]; congr 1; have := Z0.out; have := Z1.out; omega))
        · rw [← HFM.out]
          have e2 : (a < m + 1) = (a < m) := by simp; omega
          simp only [upd, e, e2, false_and, if_false])
      go_wp2
      go_roundw
      case rel => exact ⟨m + 1, by omega, by go_num, congrArg (Value.int .i64) (by have := HA.out; omega), HEND, HW1⟩
      case measure => simp [intOf]; omega
    · obtain rfl : m = n := by omega
      have HF := Lib.hid (HG.out.cast (f' := fun a b => mark mt (f a b) (K + pre (fun a b => cnt (f a b)) 2 a b)) fun a b ha _ => by simp [ha])
      clear HG
      go_wp2
      go_ret
      exact ⟨rfl, HF.out, HW.out⟩

set_option maxRecDepth 100000 in
set_option maxHeartbeats 2000000 in
theorem markHypS_calls (A : Option Addr) (n c K : Nat) (z : Int) (f : Nat → Nat → Dat) (F : Nat → Prop) (w : World) (hz : z = (K : Int)) (h1 : 1 ≤ K) (hcap : K + cnt (.sl n 2 f) ≤ 1000000000000) (hm : n ≤ maxLen) (ht : tyHypS (.sl n 2 f)) (ho : Own w (.slice A n c) (.sl n 2 f) F) :
    Calls Try.prog 22 #[.slice A n c, .int .i64 z] w fun e w' => e = .returned (.int .i64 ((K + cnt (.sl n 2 f) : Nat) : Int)) ∧ Own w' (.slice A n c) (mark mt (.sl n 2 f) K) F ∧ OnlyF F w w' := by
  obtain ⟨A', c', e, _, h0⟩ := ho.sl_inv
  cases e
  rcases h0 with rfl | ⟨G, rfl, _, _⟩
  · subst hz
    have HE := Lib.hid (show K + cnt (.sl 0 2 f) = K by simp [cnt, sumTo])
    rw [HE.out]
    clear ho ht hm hcap
    go_enter Try.func22, Try.ntmps22
    go_wp2
    go_loopw [1, 5] (fun m i w' => i = .int .i64 0 ∧ m = .int .i64 (K : Int) ∧ w = w') (fun _ _ _ => 0)
    case atStart => exact ⟨rfl, rfl, rfl⟩
    case round =>
      obtain ⟨rfl, rfl, rfl⟩ := hrel
      go_wp2
      go_ret
      exact ⟨rfl, .nil _ _ _ _ _, OnlyF.refl _ _⟩
  · exact markHypS_some G n c K z f F w hz h1 hcap hm ht ho

end Go.Proofs.Ytofgdgdmmlgmnaa.core
