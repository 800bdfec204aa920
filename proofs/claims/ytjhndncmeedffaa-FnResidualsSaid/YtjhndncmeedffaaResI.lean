/-
  Proved: the program's residuals, and the lists with given residuals.
  Conditions: none.
-/
import Derived.Test.YtjhndncmeedffaaResS
namespace Go.Proofs.Ytjhndncmeedffaa.resid
open Go.ChangeShapes Go.WideShapes Go.ChangeAt Go.RowKit Go.Joins
open Go.Proofs.Ytjhndncmeedffaa.core Go.Proofs.Ytjhndncmeedffaa.rows Go.Proofs.Ytjhndncmeedffaa.bits Go.Proofs.Ytjhndncmeedffaa.numS Go.Proofs.Ytjhndncmeedffaa.ints
set_option linter.unusedVariables false
set_option linter.unusedSimpArgs false

theorem make0 (n : Nat) (hn : n ≤ 1048576) (w : World) : ∃ cur : Array Value, cur.size = n * 1 ∧
    (Instr.makeSlice 27 (.int .i64 0) (.int .i64 (n : Int))).run Try.prog w = .ok (.slice (some ⟨w.heap.size, 0, none⟩) 0 n) (w.alloc (.cells cur 2)) := by
  obtain ⟨i0, hi, hz0, hz1, hz2⟩ := info_get infoInt
  have hr := run_make (P := Try.prog) w 27 2 i0 _ Try.underlying27 hi hz0 .i64 .i64 0 n (by omega) (by omega) (by rw [hz2]; omega) (by omega)
  simp only [Int.toNat_natCast] at hr
  refine ⟨_, ?_, hr⟩
  rw [hz1]
  simp [madeCells]

set_option maxRecDepth 100000 in
set_option maxHeartbeats 4000000 in
theorem residI_calls (A : Option Addr) (n c : Nat) (hnc : n ≤ c) (f : Nat → Int) (w : World) (hn : n ≤ 60) (h : IntsAt w A n f) (hA : AllIn 125000000 f n) :
    Calls Try.prog 19 #[.slice A n c] w fun e w' => ∃ G C : Nat, e = .returned (.tuple #[.slice (some ⟨G, 0, none⟩) n C, .int .i64 0]) ∧ w'.ownsRow w.heap.size 2 1 (.slice (some ⟨G, 0, none⟩) n C) n ((lst (resid f) n).map (Value.int .i64)) ∧ Below w.heap.size w w' := by
  obtain ⟨i0, hi0, hz0, hz1, hz2⟩ := info_get infoInt
  have H := Lib.hid h
  have HA := Lib.hid hA
  have HW := Lib.hid (within_calls 125000000 (by omega) (by omega) A n c f w (by unfold maxLen; omega) h true (by simp; exact hA))
  clear h hA
  obtain ⟨cur, hcur, hmk⟩ := make0 n (by omega) w
  have HCUR := Lib.hid hcur
  clear hcur
  go_enter Try.func19, Try.ntmps19
  go_wp2_with fail
  with_reducible refine HW.out.mono ?_
  rintro e w1 ⟨rfl, rfl⟩
  go_wp2
  clear hmk
  go_loopw [4, 20] (fun o i w' => ∃ (k gb C : Nat), k ≤ n ∧ i = .int .i64 (k : Int) ∧ o = .slice (some ⟨gb, 0, none⟩) k C ∧ Hid (w'.ownsRow w.heap.size 2 1 (.slice (some ⟨gb, 0, none⟩) k C) k ((lst (resid f) k).map (Value.int .i64))) ∧ Hid (Below w.heap.size w w')) (fun _ i _ => n - (intOf i).toNat)
  case atStart => exact ⟨0, _, _, Nat.zero_le _, rfl, rfl, Lib.hid (World.ownsRow_made w cur n (Nat.le_refl _) (by unfold maxLen; omega) HCUR.out), Lib.hid (below_alloc1 _ _)⟩
  case round =>
    obtain ⟨k, gb, C, hk, rfl, rfl, HO, HB⟩ := hrel
    by_cases hlt : k < n
    · have HK := Lib.hid (H.out.kept HB.out)
      obtain ⟨b, o, rfl, hb, hc, -⟩ := HK.out k hlt
      have HC := Lib.hid (pred_calls (some ⟨b, o, none⟩) k c f wr (by omega) (fun i hi => HK.out i (by omega)) (allIn_le HA.out hk))
      have HS := Lib.hid (lst_snoc (resid f) k)
      have HR := Lib.hid (show resid f k = f k - guess f k from rfl)
      obtain ⟨x1, x2⟩ := HA.out k hlt
      obtain ⟨y1, y2⟩ := guess_in (allIn_le HA.out hk)
      generalize resid f k = r at *
      generalize f k = x at *
      generalize guess f k = y at *
      have hkc : k ≤ c := by omega
      have hkc' : (k : Int) ≤ (c : Int) := by omega
      clear HK
      go_wp2_with fail
      with_reducible refine HC.out.mono ?_
      rintro e w2 ⟨rfl, hb2⟩
      have HB2 := Lib.hid (HB.out.trans (hb2.mono HB.out.size))
      have HO2 := Lib.hid (ownsRow_kept HO.out hb2)
      clear hb2 HC HO HB hc
      go_wp2_with (first
        | (at_builtin
           have z0 := ownsRow_kept HO2.out (below_alloc1 w2 (.cells #[.int .i64 (x - y)] 2))
           have z2 : ∀ u ∈ [Value.int .i64 (x - y)], u.oneCell' = true := (by simp [Value.oneCell'])
           have z3 : k + 1 ≤ maxLen := (by simp only [maxLen]; omega)
           have z4 : (k + 1) * 8 ≤ 140737488355328 := (by omega)
           have z5 : w.heap.size ≤ (w2.alloc (.cells #[.int .i64 (x - y)] 2)).heap.size := (Nat.le_trans HB2.out.size (by simp))
           refine wpList_append_lies (w2.alloc (.cells #[.int .i64 (x - y)] 2)) rfl _ _ 27 rfl w.heap.size 2 i0 (.int .i64 0) 1 8 Try.underlying27 hi0 hz0 hz1 hz2 rfl (by decide) (.slice (some ⟨gb, 0, none⟩) k C) k _ rfl z0 ⟨w2.heap.size, 0, none⟩ 1 1 [.int .i64 (x - y)] rfl rfl one_new z2 (by decide) z3 z4 z5 _ rfl ?_
           intro g3 cap3 w3 hown hgr hat hlt3
           rw [← HR.out] at hown
           have HO3 := Lib.hid hown
           have HB3 := Lib.hid (HB2.out.trans ((under HO2.out HB2.out.size hgr)))
           clear hown hgr hat z0 z2 z3 z4 z5 HO2 HB2))
      go_roundw
      case rel => exact ⟨k + 1, g3, cap3, by omega, by go_num, rfl, Lib.hid (by rw [HS.out]; exact HO3.out), HB3⟩
      case measure => simp [intOf]; omega
    · obtain rfl : k = n := by omega
      go_wp2
      go_ret2
      exact ⟨gb, C, rfl, HO.out, HB.out⟩
set_option maxRecDepth 100000 in
set_option maxHeartbeats 1000000 in
theorem residI_no (A : Option Addr) (n c : Nat) (f : Nat → Int) (w : World) (hn : n ≤ maxLen) (h : IntsAt w A n f) (hA : ¬ (n ≤ 60 ∧ AllIn 125000000 f n)) :
    Calls Try.prog 19 #[.slice A n c] w fun e w' => e = .returned (.tuple #[.slice none 0 0, .int .i64 2]) ∧ Below w.heap.size w w' := by
  by_cases h60 : n ≤ 60
  · have H1 := Lib.hid (within_calls 125000000 (by omega) (by omega) A n c f w hn h false (by simp; exact fun b => hA ⟨h60, b⟩))
    clear h hA
    go_enter Try.func19, Try.ntmps19
    go_wp2_with fail
    with_reducible refine H1.out.mono ?_
    rintro e w1 ⟨rfl, rfl⟩
    go_wp2
    go_ret2
    exact ⟨by simp, Below.refl _ _⟩
  · have d : decide ((60 : Int) < (n : Int)) = true := decide_eq_true (by omega)
    clear h hA
    unfold maxLen at hn
    go_enter Try.func19, Try.ntmps19
    go_wp2
    go_ret2
    exact ⟨by simp, Below.refl _ _⟩
set_option maxRecDepth 100000 in
set_option maxHeartbeats 1000000 in
theorem residS_law (A : Option Addr) (n c : Nat) (f : Nat → Int) (w : World) (hn : n ≤ 60) (h : IntsAt w A n f) (hA : AllIn 125000000 f n) :
    Calls Try.prog 17 #[.slice A n c] w fun e w' => ∃ G C : Nat, e = .returned (.tuple #[.slice (some ⟨G, 0, none⟩) n C, .int .i64 0]) ∧ w'.ownsRow w.heap.size 2 1 (.slice (some ⟨G, 0, none⟩) n C) n ((lst (resid f) n).map (Value.int .i64)) ∧ Below w.heap.size w w' := by
  have H1 := Lib.hid (small_calls A n c f w (by unfold maxLen; omega) h true (by simp; exact ⟨hn, hA⟩))
  have H2 := Lib.hid (residS_calls A n c f w hn h hA)
  clear h hA
  go_enter Try.func17, Try.ntmps17
  go_wp2_with fail
  with_reducible refine H1.out.mono ?_
  rintro e w1 ⟨rfl, rfl⟩
  go_wp2_with fail
  with_reducible refine H2.out.mono ?_
  rintro e w1 ⟨G, C, rfl, ho, hb⟩
  have HO := Lib.hid ho
  have HB := Lib.hid hb
  clear ho hb
  go_wp2
  go_ret2
  exact ⟨G, C, rfl, HO.out, HB.out⟩
set_option maxRecDepth 100000 in
set_option maxHeartbeats 1000000 in
theorem residS_no (A : Option Addr) (n c : Nat) (f : Nat → Int) (w : World) (hn : n ≤ maxLen) (h : IntsAt w A n f) (hA : ¬ (n ≤ 60 ∧ AllIn 125000000 f n)) :
    Calls Try.prog 17 #[.slice A n c] w fun e w' => e = .returned (.tuple #[.slice none 0 0, .int .i64 2]) ∧ Below w.heap.size w w' := by
  have H1 := Lib.hid (small_calls A n c f w hn h false (by simp; exact fun a b => hA ⟨a, b⟩))
  clear h hA
  go_enter Try.func17, Try.ntmps17
  go_wp2_with fail
  with_reducible refine H1.out.mono ?_
  rintro e w1 ⟨rfl, rfl⟩
  go_wp2
  go_ret2
  exact ⟨by simp, Below.refl _ _⟩
end Go.Proofs.Ytjhndncmeedffaa.resid
