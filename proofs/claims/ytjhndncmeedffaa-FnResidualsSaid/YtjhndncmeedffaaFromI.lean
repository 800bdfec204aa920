/-
  Proved: the program's lists with given residuals.
  Conditions: none.
-/
import Derived.Test.YtjhndncmeedffaaFromS
namespace Go.Proofs.Ytjhndncmeedffaa.resid
open Go.ChangeShapes Go.WideShapes Go.ChangeAt Go.RowKit Go.Joins
open Go.Proofs.Ytjhndncmeedffaa.core Go.Proofs.Ytjhndncmeedffaa.rows Go.Proofs.Ytjhndncmeedffaa.bits Go.Proofs.Ytjhndncmeedffaa.numS Go.Proofs.Ytjhndncmeedffaa.ints
set_option linter.unusedVariables false
set_option linter.unusedSimpArgs false

theorem one_ints (n : Int) (hn : inI64 n) (w : World) : IntsAt (w.alloc (.cells #[.int .i64 n] 2)) (some ⟨w.heap.size, 0, none⟩) 1 (fun _ => n) := fun i hi => by
  obtain rfl : i = 0 := by omega
  exact ⟨w.heap.size, 0, rfl, by simp, by simp, hn⟩
theorem one_calls (n : Int) (hn : inI64 n) (r : Bool) (hr : r = true ↔ -125000000 ≤ n ∧ n ≤ 125000000) (w : World) :
    Calls Try.prog 40 #[.int .i64 125000000, .slice (some ⟨w.heap.size, 0, none⟩) 1 1] (w.alloc (.cells #[.int .i64 n] 2)) fun e w' => e = .returned (.bool r) ∧ w.alloc (.cells #[.int .i64 n] 2) = w' :=
  within_calls 125000000 (by decide) (by decide) _ 1 1 (fun _ => n) _ (by unfold maxLen; omega) (one_ints n hn w) r (by rw [hr]; exact ⟨fun h i _ => h, fun h => h 0 (by omega)⟩)

set_option maxRecDepth 100000 in
set_option maxHeartbeats 4000000 in
theorem fromI_calls (A : Option Addr) (n c : Nat) (f : Nat → Int) (w : World) (hn : n ≤ 60) (h : IntsAt w A n f) (hA : AllIn 1000000000 f n) (q : Bool) (hq : q = true ↔ AllIn 125000000 (from_ f) n) :
    Calls Try.prog 24 #[.slice A n c] w fun e w' => (q = true → ∃ G C : Nat, e = .returned (.tuple #[.slice (some ⟨G, 0, none⟩) n C, .int .i64 0]) ∧ w'.ownsRow w.heap.size 2 1 (.slice (some ⟨G, 0, none⟩) n C) n ((lst (from_ f) n).map (Value.int .i64))) ∧ (q = false → e = .returned (.tuple #[.slice none 0 0, .int .i64 2])) ∧ Below w.heap.size w w' := by
  obtain ⟨i0, hi0, hz0, hz1, hz2⟩ := info_get infoInt
  have H := Lib.hid h
  have HA := Lib.hid hA
  have HQ := Lib.hid hq
  have HW := Lib.hid (within_calls 1000000000 (by omega) (by omega) A n c f w (by unfold maxLen; omega) h true (by simp; exact hA))
  clear h hA hq
  obtain ⟨cur, hcur, hmk⟩ := make0 n (by omega) w
  have HCUR := Lib.hid hcur
  clear hcur
  go_enter Try.func24, Try.ntmps24
  go_wp2_with fail
  with_reducible refine HW.out.mono ?_
  rintro e w1 ⟨rfl, rfl⟩
  go_wp2
  clear hmk
  go_loopw [4, 6, 7, 21] (fun o _ _ i w' => ∃ (k gb C : Nat), k ≤ n ∧ i = .int .i64 (k : Int) ∧ o = .slice (some ⟨gb, 0, none⟩) k C ∧ Hid (AllIn 125000000 (from_ f) k) ∧ Hid (w'.ownsRow w.heap.size 2 1 (.slice (some ⟨gb, 0, none⟩) k C) k ((lst (from_ f) k).map (Value.int .i64))) ∧ Hid (Below w.heap.size w w')) (fun _ _ _ i _ => n - (intOf i).toNat)
  case atStart => exact ⟨0, _, _, Nat.zero_le _, rfl, rfl, Lib.hid (fun i hi => absurd hi (by omega)), Lib.hid (World.ownsRow_made w cur n (Nat.le_refl _) (by unfold maxLen; omega) HCUR.out), Lib.hid (below_alloc1 _ _)⟩
  case round =>
    obtain ⟨k, gb, C, hk, rfl, rfl, HF, HO, HB⟩ := hrel
    by_cases hlt : k < n
    · have HK := Lib.hid (H.out.kept HB.out)
      obtain ⟨b, o, rfl, hb, hc, -⟩ := HK.out k hlt
      have HC := Lib.hid (pred_calls (some ⟨gb, 0, none⟩) k C (from_ f) wr (by omega) (row_at HO.out HF.out) HF.out)
      have HS := Lib.hid (lst_snoc (from_ f) k)
      have HR := Lib.hid (from_step f k)
      obtain ⟨x1, x2⟩ := HA.out k hlt
      obtain ⟨y1, y2⟩ := guess_in HF.out
      have HN := Lib.hid (fun hr : -125000000 ≤ from_ f k ∧ from_ f k ≤ 125000000 => HF.out.snoc hr)
      have HX := Lib.hid (fun (hr : ¬ (-125000000 ≤ from_ f k ∧ from_ f k ≤ 125000000)) (hq : q = true) => hr (HQ.out.1 hq k hlt))
      generalize from_ f k = r at *
      generalize f k = x at *
      generalize guess (from_ f) k = y at *
      have E3 := Lib.hid (show y + x = r by have := HR.out; omega)
      have hr1 : -1500000000 ≤ r := by have := HR.out; omega
      have hr2 : r ≤ 1500000000 := by have := HR.out; omega
      clear HK HF
      go_wp2_with fail
      with_reducible refine HC.out.mono ?_
      rintro e w2 ⟨rfl, hb2⟩
      have HB2 := Lib.hid (HB.out.trans (hb2.mono HB.out.size))
      have HO2 := Lib.hid (ownsRow_kept HO.out hb2)
      clear hb2 HC HB HO hc
      by_cases hr : -125000000 ≤ r ∧ r ≤ 125000000
      · have HI := Lib.hid (one_calls r ⟨by omega, by omega⟩ true (by simp [hr]) w2)
        have HF2 := Lib.hid (HN.out hr)
        have HO3 := Lib.hid (ownsRow_kept HO2.out (below_alloc1 w2 (.cells #[.int .i64 r] 2)))
        have HB3 := Lib.hid (HB2.out.trans ((below_alloc1 w2 (.cells #[.int .i64 r] 2)).mono HB2.out.size))
        clear hr HN HX HB2 HO2
        rw [← E3.out] at HI HO3 HB3
        go_wp2_with fail
        with_reducible refine HI.out.mono ?_
        rintro e w3 ⟨rfl, rfl⟩
        obtain ⟨w4, hw4⟩ : ∃ w4, w4 = w2.alloc (.cells #[.int .i64 (y + x)] 2) := ⟨_, rfl⟩
        rw [← hw4] at HO3 HB3 ⊢
        clear hw4 HI
        go_wp2_with (first
          | (at_builtin
             have z0 := ownsRow_kept HO3.out (below_alloc1 w4 (.cells #[.int .i64 (y + x)] 2))
             have z2 : ∀ u ∈ [Value.int .i64 (y + x)], u.oneCell' = true := (by simp [Value.oneCell'])
             have z3 : k + 1 ≤ maxLen := (by simp only [maxLen]; omega)
             have z4 : (k + 1) * 8 ≤ 140737488355328 := (by omega)
             have z5 : w.heap.size ≤ (w4.alloc (.cells #[.int .i64 (y + x)] 2)).heap.size := (Nat.le_trans HB3.out.size (by simp))
             refine wpList_append_lies (w4.alloc (.cells #[.int .i64 (y + x)] 2)) rfl _ _ 27 rfl w.heap.size 2 i0 (.int .i64 0) 1 8 Try.underlying27 hi0 hz0 hz1 hz2 rfl (by decide) (.slice (some ⟨gb, 0, none⟩) k C) k _ rfl z0 ⟨w4.heap.size, 0, none⟩ 1 1 [.int .i64 (y + x)] rfl rfl one_new z2 (by decide) z3 z4 z5 _ rfl ?_
             intro g3 cap3 w3 hown hgr hat hlt3
             rw [E3.out] at hown
             have HO4 := Lib.hid hown
             have HB4 := Lib.hid (HB3.out.trans ((under HO3.out HB3.out.size hgr)))
             clear hown hgr hat z0 z2 z3 z4 z5 HO3 HB3))
        go_roundw
        case rel => exact ⟨k + 1, g3, cap3, by omega, by go_num, rfl, HF2, Lib.hid (by rw [HS.out]; exact HO4.out), HB4⟩
        case measure => simp [intOf]; omega
      · have HI := Lib.hid (one_calls r ⟨by omega, by omega⟩ false (by simp; omega) w2)
        have HX2 := Lib.hid (HX.out hr)
        have HB3 := Lib.hid (HB2.out.trans ((below_alloc1 w2 (.cells #[.int .i64 r] 2)).mono HB2.out.size))
        clear hr HN HX HB2 HO2
        rw [← E3.out] at HI HB3
        go_wp2_with fail
        with_reducible refine HI.out.mono ?_
        rintro e w3 ⟨rfl, rfl⟩
        go_wp2
        go_ret2
        exact ⟨fun h => absurd h HX2.out, fun _ => by simp, HB3.out⟩
    · obtain rfl : k = n := by omega
      have hqt : q = true := HQ.out.2 HF.out
      go_wp2
      go_ret2
      exact ⟨fun _ => ⟨gb, C, by simp, HO.out⟩, fun h => (by rw [hqt] at h; cases h), HB.out⟩
set_option maxRecDepth 100000 in
set_option maxHeartbeats 1000000 in
theorem fromI_no (A : Option Addr) (n c : Nat) (f : Nat → Int) (w : World) (hn : n ≤ maxLen) (h : IntsAt w A n f) (hA : ¬ (n ≤ 60 ∧ AllIn 1000000000 f n)) :
    Calls Try.prog 24 #[.slice A n c] w fun e w' => e = .returned (.tuple #[.slice none 0 0, .int .i64 2]) ∧ Below w.heap.size w w' := by
  by_cases h60 : n ≤ 60
  · have H1 := Lib.hid (within_calls 1000000000 (by omega) (by omega) A n c f w hn h false (by simp; exact fun b => hA ⟨h60, b⟩))
    clear h hA
    go_enter Try.func24, Try.ntmps24
    go_wp2_with fail
    with_reducible refine H1.out.mono ?_
    rintro e w1 ⟨rfl, rfl⟩
    go_wp2
    go_ret2
    exact ⟨by simp, Below.refl _ _⟩
  · have d : decide ((60 : Int) < (n : Int)) = true := decide_eq_true (by omega)
    clear h hA
    unfold maxLen at hn
    go_enter Try.func24, Try.ntmps24
    go_wp2
    go_ret2
    exact ⟨by simp, Below.refl _ _⟩
set_option maxRecDepth 100000 in
set_option maxHeartbeats 1000000 in
theorem fromS_no (A : Option Addr) (n c : Nat) (f : Nat → Int) (w : World) (hn : n ≤ maxLen) (h : IntsAt w A n f) (hA : ¬ (n ≤ 60 ∧ AllIn 1000000000 f n)) :
    Calls Try.prog 23 #[.slice A n c] w fun e w' => e = .returned (.tuple #[.slice none 0 0, .int .i64 2]) ∧ Below w.heap.size w w' := by
  have H1 := Lib.hid (all_calls A n c f w hn h false (by simp; exact fun a b => hA ⟨a, b⟩))
  clear h hA
  go_enter Try.func23, Try.ntmps23
  go_wp2_with fail
  with_reducible refine H1.out.mono ?_
  rintro e w1 ⟨rfl, rfl⟩
  go_wp2
  go_ret2
  exact ⟨by simp, Below.refl _ _⟩
set_option maxRecDepth 100000 in
set_option maxHeartbeats 1000000 in
theorem fromS_yes (A : Option Addr) (n c : Nat) (f : Nat → Int) (w : World) (hn : n ≤ 60) (h : IntsAt w A n f) (hA : AllIn 1000000000 f n) (hF : AllIn 125000000 (from_ f) n) :
    Calls Try.prog 23 #[.slice A n c] w fun e w' => ∃ G C : Nat, e = .returned (.tuple #[.slice (some ⟨G, 0, none⟩) n C, .int .i64 0]) ∧ w'.ownsRow w.heap.size 2 1 (.slice (some ⟨G, 0, none⟩) n C) n ((lst (from_ f) n).map (Value.int .i64)) ∧ Below w.heap.size w w' := by
  have H1 := Lib.hid (all_calls A n c f w (by unfold maxLen; omega) h true (by simp; exact ⟨hn, hA⟩))
  have H2 := Lib.hid (fromS_calls A n c f w hn h hA true (by simp; exact hF))
  clear h hA hF
  go_enter Try.func23, Try.ntmps23
  go_wp2_with fail
  with_reducible refine H1.out.mono ?_
  rintro e w1 ⟨rfl, rfl⟩
  go_wp2_with fail
  with_reducible refine H2.out.mono ?_
  rintro e w1 ⟨h1, -, hb⟩
  obtain ⟨G, C, rfl, ho⟩ := h1 (by trivial)
  have HO := Lib.hid ho
  have HB := Lib.hid hb
  clear h1 ho hb
  go_wp2
  go_ret2
  exact ⟨G, C, by simp, HO.out, HB.out⟩
set_option maxRecDepth 100000 in
set_option maxHeartbeats 1000000 in
theorem fromS_out (A : Option Addr) (n c : Nat) (f : Nat → Int) (w : World) (hn : n ≤ 60) (h : IntsAt w A n f) (hA : AllIn 1000000000 f n) (hF : ¬ AllIn 125000000 (from_ f) n) :
    Calls Try.prog 23 #[.slice A n c] w fun e w' => e = .returned (.tuple #[.slice none 0 0, .int .i64 2]) ∧ Below w.heap.size w w' := by
  have H1 := Lib.hid (all_calls A n c f w (by unfold maxLen; omega) h true (by simp; exact ⟨hn, hA⟩))
  have H2 := Lib.hid (fromS_calls A n c f w hn h hA false (by simp; exact hF))
  clear h hA hF
  go_enter Try.func23, Try.ntmps23
  go_wp2_with fail
  with_reducible refine H1.out.mono ?_
  rintro e w1 ⟨rfl, rfl⟩
  go_wp2_with fail
  with_reducible refine H2.out.mono ?_
  rintro e w1 ⟨-, h1, hb⟩
  obtain rfl := h1 (by trivial)
  have HB := Lib.hid hb
  clear h1 hb
  go_wp2
  go_ret2
  exact ⟨by simp, HB.out⟩
end Go.Proofs.Ytjhndncmeedffaa.resid
