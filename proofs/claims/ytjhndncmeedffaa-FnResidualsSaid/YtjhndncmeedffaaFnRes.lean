/-
  Proved: for all arguments, the call of the law on residuals returns true and leaves its arguments as they were.
  Conditions: none beyond the row's own.
-/
import Derived.Test.YtjhndncmeedffaaNums
import Derived.Test.YtjhndncmeedffaaFromI
import Derived.Test.YtjhndncmeedffaaOpen
namespace Go.Proofs.Ytjhndncmeedffaa.fnRes
open Go.ChangeShapes Go.WideShapes Go.ChangeAt Go.RowKit Go.Joins
open Go.Proofs.Ytjhndncmeedffaa.core Go.Proofs.Ytjhndncmeedffaa.rows Go.Proofs.Ytjhndncmeedffaa.bits Go.Proofs.Ytjhndncmeedffaa.ints Go.Proofs.Ytjhndncmeedffaa.src Go.Proofs.Ytjhndncmeedffaa.resid
set_option linter.unusedVariables false
set_option linter.unusedSimpArgs false

theorem room {w : World} {base m G C : Nat} {xs : List Value} (h : w.ownsRow base 2 1 (.slice (some ⟨G, 0, none⟩) m C) m xs) : m ≤ C := by
  obtain ⟨_, h⟩ := h
  rcases h with ⟨h, _⟩ | ⟨g, cap, cur, h, _, _, h3, _⟩
  · cases h
  · cases h; exact h3
theorem row_view {w : World} {base m G C : Nat} {f : Nat → Int} (h : w.ownsRow base 2 1 (.slice (some ⟨G, 0, none⟩) m C) m ((lst f m).map (Value.int .i64))) (hf : ∀ i, i < m → inI64 (f i)) : IntsAt w (some ⟨G, 0, none⟩) m f := by
  rcases Nat.eq_zero_or_pos m with rfl | hp
  · exact fun i hi => absurd hi (by omega)
  · exact row_ints h hf hp
set_option maxRecDepth 100000 in
set_option maxHeartbeats 2000000 in
theorem same_calls (A B : Option Addr) (n c d : Nat) (f : Nat → Int) (w : World) (hn : n ≤ 60) (h : IntsAt w A n f) (k : IntsAt w B n f) :
    Calls Try.prog 31 #[.slice A n c, .slice B n d] w fun e w' => e = .returned (.bool true) ∧ Below w.heap.size w w' := by
  have H := Lib.hid h
  have HK := Lib.hid k
  clear h k
  go_enter Try.func31, Try.ntmps31
  go_wp2
  go_loopw [5] (fun i w' => ∃ k : Nat, k ≤ n ∧ i = .int .i64 (k : Int) ∧ Hid (Below w.heap.size w w')) (fun i _ => n - (intOf i).toNat)
  case atStart => exact ⟨0, Nat.zero_le _, rfl, Lib.hid (Below.refl _ _)⟩
  case round =>
    obtain ⟨k, hk, rfl, HB⟩ := hrel
    by_cases hlt : k < n
    · obtain ⟨b, o, rfl, hb, hc, -⟩ := (H.out.kept HB.out) k hlt
      obtain ⟨b2, o2, rfl, hb2, hc2, -⟩ := (HK.out.kept HB.out) k hlt
      generalize f k = x at *
      go_wp2
      go_region
      all_goals
        go_wp2
        go_roundw
        case rel => exact ⟨k + 1, by omega, by go_num, Lib.hid HB.out.drew⟩
        case measure => simp [intOf]; omega
    · obtain rfl : k = n := by omega
      go_wp2
      go_ret
      exact ⟨rfl, HB.out⟩

/-- The line of equal steps. -/
def line (s : Int) (k : Nat) : Int := 50 + s * (k : Int)
theorem line_in {s : Int} {k : Nat} (h1 : -100 ≤ s) (h2 : s ≤ 99) (hk : k ≤ 22) : -2200 ≤ s * (k : Int) ∧ s * (k : Int) ≤ 2200 := by
  have a := Int.mul_le_mul_of_nonneg_right h1 (show (0 : Int) ≤ k by omega)
  have b := Int.mul_le_mul_of_nonneg_right h2 (show (0 : Int) ≤ k by omega)
  omega
theorem line_far (s : Int) (j : Nat) : resid (line s) (j + 2) = 0 := by
  show line s (j + 2) - (2 * line s (j + 1) - line s j) = 0
  unfold line
  have e1 : ((j + 2 : Nat) : Int) = (j : Int) + 2 := by omega
  have e2 : ((j + 1 : Nat) : Int) = (j : Int) + 1 := by omega
  simp only [e1, e2, Int.mul_add, Int.mul_one]
  omega
theorem line_one (s : Int) : resid (line s) 1 = s := by
  show line s 1 - line s 0 = s
  unfold line
  simp
  omega
theorem resid_all {L : Nat} {f : Nat → Int} (h : AllIn 125000000 f L) : AllIn 1000000000 (resid f) L := fun i hi => by
  have h1 := h i hi
  have h2 := guess_in (allIn_le h (Nat.le_of_lt hi))
  unfold resid
  omega
theorem in64 {L : Nat} {f : Nat → Int} {M : Int} (hM : M ≤ 1000000000) (h : AllIn M f L) : ∀ i, i < L → inI64 (f i) := fun i hi => by
  have h1 := h i hi
  unfold inI64
  omega

set_option maxRecDepth 100000 in
set_option maxHeartbeats 8000000 in
theorem walk (A D : Option Addr) (n c m d : Nat) (w : World) (hn : n ≤ maxLen) (hm : m ≤ maxLen) (hA : BytesAt w w.heap.size A n) (hD : BytesAt w w.heap.size D m) :
    Calls Try.prog 10 #[.slice A n c, .slice D m d] w fun e w' => e = .returned (.bool true) ∧ Below w.heap.size w w' := by
  by_cases hl : 3000 < n ∨ 3000 < m
  · have H0 := Lib.hid (long_calls A D n c m d w hn hm true (by simp; exact hl))
    clear hn hm hA hD hl
    go_enter Try.func10, Try.ntmps10
    go_wp2_with fail
    with_reducible refine H0.out.mono ?_
    rintro e w1 ⟨rfl, rfl⟩
    go_wp2
    go_ret
    exact ⟨rfl, Below.refl _ _⟩
  · have H0 := Lib.hid (long_calls A D n c m d w hn hm false (by simp; omega))
    have hn2 : n ≤ 3000 := by omega
    have hm2 : m ≤ 3000 := by omega
    have H1 := Lib.hid (nums_calls A n c w hn2 hA)
    obtain ⟨y0, hy0, hat0⟩ := at_calls D m d 0 200 w w.heap.size hm2 (by omega) (by omega) (by omega) hD
    obtain ⟨y1, hy1, hat1⟩ := at_calls D m d 1 20 w w.heap.size hm2 (by omega) (by omega) (by omega) hD
    have HY0 : Hid (∀ W, Below w.heap.size w W → Calls Try.prog 32 #[.slice D m d, .int .i64 0, .int .i64 200] W fun e w' => e = .returned (.int .i64 (y0 : Int)) ∧ W = w') := Lib.hid hat0
    have HY1 : Hid (∀ W, Below w.heap.size w W → Calls Try.prog 32 #[.slice D m d, .int .i64 1, .int .i64 20] W fun e w' => e = .returned (.int .i64 (y1 : Int)) ∧ W = w') := Lib.hid hat1
    clear hn hm hA hD hl hat0 hat1
    obtain ⟨i0, hi0, hz0, hz1, hz2⟩ := info_get infoInt
    go_enter Try.func10, Try.ntmps10
    go_wp2_with fail
    with_reducible refine H0.out.mono ?_
    rintro e w1 ⟨rfl, rfl⟩
    go_wp2_with fail
    with_reducible refine H1.out.mono ?_
    rintro e w1 ⟨k, G, C, f, hk, hf, rfl, ho, hb⟩
    have HF := Lib.hid (show AllIn 125000000 f k from fun i hi => by have := hf i hi; omega)
    have HV := Lib.hid (row_view ho (in64 (by omega) HF.out))
    have HB := Lib.hid hb
    have H2 := Lib.hid (residI_calls (some ⟨G, 0, none⟩) k C (room ho) f w1 (by omega) HV.out HF.out)
    clear hf ho hb H0 H1
    go_wp2_with fail
    with_reducible refine H2.out.mono ?_
    rintro e w2 ⟨G2, C2, rfl, ho, hb⟩
    have HV2 := Lib.hid (HV.out.kept hb)
    have HB2 := Lib.hid (HB.out.trans (hb.mono HB.out.size))
    have H3 := Lib.hid (fromI_calls (some ⟨G2, 0, none⟩) k C2 (resid f) w2 (by omega) (row_view ho (in64 (by omega) (resid_all HF.out))) (resid_all HF.out) true (by simp; exact fun i hi => by rw [from_resid]; exact HF.out i hi))
    clear ho hb H2 HV HB
    go_wp2_with fail
    with_reducible refine H3.out.mono ?_
    rintro e w3 ⟨h1, -, hb⟩
    obtain ⟨G3, C3, rfl, ho⟩ := h1 (by trivial)
    have HL := Lib.hid (show IntsAt w3 (some ⟨G3, 0, none⟩) k f from by
      have h := row_view (f := from_ (resid f)) ho (fun i hi => by rw [from_resid]; exact in64 (by omega) HF.out i hi)
      exact h.cast fun i hi => from_resid f i)
    have HV3 := Lib.hid (HV2.out.kept hb)
    have HB3 := Lib.hid (HB2.out.trans (hb.mono HB2.out.size))
    have H4 := Lib.hid (same_calls (some ⟨G3, 0, none⟩) (some ⟨G, 0, none⟩) k C3 C f w3 (by omega) HL.out HV3.out)
    clear h1 ho hb H3 HV2 HB2
    go_wp2_with fail
    with_reducible refine H4.out.mono ?_
    rintro e w4 ⟨rfl, hb⟩
    have HB4 := Lib.hid (HB3.out.trans (hb.mono HB3.out.size))
    clear hb H4 HB3 HL HV3
    have H5 := Lib.hid (HY0.out _ (HB4.out.trans ((below_alloc1 w4 (.cells #[] 2)).mono HB4.out.size)))
    go_wp2_with fail
    with_reducible refine H5.out.mono ?_
    rintro e w5 ⟨rfl, rfl⟩
    obtain ⟨s, hs⟩ : ∃ s : Int, s = (y0 : Int) - 100 := ⟨_, rfl⟩
    have hs1 : -100 ≤ s := by omega
    have hs2 : s ≤ 99 := by omega
    have HO5 := Lib.hid (empty_row w4 2)
    have HB5 := Lib.hid (HB4.out.trans ((below_alloc1 w4 (.cells #[] 2)).mono HB4.out.size))
    clear H5
    go_wp2
    rw [← hs]
    have HSS := Lib.hid hs
    clear hs hy0
    obtain ⟨N, hN⟩ : ∃ N, N = 3 + y1 := ⟨_, rfl⟩
    have hN1 : 3 ≤ N := by omega
    have hN2 : N ≤ 22 := by omega
    have HN := Lib.hid hN
    clear hN
    go_loopw [10, 12] (fun o i w' => ∃ (j gb Cc : Nat), j ≤ N ∧ i = .int .i64 (j : Int) ∧ o = .slice (some ⟨gb, 0, none⟩) j Cc ∧ Hid (w'.ownsRow w4.heap.size 2 1 (.slice (some ⟨gb, 0, none⟩) j Cc) j ((lst (line s) j).map (Value.int .i64))) ∧ Hid (Below w4.heap.size w4 w')) (fun _ i _ => N - (intOf i).toNat)
    case atStart => exact ⟨0, _, _, by omega, rfl, rfl, HO5, Lib.hid (below_alloc1 _ _)⟩
    case round =>
      obtain ⟨j, gb, Cc, hj, rfl, rfl, HO, HBr⟩ := hrel
      have HBw := Lib.hid (HB4.out.trans (HBr.out.mono HB4.out.size))
      have H6 := Lib.hid (HY1.out wr HBw.out)
      by_cases hlt : j < N
      · have hlt' : (j : Int) < 3 + (y1 : Int) := by have := HN.out; omega
        have HS := Lib.hid (lst_snoc (line s) j)
        obtain ⟨q1, q2⟩ := line_in hs1 hs2 (show j ≤ 22 by omega)
        have HE := Lib.hid (show line s j = 50 + s * (j : Int) from rfl)
        generalize line s j = r at *
        have E1 : wrap64 (s * (j : Int)) = s * (j : Int) := by unfold wrap64; omega
        have E2 : wrap64 (50 + s * (j : Int)) = 50 + s * (j : Int) := by unfold wrap64; omega
        go_wp2_with fail
        with_reducible refine H6.out.mono ?_
        rintro e w6 ⟨rfl, rfl⟩
        have HE2 := Lib.hid HE.out
        clear HE H6
        go_wp2_with (first
          | (at_builtin
             have z0 := ownsRow_kept HO.out (below_alloc1 wr (.cells #[.int .i64 (50 + s * (j : Int))] 2))
             have z2 : ∀ u ∈ [Value.int .i64 (50 + s * (j : Int))], u.oneCell' = true := (by simp [Value.oneCell'])
             have z3 : j + 1 ≤ maxLen := (by simp only [maxLen]; omega)
             have z4 : (j + 1) * 8 ≤ 140737488355328 := (by omega)
             have z5 : w4.heap.size ≤ (wr.alloc (.cells #[.int .i64 (50 + s * (j : Int))] 2)).heap.size := (Nat.le_trans HBr.out.size (by simp))
             refine wpList_append_lies (wr.alloc (.cells #[.int .i64 (50 + s * (j : Int))] 2)) rfl _ _ 27 rfl w4.heap.size 2 i0 (.int .i64 0) 1 8 Try.underlying27 hi0 hz0 hz1 hz2 rfl (by decide) (.slice (some ⟨gb, 0, none⟩) j Cc) j _ rfl z0 ⟨wr.heap.size, 0, none⟩ 1 1 [.int .i64 (50 + s * (j : Int))] rfl rfl one_new z2 (by decide) z3 z4 z5 _ rfl ?_
             intro g3 cap3 w7 hown hgr hat hlt3
             rw [← HE2.out] at hown
             have HO4 := Lib.hid hown
             have HB4' := Lib.hid (HBr.out.trans ((under HO.out HBr.out.size hgr)))
             clear hown hgr hat z0 z2 z3 z4 z5 HO HBr E1 E2))
        go_roundw
        case rel => exact ⟨j + 1, g3, cap3, by omega, by go_num, rfl, Lib.hid (by rw [HS.out]; exact HO4.out), HB4'⟩
        case measure => simp [intOf]; omega
      · obtain rfl : j = N := by omega
        have hA2 : AllIn 125000000 (line s) j := fun i hi => by
          have := line_in hs1 hs2 (show i ≤ 22 by omega)
          unfold line
          omega
        have H7 := Lib.hid (residI_calls (some ⟨gb, 0, none⟩) j Cc (room HO.out) (line s) wr (by omega) (row_view HO.out (in64 (by omega) hA2)) hA2)
        have HA2 := Lib.hid hA2
        have hlt' : ¬ (j : Int) < 3 + (y1 : Int) := by have := HN.out; omega
        clear hA2 HO hlt hj
        go_wp2_with fail
        with_reducible refine H6.out.mono ?_
        rintro e w6 ⟨rfl, rfl⟩
        clear H6
        go_wp2_with fail
        with_reducible refine H7.out.mono ?_
        rintro e w7 ⟨G7, C7, rfl, ho, hb⟩
        have HZ := Lib.hid (row_view ho (in64 (by omega) (resid_all HA2.out)))
        have HB7 := Lib.hid (HBw.out.trans (hb.mono HBw.out.size))
        clear ho hb H7 HA2 hlt'
        go_wp2
        obtain ⟨N, rfl⟩ : ∃ N, N = j := ⟨_, rfl⟩
        go_loop [15] (fun i => ∃ j : Nat, 2 ≤ j ∧ j ≤ N ∧ i = .int .i64 (j : Int)) (fun i => N - (intOf i).toNat)
        case atStart => exact ⟨2, by omega, by omega, rfl⟩
        case round =>
          obtain ⟨j, hj1, hj2, rfl⟩ := hrel
          by_cases hlt : j < N
          · obtain ⟨b, o, e, hb, hc, -⟩ := HZ.out j hlt
            cases e
            obtain ⟨j', rfl⟩ : ∃ j', j = j' + 2 := ⟨j - 2, by omega⟩
            rw [line_far, Nat.zero_add] at hc
            have hlt' : ((j' + 2 : Nat) : Int) < (N : Int) := by omega
            go_wp2
            go_round
            case rel => exact ⟨j' + 2 + 1, by omega, by omega, by go_num⟩
            case measure => simp [intOf]; omega
          · obtain rfl : j = N := by omega
            obtain ⟨b, o, e, hb, hc, -⟩ := HZ.out 1 (by omega)
            cases e
            rw [line_one, Nat.zero_add] at hc
            go_wp2
            go_ret
            exact ⟨by simp, HB7.out⟩
end Go.Proofs.Ytjhndncmeedffaa.fnRes
