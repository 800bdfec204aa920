/-
  Proved: both programs' lists with given residuals.
  Conditions: none.
-/
import Derived.Test.YtjhndncmeedffaaResI
namespace Go.Proofs.Ytjhndncmeedffaa.resid
open Go.ChangeShapes Go.WideShapes Go.ChangeAt Go.RowKit Go.Joins
open Go.Proofs.Ytjhndncmeedffaa.core Go.Proofs.Ytjhndncmeedffaa.rows Go.Proofs.Ytjhndncmeedffaa.bits Go.Proofs.Ytjhndncmeedffaa.numS Go.Proofs.Ytjhndncmeedffaa.ints
set_option linter.unusedVariables false
set_option linter.unusedSimpArgs false

theorem row_at {w : World} {base n : Nat} {g c : Nat} {f : Nat → Int} (h : w.ownsRow base 2 1 (.slice (some ⟨g, 0, none⟩) n c) n ((lst f n).map (Value.int .i64))) (hA : AllIn 125000000 f n) : IntsAt w (some ⟨g, 0, none⟩) n f := by
  rcases Nat.eq_zero_or_pos n with rfl | hp
  · exact fun i hi => absurd hi (by omega)
  · exact row_ints h (fun i hi => by have := hA i hi; unfold inI64; omega) hp

set_option maxRecDepth 100000 in
set_option maxHeartbeats 4000000 in
theorem fromS_calls (A : Option Addr) (n c : Nat) (f : Nat → Int) (w : World) (hn : n ≤ 60) (h : IntsAt w A n f) (hA : AllIn 1000000000 f n) (q : Bool) (hq : q = true ↔ AllIn 125000000 (from_ f) n) :
    Calls Try.prog 47 #[.slice A n c] w fun e w' => (q = true → ∃ G C : Nat, e = .returned (.tuple #[.slice (some ⟨G, 0, none⟩) n C, .bool true]) ∧ w'.ownsRow w.heap.size 2 1 (.slice (some ⟨G, 0, none⟩) n C) n ((lst (from_ f) n).map (Value.int .i64))) ∧ (q = false → e = .returned (.tuple #[.slice none 0 0, .bool false])) ∧ Below w.heap.size w w' := by
  obtain ⟨i0, hi0, hz0, hz1, hz2⟩ := info_get infoInt
  have H := Lib.hid h
  have HA := Lib.hid hA
  have HQ := Lib.hid hq
  clear h hA hq
  go_enter Try.func47, Try.ntmps47
  go_wp2
  go_loopw [4, 5, 6] (fun o i _ w' => ∃ (k gb C : Nat), k ≤ n ∧ i = .int .i64 (k : Int) ∧ o = .slice (some ⟨gb, 0, none⟩) k C ∧ Hid (AllIn 125000000 (from_ f) k) ∧ Hid (w'.ownsRow w.heap.size 2 1 (.slice (some ⟨gb, 0, none⟩) k C) k ((lst (from_ f) k).map (Value.int .i64))) ∧ Hid (Below w.heap.size w w')) (fun _ i _ _ => n - (intOf i).toNat)
  case atStart => exact ⟨0, _, _, Nat.zero_le _, rfl, rfl, Lib.hid (fun i hi => absurd hi (by omega)), Lib.hid (empty_row w 2), Lib.hid (below_alloc1 _ _)⟩
  case round =>
    obtain ⟨k, gb, C, hk, rfl, rfl, HF, HO, HB⟩ := hrel
    by_cases hlt : k < n
    · have HK := Lib.hid (H.out.kept HB.out)
      obtain ⟨b, o, rfl, hb, hc, -⟩ := HK.out k hlt
      have HC := Lib.hid (guess_calls (some ⟨gb, 0, none⟩) k C k (from_ f) wr.drew (Nat.le_refl _) (by omega) (row_at (ownsRow_kept HO.out (Below.refl _ _).drew) HF.out) HF.out)
      have HS := Lib.hid (lst_snoc (from_ f) k)
      have HR := Lib.hid (from_step f k)
      obtain ⟨x1, x2⟩ := HA.out k hlt
      obtain ⟨y1, y2⟩ := guess_in HF.out
      have HN := Lib.hid (fun hr : -125000000 ≤ from_ f k ∧ from_ f k ≤ 125000000 => HF.out.snoc hr)
      have HX := Lib.hid (fun (hr : ¬ (-125000000 ≤ from_ f k ∧ from_ f k ≤ 125000000)) (hq : q = true) => hr (HQ.out.1 hq k hlt))
      generalize from_ f k = r at *
      generalize f k = x at *
      generalize guess (from_ f) k = y at *
      have E1 := Lib.hid (show wrap64 (x + y) = r by rw [HR.out]; unfold wrap64; omega)
      have E2 := Lib.hid (show IntKind.i64.wrap (x + y) = r by rw [IntWalk.i64_left]; exact E1.out)
      have E3 := Lib.hid (show x + y = r from HR.out.symm)
      have HQ1 := Lib.hid hb
      have HCC := Lib.hid hc
      have hr1 : -1500000000 ≤ r := by have := HR.out; omega
      have hr2 : r ≤ 1500000000 := by have := HR.out; omega
      clear HK HF
      go_wp2
      go_region_with (go_at_call 60; refine HC.out.mono ?_; rintro e w2 ⟨rfl, hb2⟩; have hb2' := (Below.refl wr.heap.size wr).drew.trans hb2; have HB2 := Lib.hid (HB.out.trans (hb2'.mono HB.out.size)); have HO2 := Lib.hid (ownsRow_kept HO.out hb2'); have hc2 := (hb2'.cell (p := ⟨b, o + k, none⟩) HQ1.out).trans HCC.out; clear hb2 hb2')
      all_goals
        try rw [E1.out]
        try rw [E2.out]
        try rw [E3.out]
        clear hc
        by_cases hr : -125000000 ≤ r ∧ r ≤ 125000000
        · have HI := Lib.hid (in_yes r (-125000000) 125000000 w2 hr)
          have HF2 := Lib.hid (HN.out hr)
          clear hr HN HX HO HB
          go_wp2_with fail
          with_reducible refine HI.out.mono ?_
          rintro e w3 ⟨rfl, rfl⟩
          go_wp2_with (first
            | (at_builtin
               have z0 := ownsRow_kept HO2.out (below_alloc1 w2 (.cells #[.int .i64 r] 2))
               have z2 : ∀ u ∈ [Value.int .i64 r], u.oneCell' = true := (by simp [Value.oneCell'])
               have z3 : k + 1 ≤ maxLen := (by simp only [maxLen]; omega)
               have z4 : (k + 1) * 8 ≤ 140737488355328 := (by omega)
               have z5 : w.heap.size ≤ (w2.alloc (.cells #[.int .i64 r] 2)).heap.size := (Nat.le_trans HB2.out.size (by simp))
               refine wpList_append_lies (w2.alloc (.cells #[.int .i64 r] 2)) rfl _ _ 27 rfl w.heap.size 2 i0 (.int .i64 0) 1 8 Try.underlying27 hi0 hz0 hz1 hz2 rfl (by decide) (.slice (some ⟨gb, 0, none⟩) k C) k _ rfl z0 ⟨w2.heap.size, 0, none⟩ 1 1 [.int .i64 r] rfl rfl one_new z2 (by decide) z3 z4 z5 _ rfl ?_
               intro g3 cap3 w3 hown hgr hat hlt3
               have HO3 := Lib.hid hown
               have HB3 := Lib.hid (HB2.out.trans ((under HO2.out HB2.out.size hgr)))
               clear hown hgr hat z0 z2 z3 z4 z5 HO2 HB2))
          go_roundw
          case rel => exact ⟨k + 1, g3, cap3, by omega, by go_num, rfl, HF2, Lib.hid (by rw [HS.out]; exact HO3.out), HB3⟩
          case measure => simp [intOf]; omega
        · have HI := Lib.hid (in_no r (-125000000) 125000000 w2 hr)
          have HX2 := Lib.hid (HX.out hr)
          clear hr HN HX HO HB
          go_wp2_with fail
          with_reducible refine HI.out.mono ?_
          rintro e w3 ⟨rfl, rfl⟩
          go_wp2
          go_ret2
          exact ⟨fun h => absurd h HX2.out, fun _ => by simp, HB2.out⟩
    · obtain rfl : k = n := by omega
      have hqt : q = true := HQ.out.2 HF.out
      go_wp2
      go_ret2
      exact ⟨fun _ => ⟨gb, C, by simp, HO.out⟩, fun h => (by rw [hqt] at h; cases h), HB.out⟩
end Go.Proofs.Ytjhndncmeedffaa.resid
