/-
  Proved: the document's residuals, and the lists with given residuals.
  Conditions: none.
-/
import Derived.Test.YtjhndncmeedffaaDoorGuess
import Derived.Deep.RegionHeld3
import Derived.Deep.AppendLies
namespace Go.Proofs.YtjhndncmeedffaaDoor.resid
open Go.ChangeShapes Go.WideShapes Go.ChangeAt Go.RowKit Go.Joins
open Go.Proofs.YtjhndncmeedffaaDoor.core Go.Proofs.YtjhndncmeedffaaDoor.rows Go.Proofs.YtjhndncmeedffaaDoor.bits Go.Proofs.YtjhndncmeedffaaDoor.numS Go.Proofs.YtjhndncmeedffaaDoor.ints
set_option linter.unusedVariables false
set_option linter.unusedSimpArgs false

theorem lst_snoc (f : Nat → Int) (k : Nat) : (lst f (k + 1)).map (Value.int .i64) = (lst f k).map (Value.int .i64) ++ [.int .i64 (f k)] := by simp [lst]

set_option maxRecDepth 100000 in
set_option maxHeartbeats 4000000 in
theorem residS_calls (A : Option Addr) (n c : Nat) (f : Nat → Int) (w : World) (hn : n ≤ 60) (h : IntsAt w A n f) (hA : AllIn 125000000 f n) :
    Calls Tryd.prog 34 #[.slice A n c] w fun e w' => ∃ G C : Nat, e = .returned (.slice (some ⟨G, 0, none⟩) n C) ∧ w'.ownsRow w.heap.size 2 1 (.slice (some ⟨G, 0, none⟩) n C) n ((lst (resid f) n).map (Value.int .i64)) ∧ Below w.heap.size w w' := by
  obtain ⟨i0, hi0, hz0, hz1, hz2⟩ := info_get infoInt
  have H := Lib.hid h
  have HA := Lib.hid hA
  clear h hA
  go_enter Tryd.func34, Tryd.ntmps34
  go_wp2
  go_loopw [3, 4] (fun o i w' => ∃ (k gb C : Nat), k ≤ n ∧ i = .int .i64 (k : Int) ∧ o = .slice (some ⟨gb, 0, none⟩) k C ∧ Hid (w'.ownsRow w.heap.size 2 1 (.slice (some ⟨gb, 0, none⟩) k C) k ((lst (resid f) k).map (Value.int .i64))) ∧ Hid (Below w.heap.size w w')) (fun _ i _ => n - (intOf i).toNat)
  case atStart => exact ⟨0, _, _, Nat.zero_le _, rfl, rfl, Lib.hid (empty_row w 2), Lib.hid (below_alloc1 _ _)⟩
  case round =>
    obtain ⟨k, gb, C, hk, rfl, rfl, HO, HB⟩ := hrel
    by_cases hlt : k < n
    · have HK := Lib.hid (H.out.kept HB.out)
      obtain ⟨b, o, rfl, hb, hc, -⟩ := HK.out k hlt
      have HC := Lib.hid (guess_calls (some ⟨b, o, none⟩) n c k f wr.drew hk hn (HK.out.kept (Below.refl _ _).drew) (allIn_le HA.out hk))
      have HS := Lib.hid (lst_snoc (resid f) k)
      have HR := Lib.hid (show resid f k = f k - guess f k from rfl)
      obtain ⟨x1, x2⟩ := HA.out k hlt
      obtain ⟨y1, y2⟩ := guess_in (allIn_le HA.out hk)
      generalize resid f k = r at *
      generalize f k = x at *
      generalize guess f k = y at *
      have E1 := Lib.hid (show wrap64 (x - y) = r by rw [HR.out]; unfold wrap64; omega)
      have E2 := Lib.hid (show IntKind.i64.wrap (x - y) = r by rw [IntWalk.i64_left]; exact E1.out)
      have E3 := Lib.hid (show x - y = r from HR.out.symm)
      have HQ := Lib.hid hb
      have HCC := Lib.hid hc
      clear HK
      go_wp2
      go_region_law (first
        | (refine step_append_lies _ rfl (.tmp 12) (.tmp 21) _ rfl w.heap.size 2 i0 (.int .i64 0) 1 8 Tryd.underlying30 hi0 hz0 hz1 hz2 rfl (by omega) (.slice (some ⟨gb, 0, none⟩) k C) k _ (by simp [Act.eval]) (ownsRow_kept HO2.out (below_alloc1 _ _)) ⟨w2.heap.size, 0, none⟩ 1 1 [.int .i64 _] (by simp [Act.eval]) (by simp) one_new (by simp [Value.oneCell']) (by omega) (by simp only [maxLen]; omega) (by omega) (Nat.le_trans HB2.out.size (by simp)) _ rfl ?_; intro g3 cap3 w3 hown hgr hat hlt3; (first | rw [E1.out] at hown | rw [E2.out] at hown | rw [E3.out] at hown | skip); have HO3 := Lib.hid hown; have HB3 := Lib.hid (HB2.out.trans (under HO2.out HB2.out.size hgr)); clear hown hgr hat)
        | (go_simp; go_at_call 51; refine HC.out.mono ?_; rintro e w2 ⟨rfl, hb2⟩; have hb2' := (Below.refl wr.heap.size wr).drew.trans hb2; have HB2 := Lib.hid (HB.out.trans (hb2'.mono HB.out.size)); have HO2 := Lib.hid (ownsRow_kept HO.out hb2'); have hc2 := (hb2'.cell (p := ⟨b, o + k, none⟩) HQ.out).trans HCC.out; clear hb2 hb2'))
      all_goals
        go_wp2
        go_roundw
        case rel => exact ⟨k + 1, g3, cap3, by omega, by go_num, rfl, Lib.hid (by rw [HS.out]; exact HO3.out), HB3⟩
        case measure => simp [intOf]; omega
    · obtain rfl : k = n := by omega
      go_wp2
      go_ret
      exact ⟨gb, C, rfl, HO.out, HB.out⟩
end Go.Proofs.YtjhndncmeedffaaDoor.resid
