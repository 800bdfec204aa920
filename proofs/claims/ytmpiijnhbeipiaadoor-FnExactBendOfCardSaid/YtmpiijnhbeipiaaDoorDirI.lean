/-
  Proved: both functions return the same direction of a difference.
  Conditions: the table of directions holds what the program's text lays in it.
-/
import Derived.Test.YtmpiijnhbeipiaaDoorDirS
namespace Go.Proofs.YtmpiijnhbeipiaaDoor.dir
open Go.ChangeShapes Go.WideShapes Go.ChangeAt Go.RowKit Go.Joins
open Go.Proofs.YtmpiijnhbeipiaaDoor.core Go.Proofs.YtmpiijnhbeipiaaDoor.geoM
set_option linter.unusedVariables false
set_option linter.unusedSimpArgs false
/-- The list's cells hold the numbers f. -/
def IntsAt (w : World) (A : Option Addr) (n : Nat) (f : Nat → Int) : Prop :=
  ∀ i, i < n → ∃ b o : Nat, A = some ⟨b, o, none⟩ ∧ b < w.heap.size ∧ w.cell? ⟨b, o + i, none⟩ = some (.int .i64 (f i)) ∧ inI64 (f i)
def AllIn (L : Int) (f : Nat → Int) (n : Nat) : Prop := ∀ i, i < n → -L ≤ f i ∧ f i ≤ L
theorem AllIn.snoc {L : Int} {f : Nat → Int} {k : Nat} (h : AllIn L f k) (hk : -L ≤ f k ∧ f k ≤ L) : AllIn L f (k + 1) := fun i hi => by
  rcases Nat.lt_or_ge i k with h' | h'
  · exact h i h'
  · obtain rfl : i = k := by omega
    exact hk
set_option maxRecDepth 100000 in
set_option maxHeartbeats 1000000 in
theorem within_calls (L : Int) (h0 : 0 ≤ L) (h1 : L ≤ 1000000000) (A : Option Addr) (n c : Nat) (f : Nat → Int) (w : World) (hn : n ≤ maxLen) (h : IntsAt w A n f) (r : Bool) (hr : r = true ↔ AllIn L f n) :
    Calls Tryd.prog 26 #[.int .i64 L, .slice A n c] w fun e w' => e = .returned (.bool r) ∧ w = w' := by
  unfold maxLen at hn
  have H := Lib.hid h
  have HR := Lib.hid hr
  clear h hr
  go_enter Tryd.func26, Tryd.ntmps26
  go_wp2
  go_loop [9] (fun i => ∃ k : Nat, k ≤ n ∧ i = .int .i64 (k : Int) ∧ Hid (AllIn L f k)) (fun i => n - (intOf i).toNat)
  case atStart => exact ⟨0, Nat.zero_le _, rfl, Lib.hid fun i hi => absurd hi (by omega)⟩
  case round =>
    obtain ⟨k, hk, rfl, HA⟩ := hrel
    by_cases hlt : k < n
    · obtain ⟨b, o, rfl, hb, hc, hi1, hi2⟩ := H.out k hlt
      by_cases hok : -L ≤ f k ∧ f k ≤ L
      · have HS := Lib.hid (HA.out.snoc hok)
        obtain ⟨a1, a2⟩ := hok
        have d2 : decide (L < f k) = false := decide_eq_false (by omega)
        generalize f k = x at *
        go_wp2
        go_round
        case rel => exact ⟨k + 1, by omega, by go_num, HS⟩
        case measure => simp [intOf]; omega
      · have hrf : r = false := by
          cases hh : r
          · rfl
          · exact absurd ((HR.out.1 hh) k hlt) hok
        subst hrf
        by_cases a1 : -L ≤ f k
        · have d2 : decide (L < f k) = true := decide_eq_true (by omega)
          clear hok HA
          generalize f k = x at *
          go_wp2
          go_ret
          exact ⟨rfl, by trivial⟩
        · clear hok HA
          generalize f k = x at *
          go_wp2
          go_ret
          exact ⟨rfl, by trivial⟩
    · obtain rfl : k = n := by omega
      have hrt : r = true := HR.out.2 HA.out
      subst hrt
      go_wp2
      go_ret
      exact ⟨rfl, by trivial⟩
/-- What both functions return. -/
def dirR (dx dy : Int) : Int := if ¬ ((-4095 ≤ dx ∧ dx ≤ 4095) ∧ (-4095 ≤ dy ∧ dy ≤ 4095)) then 0 else if dx = 0 ∧ dy = 0 then 0 else dirN dx dy
def dirE (dx dy : Int) : Int := if ¬ ((-4095 ≤ dx ∧ dx ≤ 4095) ∧ (-4095 ≤ dy ∧ dy ≤ 4095)) then 2 else if dx = 0 ∧ dy = 0 then 6 else 0
theorem ret22 {a b c d : Int} (h : a = b) (h' : c = d) : Ending.returned (.tuple #[.int .i64 a, .int .i64 c]) = .returned (.tuple #[.int .i64 b, .int .i64 d]) := by rw [h, h']
set_option maxRecDepth 100000 in
set_option maxHeartbeats 2000000 in
theorem spec_law (dx dy : Int) (w : World) : Calls Tryd.prog 7 #[.int .i64 dx, .int .i64 dy] w fun e w' => e = .returned (.tuple #[.int .i64 (dirR dx dy), .int .i64 (dirE dx dy)]) ∧ Below w.heap.size w w' := by
  by_cases hx : -4095 ≤ dx ∧ dx ≤ 4095
  · by_cases hy : -4095 ≤ dy ∧ dy ≤ 4095
    · have X := Lib.hid (fun W => in_r dx (-4095) 4095 true (decide_eq_true hx) W)
      have Y := Lib.hid (fun W => in_r dy (-4095) 4095 true (decide_eq_true hy) W)
      by_cases h0 : dx = 0 ∧ dy = 0
      · obtain ⟨rfl, rfl⟩ := h0
        go_enter Tryd.func7, Tryd.ntmps7
        go_wp2_with (go_at_call 24; (with_reducible refine (X.out _).mono ?_); rintro e w1 ⟨rfl, rfl⟩)
        go_ret2
        exact ⟨ret22 rfl rfl, Below.refl _ _⟩
      · have S := Lib.hid (fun W => sector_calls dx dy hx.1 hx.2 hy.1 hy.2 W)
        have e1 : dirR dx dy = dirN dx dy := by unfold dirR; rw [if_neg (by simp [hx, hy]), if_neg h0]
        have e2 : dirE dx dy = 0 := by unfold dirE; rw [if_neg (by simp [hx, hy]), if_neg h0]
        rw [e1, e2]
        clear e1 e2
        generalize dirN dx dy = z at *
        have hc : dx ≠ 0 ∨ (dx = 0 ∧ dy ≠ 0) := by omega
        clear hx hy h0
        rcases hc with hc | ⟨rfl, hc⟩
        all_goals
          go_enter Tryd.func7, Tryd.ntmps7
          go_wp2_with (first | (go_at_call 24; (first | (with_reducible refine (X.out _).mono ?_) | (with_reducible refine (Y.out _).mono ?_)); rintro e w1 ⟨rfl, rfl⟩) | (go_at_call 25; (with_reducible refine (S.out _).mono ?_); rintro e w1 ⟨rfl, rfl⟩))
          go_ret2
          exact ⟨rfl, Below.refl _ _⟩
    · have X := Lib.hid (fun W => in_r dx (-4095) 4095 true (decide_eq_true hx) W)
      have Y := Lib.hid (fun W => in_r dy (-4095) 4095 false (decide_eq_false hy) W)
      have e1 : dirR dx dy = 0 := by unfold dirR; rw [if_pos (by simp [hy])]
      have e2 : dirE dx dy = 2 := by unfold dirE; rw [if_pos (by simp [hy])]
      rw [e1, e2]
      clear e1 e2 hx hy
      go_enter Tryd.func7, Tryd.ntmps7
      go_wp2_with (go_at_call 24; (first | (with_reducible refine (X.out _).mono ?_) | (with_reducible refine (Y.out _).mono ?_)); rintro e w1 ⟨rfl, rfl⟩)
      go_ret2
      exact ⟨rfl, Below.refl _ _⟩
  · have X := Lib.hid (fun W => in_r dx (-4095) 4095 false (decide_eq_false hx) W)
    have e1 : dirR dx dy = 0 := by unfold dirR; rw [if_pos (fun h => hx h.1)]
    have e2 : dirE dx dy = 2 := by unfold dirE; rw [if_pos (fun h => hx h.1)]
    rw [e1, e2]
    clear e1 e2 hx
    go_enter Tryd.func7, Tryd.ntmps7
    go_wp2_with (go_at_call 24; (with_reducible refine (X.out _).mono ?_); rintro e w1 ⟨rfl, rfl⟩)
    go_ret2
    exact ⟨rfl, Below.refl _ _⟩
def two (a b : Int) : Nat → Int | 0 => a | _ + 1 => b
theorem two_at (W : World) (a b : Int) (T : TypeId) (ha : inI64 a) (hb : inI64 b) : IntsAt (W.alloc (.cells #[.int .i64 a, .int .i64 b] T)) (some ⟨W.heap.size, 0, none⟩) 2 (two a b) := fun i hi => by
  rcases (show i = 0 ∨ i = 1 by omega) with rfl | rfl
  · exact ⟨_, 0, rfl, by simp, by simp [two], ha⟩
  · exact ⟨_, 0, rfl, by simp, by simp [two], hb⟩
set_option maxRecDepth 100000 in
set_option maxHeartbeats 2000000 in
theorem impl_law (dx dy : Int) (hix : inI64 dx) (hiy : inI64 dy) (w : World) (hz : 0 < w.heap.size) (ht : ∀ r c : Nat, r < 3 → c < 3 → w.cell? ⟨0, r * 3 + c, none⟩ = some (.int .i64 (sect r c))) :
    Calls Tryd.prog 8 #[.int .i64 dx, .int .i64 dy] w fun e w' => e = .returned (.tuple #[.int .i64 (dirR dx dy), .int .i64 (dirE dx dy)]) ∧ Below w.heap.size w w' := by
  have BA := Lib.hid (below_alloc1 w (.cells #[.int .i64 dx, .int .i64 dy] 2))
  have HT := Lib.hid (show ∀ r c : Nat, r < 3 → c < 3 → (w.alloc (.cells #[.int .i64 dx, .int .i64 dy] 2)).cell? ⟨0, r * 3 + c, none⟩ = some (.int .i64 (sect r c)) from fun r c hr hc => (BA.out.cell (p := ⟨0, _, none⟩) hz).trans (ht r c hr hc))
  have HA := Lib.hid (two_at w dx dy 2 hix hiy)
  have hz2 : 0 < (w.alloc (.cells #[.int .i64 dx, .int .i64 dy] 2)).heap.size := by simp
  clear ht hix hiy
  by_cases hxy : (-4095 ≤ dx ∧ dx ≤ 4095) ∧ (-4095 ≤ dy ∧ dy ≤ 4095)
  · obtain ⟨hx, hy⟩ := hxy
    have Wn := Lib.hid (within_calls 4095 (by omega) (by omega) _ 2 2 (two dx dy) _ (by decide) HA.out true ⟨(fun _ i hi => by
      rcases (show i = 0 ∨ i = 1 by omega) with rfl | rfl
      · exact hx
      · exact hy), fun _ => rfl⟩)
    by_cases h0 : dx = 0 ∧ dy = 0
    · obtain ⟨rfl, rfl⟩ := h0
      go_enter Tryd.func8, Tryd.ntmps8
      go_wp2_with (go_at_call 26; (refine Wn.out.mono ?_); rintro e w1 ⟨rfl, rfl⟩)
      go_ret2
      exact ⟨ret22 rfl rfl, BA.out⟩
    · have D := Lib.hid (dir_calls dx dy hx.1 hx.2 hy.1 hy.2 h0 _ hz2 HT.out)
      have e1 : dirR dx dy = dirN dx dy := by unfold dirR; rw [if_neg (by simp [hx, hy]), if_neg h0]
      have e2 : dirE dx dy = 0 := by unfold dirE; rw [if_neg (by simp [hx, hy]), if_neg h0]
      rw [e1, e2]
      clear e1 e2
      generalize dirN dx dy = z at *
      have hc : dx ≠ 0 ∨ (dx = 0 ∧ dy ≠ 0) := by omega
      clear hx hy h0 HT hz2
      rcases hc with hc | ⟨rfl, hc⟩
      all_goals
        go_enter Tryd.func8, Tryd.ntmps8
        go_wp2_with (first | (go_at_call 26; (refine Wn.out.mono ?_); rintro e w1 ⟨rfl, rfl⟩) | (go_at_call 27; (refine D.out.mono ?_); rintro e w2 ⟨rfl, hb⟩; have B2 := Lib.hid (BA.out.trans (hb.mono BA.out.size)); clear hb))
        go_ret2
        exact ⟨rfl, B2.out⟩
  · have Wn := Lib.hid (within_calls 4095 (by omega) (by omega) _ 2 2 (two dx dy) _ (by decide) HA.out false ⟨(fun h => by cases h), fun h => absurd ⟨h 0 (by omega), h 1 (by omega)⟩ hxy⟩)
    have e1 : dirR dx dy = 0 := by unfold dirR; rw [if_pos hxy]
    have e2 : dirE dx dy = 2 := by unfold dirE; rw [if_pos hxy]
    rw [e1, e2]
    clear e1 e2 hxy HT hz2
    go_enter Tryd.func8, Tryd.ntmps8
    go_wp2_with (go_at_call 26; (refine Wn.out.mono ?_); rintro e w1 ⟨rfl, rfl⟩)
    go_ret2
    exact ⟨rfl, BA.out⟩
end Go.Proofs.YtmpiijnhbeipiaaDoor.dir
