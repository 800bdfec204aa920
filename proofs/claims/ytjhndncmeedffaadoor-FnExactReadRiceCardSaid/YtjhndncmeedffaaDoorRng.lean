/-
  Proved: both programs' tests of lists of numbers.
  Conditions: none.
-/
import Derived.Test.YtjhndncmeedffaaDoorNum
namespace Go.Proofs.YtjhndncmeedffaaDoor.ints
open Go.ChangeShapes Go.WideShapes Go.ChangeAt Go.RowKit Go.Joins
open Go.Proofs.YtjhndncmeedffaaDoor.core Go.Proofs.YtjhndncmeedffaaDoor.rows Go.Proofs.YtjhndncmeedffaaDoor.numS
set_option linter.unusedVariables false
set_option linter.unusedSimpArgs false

/-- The list's cells hold the numbers f. -/
def IntsAt (w : World) (A : Option Addr) (n : Nat) (f : Nat → Int) : Prop :=
  ∀ i, i < n → ∃ b o : Nat, A = some ⟨b, o, none⟩ ∧ b < w.heap.size ∧ w.cell? ⟨b, o + i, none⟩ = some (.int .i64 (f i)) ∧ inI64 (f i)
theorem IntsAt.kept {w w' : World} {A : Option Addr} {n : Nat} {f : Nat → Int} (h : IntsAt w A n f) (hb : Below w.heap.size w w') : IntsAt w' A n f := fun i hi => by
  obtain ⟨b, o, e, h1, h2, h3⟩ := h i hi
  exact ⟨b, o, e, Nat.lt_of_lt_of_le h1 hb.size, (hb.cell (p := ⟨b, o + i, none⟩) h1).trans h2, h3⟩
theorem IntsAt.cast {w : World} {A : Option Addr} {n : Nat} {f g : Nat → Int} (h : IntsAt w A n f) (he : ∀ i, i < n → f i = g i) : IntsAt w A n g := fun i hi => by
  rw [← he i hi]; exact h i hi
def AllIn (L : Int) (f : Nat → Int) (n : Nat) : Prop := ∀ i, i < n → -L ≤ f i ∧ f i ≤ L
theorem AllIn.snoc {L : Int} {f : Nat → Int} {k : Nat} (h : AllIn L f k) (hk : -L ≤ f k ∧ f k ≤ L) : AllIn L f (k + 1) := fun i hi => by
  rcases Nat.lt_or_ge i k with h' | h'
  · exact h i h'
  · obtain rfl : i = k := by omega
    exact hk

set_option maxRecDepth 100000 in
set_option maxHeartbeats 1000000 in
theorem within_calls (L : Int) (h0 : 0 ≤ L) (h1 : L ≤ 1000000000) (A : Option Addr) (n c : Nat) (f : Nat → Int) (w : World) (hn : n ≤ maxLen) (h : IntsAt w A n f) (r : Bool) (hr : r = true ↔ AllIn L f n) :
    Calls Tryd.prog 29 #[.int .i64 L, .slice A n c] w fun e w' => e = .returned (.bool r) ∧ w = w' := by
  unfold maxLen at hn
  have H := Lib.hid h
  have HR := Lib.hid hr
  clear h hr
  go_enter Tryd.func29, Tryd.ntmps29
  go_wp2
  go_loop [9] (fun i => ∃ k : Nat, k ≤ n ∧ i = .int .i64 (k : Int) ∧ Hid (AllIn L f k)) (fun i => n - (intOf i).toNat)
  case atStart => exact ⟨0, Nat.zero_le _, rfl, Lib.hid fun i hi => absurd hi (by omega)⟩
  case round =>
    obtain ⟨k, hk, rfl, HA⟩ := hrel
    by_cases hlt : k < n
    · obtain ⟨b, o, rfl, hb, hc, hi1, hi2⟩ := H.out k hlt
      by_cases hok : -L ≤ f k ∧ f k ≤ L
      · have HS := Lib.hid (HA.out.snoc hok)
        obtain ⟨a1, a2⟩ := hok
        have d2 : decide (L < f k) = false := decide_eq_false (by omega)
        generalize f k = x at *
        go_wp2
        go_round
        case rel => exact ⟨k + 1, by omega, by go_num, HS⟩
        case measure => simp [intOf]; omega
      · have hrf : r = false := by
          cases hh : r
          · rfl
          · exact absurd ((HR.out.1 hh) k hlt) hok
        subst hrf
        by_cases a1 : -L ≤ f k
        · have d2 : decide (L < f k) = true := decide_eq_true (by omega)
          clear hok HA
          generalize f k = x at *
          go_wp2
          go_ret
          exact ⟨rfl, by trivial⟩
        · clear hok HA
          generalize f k = x at *
          go_wp2
          go_ret
          exact ⟨rfl, by trivial⟩
    · obtain rfl : k = n := by omega
      have hrt : r = true := HR.out.2 HA.out
      subst hrt
      go_wp2
      go_ret
      exact ⟨rfl, by trivial⟩

set_option maxRecDepth 100000 in
set_option maxHeartbeats 1000000 in
theorem res_calls (x : Int) (w : World) (r : Bool) (hr : r = true ↔ -1000000000 ≤ x ∧ x ≤ 1000000000) :
    Calls Tryd.prog 39 #[.int .i64 x] w fun e w' => e = .returned (.bool r) ∧ w = w' := by
  have HC : Hid (Calls Tryd.prog 23 #[.int .i64 x, .int .i64 (-1000000000), .int .i64 1000000000] w fun e w' => e = .returned (.bool r) ∧ w = w') := by
    cases r
    · exact Lib.hid (in_no x (-1000000000) 1000000000 w (fun h => by have := hr.2 h; cases this))
    · exact Lib.hid (in_yes x (-1000000000) 1000000000 w (hr.1 rfl))
  clear hr
  go_enter Tryd.func39, Tryd.ntmps39
  go_wp2_with fail
  with_reducible refine HC.out.mono ?_
  rintro e w1 ⟨rfl, rfl⟩
  go_wp2
  go_ret
  exact ⟨rfl, by trivial⟩

set_option maxRecDepth 100000 in
set_option maxHeartbeats 1000000 in
theorem small_calls (A : Option Addr) (n c : Nat) (f : Nat → Int) (w : World) (hn : n ≤ maxLen) (h : IntsAt w A n f) (r : Bool) (hr : r = true ↔ n ≤ 60 ∧ AllIn 125000000 f n) :
    Calls Tryd.prog 33 #[.slice A n c] w fun e w' => e = .returned (.bool r) ∧ w = w' := by
  unfold maxLen at hn
  have H := Lib.hid h
  have HR := Lib.hid hr
  clear h hr
  go_enter Tryd.func33, Tryd.ntmps33
  go_wp2
  go_loop [3] (fun i => ∃ k : Nat, k ≤ n ∧ i = .int .i64 (k : Int) ∧ Hid (AllIn 125000000 f k)) (fun i => n - (intOf i).toNat)
  case atStart => exact ⟨0, Nat.zero_le _, rfl, Lib.hid fun i hi => absurd hi (by omega)⟩
  case round =>
    obtain ⟨k, hk, rfl, HA⟩ := hrel
    by_cases hlt : k < n
    · obtain ⟨b, o, rfl, hb, hc, hi1, hi2⟩ := H.out k hlt
      by_cases hok : -125000000 ≤ f k ∧ f k ≤ 125000000
      · have HS := Lib.hid (HA.out.snoc hok)
        have HC := Lib.hid (in_yes (f k) (-125000000) 125000000 w hok)
        clear hok
        generalize f k = x at *
        go_wp2_with fail
        with_reducible refine HC.out.mono ?_
        rintro e w1 ⟨rfl, rfl⟩
        go_wp2
        go_round
        case rel => exact ⟨k + 1, by omega, by go_num, HS⟩
        case measure => simp [intOf]; omega
      · have hrf : r = false := by
          cases hh : r
          · rfl
          · exact absurd ((HR.out.1 hh).2 k hlt) hok
        subst hrf
        have HC := Lib.hid (in_no (f k) (-125000000) 125000000 w hok)
        clear hok HA
        generalize f k = x at *
        go_wp2_with fail
        with_reducible refine HC.out.mono ?_
        rintro e w1 ⟨rfl, rfl⟩
        go_wp2
        go_ret
        exact ⟨rfl, by trivial⟩
    · obtain rfl : k = n := by omega
      have hrt : r = decide ((k : Int) ≤ 60) := by
        rw [Bool.eq_iff_iff, HR.out]
        simp
        exact ⟨fun h => by omega, fun h => ⟨by omega, HA.out⟩⟩
      have HT := Lib.hid hrt
      clear hrt HA HR H
      go_wp2
      go_ret
      exact ⟨by rw [HT.out]; rfl, by trivial⟩
end Go.Proofs.YtjhndncmeedffaaDoor.ints
