/-
  Proved: both programs' predictions.
  Conditions: none.
-/
import Derived.Test.YtjhndncmeedffaaDoorIntsV
import Derived.Test.YtjhndncmeedffaaDoorBits
namespace Go.Proofs.YtjhndncmeedffaaDoor.resid
open Go.ChangeShapes Go.WideShapes Go.ChangeAt Go.RowKit Go.Joins
open Go.Proofs.YtjhndncmeedffaaDoor.core Go.Proofs.YtjhndncmeedffaaDoor.rows Go.Proofs.YtjhndncmeedffaaDoor.bits Go.Proofs.YtjhndncmeedffaaDoor.numS Go.Proofs.YtjhndncmeedffaaDoor.ints
set_option linter.unusedVariables false
set_option linter.unusedSimpArgs false

theorem guess_two (f : Nat → Int) (i : Nat) (h : 2 ≤ i) : guess f i = 2 * f (i - 1) - f (i - 2) := by
  obtain ⟨j, rfl⟩ : ∃ j, i = j + 2 := ⟨i - 2, by omega⟩
  rfl
theorem guess_in {f : Nat → Int} {i : Nat} (hA : AllIn 125000000 f i) : -375000000 ≤ guess f i ∧ guess f i ≤ 375000000 := by
  rcases Nat.lt_or_ge i 2 with h | h
  · rcases (show i = 0 ∨ i = 1 by omega) with rfl | rfl
    · simp [guess]
    · have := hA 0 (by omega); simp only [guess]; omega
  · rw [guess_two f i h]
    have h1 := hA (i - 1) (by omega)
    have h2 := hA (i - 2) (by omega)
    omega
theorem allIn_le {L : Int} {f : Nat → Int} {i n : Nat} (h : AllIn L f n) (hi : i ≤ n) : AllIn L f i := fun j hj => h j (by omega)
/-- Two cells of a list. -/
theorem two_cells {w : World} {A : Option Addr} {n i : Nat} {f : Nat → Int} (h : IntsAt w A n f) (hi : i ≤ n) (h2 : 2 ≤ i) : ∃ b o : Nat, A = some ⟨b, o, none⟩ ∧ b < w.heap.size ∧ w.cell? ⟨b, o + (i - 1), none⟩ = some (.int .i64 (f (i - 1))) ∧ w.cell? ⟨b, o + (i - 2), none⟩ = some (.int .i64 (f (i - 2))) := by
  obtain ⟨b, o, rfl, hb, h1, _⟩ := h (i - 1) (by omega)
  obtain ⟨b', o', e, _, h2, _⟩ := h (i - 2) (by omega)
  cases e
  exact ⟨b, o, rfl, hb, h1, h2⟩

set_option maxRecDepth 100000 in
set_option maxHeartbeats 1000000 in
theorem guess_calls (A : Option Addr) (n c i : Nat) (f : Nat → Int) (w : World) (hi : i ≤ n) (hn : n ≤ 60) (h : IntsAt w A n f) (hA : AllIn 125000000 f i) :
    Calls Tryd.prog 51 #[.slice A n c, .int .i64 i] w fun e w' => e = .returned (.int .i64 (guess f i)) ∧ Below w.heap.size w w' := by
  rcases Nat.lt_or_ge i 2 with h2 | h2
  · rcases (show i = 0 ∨ i = 1 by omega) with rfl | rfl
    · clear h hA
      go_enter Tryd.func51, Tryd.ntmps51
      go_wp2
      go_ret
      exact ⟨rfl, Below.refl _ _⟩
    · obtain ⟨b, o, rfl, hb, hc, -⟩ := h 0 (by omega)
      rw [Nat.add_zero] at hc
      have HG := Lib.hid (show guess f 1 = f 0 from rfl)
      clear h hA
      generalize f 0 = x at *
      go_enter Tryd.func51, Tryd.ntmps51
      go_wp2
      go_ret
      exact ⟨by rw [HG.out]; rfl, Below.refl _ _⟩
  · obtain ⟨b, o, rfl, hb, c1, c2⟩ := two_cells h hi h2
    have HG := Lib.hid (guess_two f i h2)
    have b1 := hA (i - 1) (by omega)
    have b2 := hA (i - 2) (by omega)
    clear h hA
    generalize f (i - 1) = x at *
    generalize f (i - 2) = y at *
    obtain ⟨x1, x2⟩ := b1
    obtain ⟨y1, y2⟩ := b2
    have d0 : ((i : Int) == 0) = false := by simp; omega
    have d1 : ((i : Int) == 1) = false := by simp; omega
    have E := Lib.hid (show wrap64 (wrap64 (2 * x) - y) = 2 * x - y by unfold wrap64; omega)
    go_enter Tryd.func51, Tryd.ntmps51
    go_wp2
    go_region
    all_goals
      go_wp2
      go_ret
      exact ⟨by rw [HG.out]; rfl, (Below.refl _ _).drew⟩
end Go.Proofs.YtjhndncmeedffaaDoor.resid
