/-
  Proved: what the functions that test points return, and plain facts on short rows of points.
  Conditions: none.
-/
import Derived.Test.YtmlibfmbbkmeeaaDoorSide
import Derived.Test.YtmlibfmbbkmeeaaDoorStroke
import Derived.Test.YtmlibfmbbkmeeaaDoorView
import Derived.Test.YtmlibfmbbkmeeaaDoorRec
namespace Go.Proofs.YtmlibfmbbkmeeaaDoor.all
open Go.ChangeShapes Go.WideShapes Go.ChangeAt Go.RowKit Go.Joins
open Go.Proofs.YtmlibfmbbkmeeaaDoor.core Go.Proofs.YtmlibfmbbkmeeaaDoor.geoM Go.Proofs.YtmlibfmbbkmeeaaDoor.stk Go.Proofs.YtmlibfmbbkmeeaaDoor.seg Go.Proofs.YtmlibfmbbkmeeaaDoor.side
set_option linter.unusedVariables false
set_option linter.unusedSimpArgs false

theorem bcell2 {W w1 : World} (hb : Below W.heap.size W w1) : (∀ b o, b < W.heap.size → w1.cell? ⟨b, o, none⟩ = W.cell? ⟨b, o, none⟩) ∧ (∀ b o, b < W.heap.size → w1.frozen? ⟨b, o, none⟩ = W.frozen? ⟨b, o, none⟩) :=
  ⟨fun b o h => hb.cell (p := ⟨b, o, none⟩) h, fun b o h => hb.frozen (p := ⟨b, o, none⟩) h⟩
def inP (p : P3) : Bool := inR p.1 p.2.1 p.2.2
theorem inP_rg {p : P3} (h : inP p = true) : Rg p := by
  obtain ⟨h1, h2, h3, h4, -, -⟩ := inR_of h
  exact ⟨h1, h2, h3, h4⟩
def pts1 (a : P3) : Nat → P3 := fun _ => a
def pts2 (a b : P3) : Nat → P3 | 0 => a | _ + 1 => b
def pts3 (a b c : P3) : Nat → P3 | 0 => a | 1 => b | _ + 2 => c
def pts4 (a b c d : P3) : Nat → P3 | 0 => a | 1 => b | 2 => c | _ + 3 => d
theorem new1 (W : World) (a : P3) (T : TypeId) : PtsAt (W.alloc (.cells #[.int .i64 a.1, .int .i64 a.2.1, .int .i64 a.2.2] T)) (some ⟨W.heap.size, 0, none⟩) 1 (pts1 a) := fun i hi => by
  obtain rfl : i = 0 := by omega
  exact ⟨_, 0, rfl, by simp, by simp [pts1], by simp [pts1], by simp [pts1]⟩
theorem new2 (W : World) (a b : P3) (T : TypeId) : PtsAt (W.alloc (.cells #[.int .i64 a.1, .int .i64 a.2.1, .int .i64 a.2.2, .int .i64 b.1, .int .i64 b.2.1, .int .i64 b.2.2] T)) (some ⟨W.heap.size, 0, none⟩) 2 (pts2 a b) := fun i hi => by
  rcases (show i = 0 ∨ i = 1 by omega) with rfl | rfl
  all_goals exact ⟨_, 0, rfl, by simp, by simp [pts2], by simp [pts2], by simp [pts2]⟩
theorem new3 (W : World) (a b c : P3) (T : TypeId) : PtsAt (W.alloc (.cells #[.int .i64 a.1, .int .i64 a.2.1, .int .i64 a.2.2, .int .i64 b.1, .int .i64 b.2.1, .int .i64 b.2.2, .int .i64 c.1, .int .i64 c.2.1, .int .i64 c.2.2] T)) (some ⟨W.heap.size, 0, none⟩) 3 (pts3 a b c) := fun i hi => by
  rcases (show i = 0 ∨ i = 1 ∨ i = 2 by omega) with rfl | rfl | rfl
  all_goals exact ⟨_, 0, rfl, by simp, by simp [pts3], by simp [pts3], by simp [pts3]⟩
theorem new4 (W : World) (a b c d : P3) (T : TypeId) : PtsAt (W.alloc (.cells #[.int .i64 a.1, .int .i64 a.2.1, .int .i64 a.2.2, .int .i64 b.1, .int .i64 b.2.1, .int .i64 b.2.2, .int .i64 c.1, .int .i64 c.2.1, .int .i64 c.2.2, .int .i64 d.1, .int .i64 d.2.1, .int .i64 d.2.2] T)) (some ⟨W.heap.size, 0, none⟩) 4 (pts4 a b c d) := fun i hi => by
  rcases (show i = 0 ∨ i = 1 ∨ i = 2 ∨ i = 3 by omega) with rfl | rfl | rfl | rfl
  all_goals exact ⟨_, 0, rfl, by simp, by simp [pts4], by simp [pts4], by simp [pts4]⟩

theorem specPoint (p : P3) (r : Bool) (h : inP p = r) (w : World) : Calls Tryd.prog 21 #[pv p] w fun e w' => e = .returned (.bool r) ∧ Below w.heap.size w w' :=
  (l02Point_calls p.1 p.2.1 p.2.2 w).mono fun _ _ ⟨he, hw⟩ => ⟨by rw [he, ← h]; rfl, by rw [hw]; exact below_alloc1 _ _⟩
theorem implPoint (p : P3) (r : Bool) (h : inP p = r) (w : World) : Calls Tryd.prog 25 #[pv p] w fun e w' => e = .returned (.bool r) ∧ Below w.heap.size w w' :=
  (inRange_calls p.1 p.2.1 p.2.2 w).mono fun _ _ ⟨he, hw⟩ => ⟨by rw [he, ← h]; rfl, by rw [hw]; exact below_alloc1 _ _⟩

/-- A point that is read out of memory. -/
def ptOf (g : Nat → Dat) : P3 := (dInt (g 0), dInt (g 1), dInt (g 2))
theorem reads_pt {W : World} {us : Nat → Value} {g : Nat → Dat} (h : ReadsRec W 3 us g) (ht : tyrPoint g) : (.agg #[us 0, us 1, us 2] : Value) = pv (ptOf g) := by
  obtain ⟨⟨x, hx⟩, ⟨y, hy⟩, ⟨z, hz⟩⟩ := ht
  have h0 := h 0 (by omega)
  have h1 := h 1 (by omega)
  have h2 := h 2 (by omega)
  rw [hx] at h0
  rw [hy] at h1
  rw [hz] at h2
  rw [h0.int_inv.1, h1.int_inv.1, h2.int_inv.1]
  simp [ptOf, hx, hy, hz, dInt]
end Go.Proofs.YtmlibfmbbkmeeaaDoor.all
