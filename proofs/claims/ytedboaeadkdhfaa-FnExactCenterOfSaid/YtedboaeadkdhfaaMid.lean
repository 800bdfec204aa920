/-
  Proved: what the function that tells the mean of places returns.
  Conditions: there is a place, there are at most 1000, and their numbers are from 0 to 4095.
-/
import Derived.Test.YtedboaeadkdhfaaFt
import Derived.Test.YtedboaeadkdhfaaNear
import Derived.StillTailTactics
namespace Go.Proofs.Ytedboaeadkdhfaa.mid
open Go.ChangeShapes Go.WideShapes Go.ChangeAt Go.RowKit Go.Joins
open Go.Proofs.Ytedboaeadkdhfaa.core Go.Proofs.Ytedboaeadkdhfaa.rown Go.Proofs.Ytedboaeadkdhfaa.stk Go.Proofs.Ytedboaeadkdhfaa.boxed Go.Proofs.Ytedboaeadkdhfaa.ft Go.Proofs.Ytedboaeadkdhfaa.near
set_option linter.unusedVariables false
set_option linter.unusedSimpArgs false
def inQ (p : P2) : Prop := 0 ≤ p.1 ∧ p.1 ≤ 4095 ∧ 0 ≤ p.2 ∧ p.2 ≤ 4095
def mx (f : Nat → P2) : Nat → Int
  | 0 => 0
  | m + 1 => mx f m + (f m).1
def my (f : Nat → P2) : Nat → Int
  | 0 => 0
  | m + 1 => my f m + (f m).2
theorem m_le {f : Nat → P2} {M : Nat} (h : ∀ m, m < M → inQ (f m)) : ∀ m, m ≤ M → (0 ≤ mx f m ∧ mx f m ≤ m * 4095) ∧ 0 ≤ my f m ∧ my f m ≤ m * 4095
  | 0, _ => by simp [mx, my]
  | m + 1, hm => by
    have h1 := m_le h m (by omega)
    have h2 := h m (by omega)
    unfold inQ at h2
    rw [mx, my]
    omega
theorem block_lt {w : World} {b : Nat} {o : Obj} (h : w.heap[b]? = some o) : b < w.heap.size := (Array.getElem?_eq_some_iff.1 h).1
theorem kept_alloc {w : World} {b : Nat} {c : Obj} (o : Obj) (h : w.heap[b]? = some c) : (w.alloc o).heap[b]? = some c := ((below_alloc1 w o).block _ (block_lt h)).trans h
theorem set2 {w : World} {b T : Nat} {a0 a1 : Value} (h : w.heap[b]? = some (.cells #[a0, a1] T (0, 0))) (u0 u1 : Value) : ((w.setCell ⟨b, 0, none⟩ u0).setCell ⟨b, 1, none⟩ u1).heap[b]? = some (.cells #[u0, u1] T (0, 0)) := by
  have s1 := block_setCell (i := 0) h u0
  have s2 := block_setCell (i := 1) s1 u1
  rw [s2]; rfl
theorem other2 {w : World} {b g : Nat} (h : ¬ g = b) (u0 u1 : Value) : ((w.setCell ⟨b, 0, none⟩ u0).setCell ⟨b, 1, none⟩ u1).heap[g]? = w.heap[g]? := by
  rw [Below.heap_setCell _ _ _ _ (by simpa using h), Below.heap_setCell _ _ _ _ (by simpa using h)]
set_option maxRecDepth 100000 in
set_option maxHeartbeats 4000000 in
theorem mid_calls {c : Nat} (A : Option Addr) (n : Nat) (f : Nat → P2) (w : World) (h1 : 1 ≤ n) (h1000 : n ≤ 1000) (hp : SpAt w A n f) (hq : ∀ i, i < n → inQ (f i)) :
    Calls Try.prog 57 #[.slice A n c] w fun e w' => e = .returned (.agg #[.int .i64 (nr (mx f n) (n : Int)), .int .i64 (nr (my f n) (n : Int))]) ∧ Below w.heap.size w w' := by
  have B0 := Lib.hid (below_alloc2 w (.cells #[.int .i64 0, .int .i64 0] 45) (.cells #[.int .i64 0, .int .i64 0] 45))
  have K0 := Lib.hid (show ((w.alloc (.cells #[.int .i64 0, .int .i64 0] 45)).alloc (.cells #[.int .i64 0, .int .i64 0] 45)).heap[w.heap.size]? = some (.cells #[.int .i64 0, .int .i64 0] 45 (0, 0)) by rw [Below.heap_alloc _ _ _ (by simp)]; exact heap_alloc_new _ _)
  have K1 := Lib.hid (show ((w.alloc (.cells #[.int .i64 0, .int .i64 0] 45)).alloc (.cells #[.int .i64 0, .int .i64 0] 45)).heap[w.heap.size + 1]? = some (.cells #[.int .i64 0, .int .i64 0] 45 (0, 0)) by have := heap_alloc_new (w.alloc (.cells #[.int .i64 0, .int .i64 0] 45)) (.cells #[.int .i64 0, .int .i64 0] 45); simpa using this)
  have HP := Lib.hid hp
  have HQ := Lib.hid hq
  have HC := Lib.hid (m_le hq)
  clear hp hq
  go_enter Try.func57, Try.ntmps57
  go_wp2
  go_loopw [9] (fun i w' => ∃ m : Nat, m ≤ n ∧ i = .int .i64 (m : Int) ∧ Hid (Below w.heap.size w w') ∧ Hid (w'.heap[w.heap.size + 1]? = some (.cells #[.int .i64 (mx f m), .int .i64 (my f m)] 45 (0, 0))) ∧ Hid (w'.heap[w.heap.size]? = some (.cells #[.int .i64 0, .int .i64 0] 45 (0, 0)))) (fun i _ => n - (intOf i).toNat)
  case atStart => exact ⟨0, Nat.zero_le _, rfl, B0, K1, K0⟩
  case round =>
    obtain ⟨m, hm, rfl, HB, P1, P0⟩ := hrel
    have xz := block_lt P1.out
    by_cases hlt : m < n
    · obtain ⟨g, o, rfl, hg, p0, p1⟩ := (HP.out.kept HB.out) m hlt
      have hcm := HC.out m hm
      have hrg := HQ.out m hlt
      have HX := Lib.hid (show mx f (m + 1) = mx f m + (f m).1 from rfl)
      have HY := Lib.hid (show my f (m + 1) = my f m + (f m).2 from rfl)
      obtain ⟨p, hpk⟩ : ∃ p, f m = p := ⟨_, rfl⟩
      rw [hpk] at p0 p1 hrg HX HY
      unfold inQ at hrg
      obtain ⟨sx, hsx⟩ : ∃ x, mx f m = x := ⟨_, rfl⟩
      obtain ⟨sy, hsy⟩ : ∃ x, my f m = x := ⟨_, rfl⟩
      rw [hsx, hsy] at hcm P1
      rw [hsx] at HX
      rw [hsy] at HY
      have x0 : wr.cell? ⟨w.heap.size + 1, 0, none⟩ = some (.int .i64 sx) := by rw [cell_of_block P1.out]; rfl
      have x1 : wr.cell? ⟨w.heap.size + 1, 1, none⟩ = some (.int .i64 sy) := by rw [cell_of_block P1.out]; rfl
      have xf := unfrozen_of_block P1.out
      have hki : (m : Int) < (n : Int) := by omega
      have hne : ¬ w.heap.size + 1 = wr.heap.size := by omega
      have hne2 : ¬ wr.heap.size = w.heap.size + 1 := by omega
      clear hpk hsx hsy hm
      go_wp2
      go_roundw
      case rel => exact ⟨m + 1, by omega, by go_num, Lib.hid (((HB.out.setCell (p := ⟨w.heap.size + 1, 0, none⟩) (show w.heap.size ≤ w.heap.size + 1 by omega) _).setCell (p := ⟨w.heap.size + 1, 1, none⟩) (show w.heap.size ≤ w.heap.size + 1 by omega) _).alloc (by simp [World.setCell]; omega) _), Lib.hid (kept_alloc _ (by rw [HX.out, HY.out]; exact set2 P1.out _ _)), Lib.hid (kept_alloc _ (by rw [other2 (by omega)]; exact P0.out))⟩
      case measure => simp [intOf]; omega
    · obtain rfl : m = n := by omega
      have hcm := HC.out m (Nat.le_refl _)
      obtain ⟨sx, hsx⟩ : ∃ x, mx f m = x := ⟨_, rfl⟩
      obtain ⟨sy, hsy⟩ : ∃ x, my f m = x := ⟨_, rfl⟩
      have HSX := Lib.hid hsx
      have HSY := Lib.hid hsy
      rw [hsx, hsy] at hcm P1
      have HNX := Lib.hid (fun W => implNear sx (m : Int) (by omega) (by omega) (by omega) (by omega) W)
      have HNY := Lib.hid (fun W => implNear sy (m : Int) (by omega) (by omega) (by omega) (by omega) W)
      have x0 : wr.drew.cell? ⟨w.heap.size + 1, 0, none⟩ = some (.int .i64 sx) := by show wr.cell? _ = _; rw [cell_of_block P1.out]; rfl
      have x1 : wr.drew.cell? ⟨w.heap.size + 1, 1, none⟩ = some (.int .i64 sy) := by show wr.cell? _ = _; rw [cell_of_block P1.out]; rfl
      have r0 : wr.drew.cell? ⟨w.heap.size, 0, none⟩ = some (.int .i64 0) := by show wr.cell? _ = _; rw [cell_of_block P0.out]; rfl
      have r1 : wr.drew.cell? ⟨w.heap.size, 1, none⟩ = some (.int .i64 0) := by show wr.cell? _ = _; rw [cell_of_block P0.out]; rfl
      have rf : ∀ i, wr.drew.frozen? ⟨w.heap.size, i, none⟩ = false := unfrozen_of_block P0.out
      have rz : w.heap.size < wr.drew.heap.size := block_lt P0.out
      have xz : w.heap.size + 1 < wr.drew.heap.size := xz
      have hmx : Try.prog.follows .mixedOrders = true := by kernel_rfl
      have HBD := Lib.hid (HB.out.drew)
      clear hcm hsx hsy
      go_wp2
      obtain ⟨w9, hw9⟩ : ∃ w9, w9 = wr.drew := ⟨_, rfl⟩
      rw [← hw9] at x0 x1 r0 r1 rf rz xz HBD
      refine wp_region_still_tail 9 (by assumption) (by kernel_rfl) ?_
      rw [show ({ wr with drawn := wr.drawn + 1 } : World) = w9 from hw9.symm]
      clear hw9
      simp only [List.take_succ_cons, List.take_zero, List.drop_succ_cons, List.drop_zero]
      iterate 3 still_step
      still_call ((HNX.out _).mono fun _ _ h => ⟨h.1, h.2.symm⟩)
      iterate 3 still_step
      still_call ((HNY.out _).mono fun _ _ h => ⟨h.1, h.2.symm⟩)
      still_step
      refine wpStill_nil ?_
      clear x0 x1
      go_wp2
      exact bodyPost_ret (v := .agg #[.int .i64 (nr sx (m : Int)), .int .i64 (nr sy (m : Int))]) (by simp [results, Try.results57, go_sem, r0, r1, rf, rz]) rfl ⟨by rw [HSX.out, HSY.out], (HBD.out.setCell (Nat.le_refl _) _).setCell (Nat.le_refl _) _⟩
end Go.Proofs.Ytedboaeadkdhfaa.mid
