/-
  Proved: what the library's function that turns a list of features round leaves behind.
  Conditions: the list lies in memory of one's own, and has at most 384 features.
-/
import Derived.Test.YthpmckfjlbiiiabPut
import Derived.BigRegion
namespace Go.Proofs.Ythpmckfjlbiiiab.revF
open Go.ChangeShapes Go.WideShapes Go.ChangeAt Go.RowKit Go.Joins
open Go.Proofs.Ythpmckfjlbiiiab.core Go.Proofs.Ythpmckfjlbiiiab.rown Go.Proofs.Ythpmckfjlbiiiab.stk Go.Proofs.Ythpmckfjlbiiiab.boxed Go.Proofs.Ythpmckfjlbiiiab.put3
set_option linter.unusedVariables false
set_option linter.unusedSimpArgs false
/-- The list of which the first k features and the last k ones are exchanged. -/
def SW (N : Nat) (f : Nat → P3) (k : Nat) (j : Nat) : P3 := if j ≤ N ∧ (j < k ∨ N < j + k) then f (N - j) else f j
theorem SW_zero (N : Nat) (f : Nat → P3) (j : Nat) : f j = SW N f 0 j := by unfold SW; rw [if_neg (by omega)]
theorem SW_lo {N : Nat} {f : Nat → P3} {k m : Nat} (h : k + m = N) (hk : k < m) : SW N f k k = f k := by unfold SW; rw [if_neg (by omega)]
theorem SW_hi {N : Nat} {f : Nat → P3} {k m : Nat} (h : k + m = N) (hk : k < m) : SW N f k m = f m := by unfold SW; rw [if_neg (by omega)]
theorem SW_step {N : Nat} {f : Nat → P3} {k m : Nat} (h : k + m = N) (hk : k < m) (j : Nat) : put (put (SW N f k) k (f m)) m (f k) j = SW N f (k + 1) j := by
  unfold put SW
  by_cases e : j = m
  · rw [if_pos e, if_pos (by omega)]
    congr 1; omega
  · rw [if_neg e]
    by_cases e2 : j = k
    · rw [if_pos e2, if_pos (by omega)]
      congr 1; omega
    · rw [if_neg e2]
      by_cases h3 : j ≤ N ∧ (j < k ∨ N < j + k)
      · rw [if_pos h3, if_pos (by omega)]
      · rw [if_neg h3, if_neg (by omega)]
theorem SW_end {N : Nat} {f : Nat → P3} {k m : Nat} (h : k + m = N) (hk : ¬ k < m) (j : Nat) (hj : j < N + 1) : SW N f k j = f (N - j) := by
  unfold SW
  by_cases h3 : j ≤ N ∧ (j < k ∨ N < j + k)
  · rw [if_pos h3]
  · rw [if_neg h3]; congr 1; omega
set_option maxRecDepth 100000 in
set_option maxHeartbeats 4000000 in
theorem rev_calls {base g d N : Nat} {f : Nat → P3} (w : World) (h384 : N + 1 ≤ 384) (ho : w.ownsRow base 65 3 (.slice (some ⟨g, 0, none⟩) (N + 1) d) (N + 1) (rws (row3 f) (N + 1))) :
    Calls Try.prog 102 #[.slice (some ⟨g, 0, none⟩) (N + 1) d] w fun e w' => e = .returned (.tuple #[]) ∧ w'.ownsRow base 65 3 (.slice (some ⟨g, 0, none⟩) (N + 1) d) (N + 1) (rws (row3 fun j => f (N - j)) (N + 1)) ∧ OnlyF (fun x => x = g) w w' := by
  have HO := Lib.hid (own_cast ho (SW_zero N f · |> fun h => fun _ => h))
  clear ho
  go_enter Try.func102, Try.ntmps102
  go_wp2
  go_loopw [2, 3] (fun i j w' => ∃ (k m : Nat), k + m = N ∧ k ≤ m + 1 ∧ i = .int .i64 (k : Int) ∧ j = .int .i64 (m : Int) ∧ Hid (w'.ownsRow base 65 3 (.slice (some ⟨g, 0, none⟩) (N + 1) d) (N + 1) (rws (row3 (SW N f k)) (N + 1))) ∧ Hid (OnlyF (fun x => x = g) w w')) (fun i _ _ => N + 1 - (intOf i).toNat)
  case atStart => exact ⟨0, N, by omega, by omega, rfl, by simp, HO, Lib.hid (OnlyF.refl _ _)⟩
  case round =>
    obtain ⟨k, m, hkm, hkm2, rfl, rfl, HW, HF⟩ := hrel
    by_cases hlt : k < m
    · have x0 : wr.cell? ⟨g, k * 3, none⟩ = some (.int .i64 (f k).1) := by have := row_cell HW.out (row3_len _) (show k < N + 1 by omega) (show 0 < 3 by omega) rfl; rw [SW_lo hkm hlt] at this; exact this
      have x1 : wr.cell? ⟨g, k * 3 + 1, none⟩ = some (.int .i64 (f k).2.1) := by have := row_cell HW.out (row3_len _) (show k < N + 1 by omega) (show 1 < 3 by omega) rfl; rw [SW_lo hkm hlt] at this; exact this
      have x2 : wr.cell? ⟨g, k * 3 + 2, none⟩ = some (.int .i64 (f k).2.2) := by have := row_cell HW.out (row3_len _) (show k < N + 1 by omega) (show 2 < 3 by omega) rfl; rw [SW_lo hkm hlt] at this; exact this
      have y0 : wr.cell? ⟨g, m * 3, none⟩ = some (.int .i64 (f m).1) := by have := row_cell HW.out (row3_len _) (show m < N + 1 by omega) (show 0 < 3 by omega) rfl; rw [SW_hi hkm hlt] at this; exact this
      have y1 : wr.cell? ⟨g, m * 3 + 1, none⟩ = some (.int .i64 (f m).2.1) := by have := row_cell HW.out (row3_len _) (show m < N + 1 by omega) (show 1 < 3 by omega) rfl; rw [SW_hi hkm hlt] at this; exact this
      have y2 : wr.cell? ⟨g, m * 3 + 2, none⟩ = some (.int .i64 (f m).2.2) := by have := row_cell HW.out (row3_len _) (show m < N + 1 by omega) (show 2 < 3 by omega) rfl; rw [SW_hi hkm hlt] at this; exact this
      have xf := free_row HW.out
      have xz := rown.row_lt HW.out
      have HST := Lib.hid (SW_step (f := f) hkm hlt)
      have hPT := own_put (i := m) (own_put (i := k) HW.out (by omega) (f m)) (by omega) (f k)
      have HPT := Lib.hid (own_cast hPT fun j _ => HST.out j)
      have HKM := Lib.hid (And.intro hkm hkm2)
      clear hPT
      obtain ⟨p, hp⟩ : ∃ p, f k = p := ⟨_, rfl⟩
      obtain ⟨q, hq⟩ : ∃ p, f m = p := ⟨_, rfl⟩
      rw [hp] at x0 x1 x2 HPT
      rw [hq] at y0 y1 y2 HPT
      have hkn : k < N + 1 := by omega
      have hmn : m < N + 1 := by omega
      have hki : (k : Int) < (m : Int) := by omega
      have hkN : (k : Int) < (N : Int) + 1 := by omega
      have hmN : (m : Int) < (N : Int) + 1 := by omega
      clear hp hq hkm hkm2 HST
      go_wp2
      go_region
      obtain ⟨w9, hw9⟩ : ∃ w9, w9 = ((((((wr.setCell ⟨g, k * 3, none⟩ (.int .i64 q.1)).setCell ⟨g, k * 3 + 1, none⟩ (.int .i64 q.2.1)).setCell ⟨g, k * 3 + 2, none⟩ (.int .i64 q.2.2)).setCell ⟨g, m * 3, none⟩ (.int .i64 p.1)).setCell ⟨g, m * 3 + 1, none⟩ (.int .i64 p.2.1)).setCell ⟨g, m * 3 + 2, none⟩ (.int .i64 p.2.2)).drew := ⟨_, rfl⟩
      rw [← hw9]
      have HO9 := Lib.hid (show w9.ownsRow _ _ _ _ _ _ by rw [hw9]; exact rown.ownsRow_kept HPT.out (Below.refl _ _).drew)
      have HF9 := Lib.hid (show OnlyF (fun x => x = g) w w9 by rw [hw9]; exact ((((((HF.out.setCell rfl _).setCell rfl _).setCell rfl _).setCell rfl _).setCell rfl _).setCell rfl _).drew)
      clear hw9 x0 x1 x2 y0 y1 y2 xf xz HPT
      obtain ⟨m', rfl⟩ : ∃ m', m = m' + 1 := ⟨m - 1, by omega⟩
      go_wp2
      go_roundw
      case rel => exact ⟨k + 1, m', by have := HKM.out; omega, by omega, by go_num, by go_num, HO9, HF9⟩
      case measure => simp [intOf]; omega
    · have HE := Lib.hid (own_cast HW.out (fun j hj => SW_end hkm hlt j hj))
      go_wp2
      go_end0
      exact ⟨rfl, HE.out, HF.out⟩
end Go.Proofs.Ythpmckfjlbiiiab.revF
