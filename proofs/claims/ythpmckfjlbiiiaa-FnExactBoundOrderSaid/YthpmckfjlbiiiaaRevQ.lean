/-
  Proved: what the library's function that turns a list of pairs round leaves behind.
  Conditions: the list lies in memory of one's own, and has at most 1000 pairs.
-/
import Derived.Test.YthpmckfjlbiiiaaPut
import Derived.Test.YthpmckfjlbiiiaaFt
import Derived.BigRegion
namespace Go.Proofs.Ythpmckfjlbiiiaa.revQ
open Go.ChangeShapes Go.WideShapes Go.ChangeAt Go.RowKit Go.Joins
open Go.Proofs.Ythpmckfjlbiiiaa.core Go.Proofs.Ythpmckfjlbiiiaa.rown Go.Proofs.Ythpmckfjlbiiiaa.stk Go.Proofs.Ythpmckfjlbiiiaa.boxed Go.Proofs.Ythpmckfjlbiiiaa.put3 Go.Proofs.Ythpmckfjlbiiiaa.ft
set_option linter.unusedVariables false
set_option linter.unusedSimpArgs false
def put2 (f : Nat → P2) (i : Nat) (p : P2) : Nat → P2 := fun j => if j = i then p else f j
theorem set2 (f : Nat → P2) (n i : Nat) (hi : i < n) (p : P2) : ((rws (sp2 f) n).set (i * 2) (.int .i64 p.1)).set (i * 2 + 1) (.int .i64 p.2) = rws (sp2 (put2 f i p)) n := by
  have hl := rws_len (sp2_len f) n
  have hl2 := rws_len (sp2_len (put2 f i p)) n
  apply List.ext_getElem?
  intro j
  rcases Nat.lt_or_ge j (n * 2) with h | h
  · obtain ⟨a, r, hr, rfl⟩ : ∃ a r, r < 2 ∧ j = a * 2 + r := ⟨j / 2, j % 2, by omega, by omega⟩
    have ha : a < n := by omega
    rw [rws_get (sp2_len (put2 f i p)) a r hr n ha]
    simp only [List.getElem?_set, List.length_set, hl]
    rw [rws_get (sp2_len f) a r hr n ha]
    by_cases e : a = i
    · subst e
      have e1 : sp2 (put2 f a p) a = [.int .i64 p.1, .int .i64 p.2] := by unfold sp2 put2; rw [if_pos rfl]
      rw [e1]
      rcases (by omega : r = 0 ∨ r = 1) with rfl | rfl
      · rw [if_neg (by omega), if_pos (by omega), if_pos (by omega)]; rfl
      · rw [if_pos (by omega), if_pos (by omega)]; rfl
    · have e1 : sp2 (put2 f i p) a = sp2 f a := by unfold sp2 put2; rw [if_neg e]
      rw [e1, if_neg (by omega), if_neg (by omega)]
  · rw [List.getElem?_eq_none (by simp only [List.length_set]; omega), List.getElem?_eq_none (by omega)]
theorem own_put2 {w : World} {base E n g c i : Nat} {f : Nat → P2} (h : w.ownsRow base E 2 (.slice (some ⟨g, 0, none⟩) n c) n (rws (sp2 f) n)) (hi : i < n) (p : P2) :
    ((w.setCell ⟨g, i * 2, none⟩ (.int .i64 p.1)).setCell ⟨g, i * 2 + 1, none⟩ (.int .i64 p.2)).ownsRow base E 2 (.slice (some ⟨g, 0, none⟩) n c) n (rws (sp2 (put2 f i p)) n) := by
  have hl := rws_len (sp2_len f) n
  have := own_set1 (own_set1 h (.int .i64 p.1) (p := i * 2) (by omega)) (.int .i64 p.2) (p := i * 2 + 1) (by simp only [List.length_set]; omega)
  rwa [set2 f n i hi p] at this
theorem own_cast2 {w : World} {base E n : Nat} {v : Value} {f f' : Nat → P2} (h : w.ownsRow base E 2 v n (rws (sp2 f) n)) (he : ∀ j, j < n → f j = f' j) : w.ownsRow base E 2 v n (rws (sp2 f') n) := by
  rw [← rws_congr (r := sp2 f) (r' := sp2 f') n fun i hi => by unfold sp2; rw [he i hi]]
  exact h
/-- The list of which the first k features and the last k ones are exchanged. -/
def SW (N : Nat) (f : Nat → P2) (k : Nat) (j : Nat) : P2 := if j ≤ N ∧ (j < k ∨ N < j + k) then f (N - j) else f j
theorem SW_zero (N : Nat) (f : Nat → P2) (j : Nat) : f j = SW N f 0 j := by unfold SW; rw [if_neg (by omega)]
theorem SW_lo {N : Nat} {f : Nat → P2} {k m : Nat} (h : k + m = N) (hk : k < m) : SW N f k k = f k := by unfold SW; rw [if_neg (by omega)]
theorem SW_hi {N : Nat} {f : Nat → P2} {k m : Nat} (h : k + m = N) (hk : k < m) : SW N f k m = f m := by unfold SW; rw [if_neg (by omega)]
theorem SW_step {N : Nat} {f : Nat → P2} {k m : Nat} (h : k + m = N) (hk : k < m) (j : Nat) : put2 (put2 (SW N f k) k (f m)) m (f k) j = SW N f (k + 1) j := by
  unfold put2 SW
  by_cases e : j = m
  · rw [if_pos e, if_pos (by omega)]
    congr 1; omega
  · rw [if_neg e]
    by_cases e2 : j = k
    · rw [if_pos e2, if_pos (by omega)]
      congr 1; omega
    · rw [if_neg e2]
      by_cases h3 : j ≤ N ∧ (j < k ∨ N < j + k)
      · rw [if_pos h3, if_pos (by omega)]
      · rw [if_neg h3, if_neg (by omega)]
theorem SW_end {N : Nat} {f : Nat → P2} {k m : Nat} (h : k + m = N) (hk : ¬ k < m) (j : Nat) (hj : j < N + 1) : SW N f k j = f (N - j) := by
  unfold SW
  by_cases h3 : j ≤ N ∧ (j < k ∨ N < j + k)
  · rw [if_pos h3]
  · rw [if_neg h3]; congr 1; omega
set_option maxRecDepth 100000 in
set_option maxHeartbeats 4000000 in
theorem rev_calls {base g d N : Nat} {f : Nat → P2} (w : World) (h384 : N + 1 ≤ 1000) (ho : w.ownsRow base 113 2 (.slice (some ⟨g, 0, none⟩) (N + 1) d) (N + 1) (rws (sp2 f) (N + 1))) :
    Calls Try.prog 112 #[.slice (some ⟨g, 0, none⟩) (N + 1) d] w fun e w' => e = .returned (.tuple #[]) ∧ w'.ownsRow base 113 2 (.slice (some ⟨g, 0, none⟩) (N + 1) d) (N + 1) (rws (sp2 fun j => f (N - j)) (N + 1)) ∧ OnlyF (fun x => x = g) w w' := by
  have HO := Lib.hid (own_cast2 ho (SW_zero N f · |> fun h => fun _ => h))
  clear ho
  go_enter Try.func112, Try.ntmps112
  go_wp2
  go_loopw [2, 3] (fun i j w' => ∃ (k m : Nat), k + m = N ∧ k ≤ m + 1 ∧ i = .int .i64 (k : Int) ∧ j = .int .i64 (m : Int) ∧ Hid (w'.ownsRow base 113 2 (.slice (some ⟨g, 0, none⟩) (N + 1) d) (N + 1) (rws (sp2 (SW N f k)) (N + 1))) ∧ Hid (OnlyF (fun x => x = g) w w')) (fun i _ _ => N + 1 - (intOf i).toNat)
  case atStart => exact ⟨0, N, by omega, by omega, rfl, by simp, HO, Lib.hid (OnlyF.refl _ _)⟩
  case round =>
    obtain ⟨k, m, hkm, hkm2, rfl, rfl, HW, HF⟩ := hrel
    by_cases hlt : k < m
    · have x0 : wr.cell? ⟨g, k * 2, none⟩ = some (.int .i64 (f k).1) := by have := row_cell HW.out (sp2_len _) (show k < N + 1 by omega) (show 0 < 2 by omega) rfl; rw [SW_lo hkm hlt] at this; exact this
      have x1 : wr.cell? ⟨g, k * 2 + 1, none⟩ = some (.int .i64 (f k).2) := by have := row_cell HW.out (sp2_len _) (show k < N + 1 by omega) (show 1 < 2 by omega) rfl; rw [SW_lo hkm hlt] at this; exact this
      have y0 : wr.cell? ⟨g, m * 2, none⟩ = some (.int .i64 (f m).1) := by have := row_cell HW.out (sp2_len _) (show m < N + 1 by omega) (show 0 < 2 by omega) rfl; rw [SW_hi hkm hlt] at this; exact this
      have y1 : wr.cell? ⟨g, m * 2 + 1, none⟩ = some (.int .i64 (f m).2) := by have := row_cell HW.out (sp2_len _) (show m < N + 1 by omega) (show 1 < 2 by omega) rfl; rw [SW_hi hkm hlt] at this; exact this
      have xf := free_row HW.out
      have xz := rown.row_lt HW.out
      have HST := Lib.hid (SW_step (f := f) hkm hlt)
      have hPT := own_put2 (i := m) (own_put2 (i := k) HW.out (by omega) (f m)) (by omega) (f k)
      have HPT := Lib.hid (own_cast2 hPT fun j _ => HST.out j)
      have HKM := Lib.hid (And.intro hkm hkm2)
      clear hPT
      obtain ⟨p, hp⟩ : ∃ p, f k = p := ⟨_, rfl⟩
      obtain ⟨q, hq⟩ : ∃ p, f m = p := ⟨_, rfl⟩
      rw [hp] at x0 x1 HPT
      rw [hq] at y0 y1 HPT
      have hkn : k < N + 1 := by omega
      have hmn : m < N + 1 := by omega
      have hki : (k : Int) < (m : Int) := by omega
      have hkN : (k : Int) < (N : Int) + 1 := by omega
      have hmN : (m : Int) < (N : Int) + 1 := by omega
      clear hp hq hkm hkm2 HST
      go_wp2
      go_region
      obtain ⟨w9, hw9⟩ : ∃ w9, w9 = ((((wr.setCell ⟨g, k * 2, none⟩ (.int .i64 q.1)).setCell ⟨g, k * 2 + 1, none⟩ (.int .i64 q.2)).setCell ⟨g, m * 2, none⟩ (.int .i64 p.1)).setCell ⟨g, m * 2 + 1, none⟩ (.int .i64 p.2)).drew := ⟨_, rfl⟩
      rw [← hw9]
      have HO9 := Lib.hid (show w9.ownsRow _ _ _ _ _ _ by rw [hw9]; exact rown.ownsRow_kept HPT.out (Below.refl _ _).drew)
      have HF9 := Lib.hid (show OnlyF (fun x => x = g) w w9 by rw [hw9]; exact ((((HF.out.setCell rfl _).setCell rfl _).setCell rfl _).setCell rfl _).drew)
      clear hw9 x0 x1 y0 y1 xf xz HPT
      obtain ⟨m', rfl⟩ : ∃ m', m = m' + 1 := ⟨m - 1, by omega⟩
      go_wp2
      go_roundw
      case rel => exact ⟨k + 1, m', by have := HKM.out; omega, by omega, by go_num, by go_num, HO9, HF9⟩
      case measure => simp [intOf]; omega
    · have HE := Lib.hid (own_cast2 HW.out (fun j hj => SW_end hkm hlt j hj))
      go_wp2
      go_end0
      exact ⟨rfl, HE.out, HF.out⟩
end Go.Proofs.Ythpmckfjlbiiiaa.revQ
