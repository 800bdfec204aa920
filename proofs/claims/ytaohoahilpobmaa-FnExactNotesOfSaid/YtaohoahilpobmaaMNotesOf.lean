/-
  Proved: both functions that look for the notes on a stroke return the same texts, in memory of their own.
  Conditions: none.
-/
import Derived.Test.YtaohoahilpobmaaFileVV
import Derived.Test.YtaohoahilpobmaaOwnRow
import Derived.Test.YtaohoahilpobmaaWid
namespace Go.Proofs.Ytaohoahilpobmaa.wNotesOf
open Go.ChangeShapes Go.WideShapes Go.ChangeAt Go.RowKit Go.Joins
open Go.Proofs.Ytaohoahilpobmaa.core Go.Proofs.Ytaohoahilpobmaa.names Go.Proofs.Ytaohoahilpobmaa.fileS Go.Proofs.Ytaohoahilpobmaa.fileI Go.Proofs.Ytaohoahilpobmaa.ownRow
set_option linter.unusedVariables false
set_option linter.unusedSimpArgs false

/-- The texts of the notes on stroke a among the first k. -/
def tx (f : Nat → Nat → Dat) (a : Int) : Nat → List ByteArray
  | 0 => []
  | k + 1 => if dInt (f k 0) ≤ a ∧ a ≤ dInt (f k 1) - 1 then tx f a k ++ [dStr (f k 2)] else tx f a k
theorem tx_size {f : Nat → Nat → Dat} {a : Int} {n : Nat} (h : ∀ i, i < n → (dStr (f i 2)).size ≤ maxLen) : ∀ k, k ≤ n → ∀ s ∈ tx f a k, s.size ≤ maxLen := by
  intro k
  induction k with
  | zero => intro _ s hs; simp [tx] at hs
  | succ k ih =>
    intro hk s hs
    simp only [tx] at hs
    split at hs
    · rw [List.mem_append, List.mem_singleton] at hs
      rcases hs with hs | rfl
      · exact ih (by omega) s hs
      · exact h k (by omega)
    · exact ih (by omega) s hs
noncomputable def ls (g : Nat → Dat) (a : Int) : List ByteArray := if vF g = true ∧ 0 ≤ a ∧ a ≤ (dLen (g 1) : Int) - 1 then tx (dFun (g 2)) a (dLen (g 2)) else []
noncomputable def cd (g : Nat → Dat) (a : Int) : Int := if vF g = true then (if 0 ≤ a ∧ a ≤ (dLen (g 1) : Int) - 1 then 0 else 2) else 1
/-- A list of texts as a datum. -/
def dat (l : List ByteArray) : Dat := .sl l.length 1 fun i _ => .str (l[i]?.getD ByteArray.empty)
theorem own_nil (w : World) (lo hi : Nat) : Own w (.slice none 0 0) (dat []) (iv lo hi) := .nil _ _ _ _ _

set_option maxRecDepth 100000 in
set_option maxHeartbeats 4000000 in
theorem spec_calls (us : Nat → Value) (g : Nat → Dat) (a : Int) (w : World) (ha : inI64 a) (hr : ReadsRec w 3 us g) (ht : tyrFile g) :
    Calls Try.prog 38 #[.agg #[us 0, us 1, us 2], .int .i64 a] w fun e w' => ∃ v, e = .returned (.tuple #[v, .int .i64 (cd g a)]) ∧ Own w' v (dat (ls g a)) (iv w.heap.size w'.heap.size) ∧ Below w.heap.size w w' := by
  obtain ⟨ha1, ha2⟩ := ha
  obtain ⟨⟨A0, c0, e0, h0, q0, t0⟩, ⟨A1, c1, e1, h1, q1, t1⟩, ⟨A2, c2, e2, h2, q2, t2⟩⟩ := recFile hr ht
  rw [e0, e1, e2]
  have HVF := Lib.hid (show vF g = tf (FileP (dLen (g 0)) (dFun (g 0)) (dLen (g 1)) (dFun (g 1)) (dLen (g 2)) (dFun (g 2))) from rfl)
  have HLS := Lib.hid (show ls g a = if vF g = true ∧ 0 ≤ a ∧ a ≤ (dLen (g 1) : Int) - 1 then tx (dFun (g 2)) a (dLen (g 2)) else [] from rfl)
  have HCD := Lib.hid (show cd g a = if vF g = true then (if 0 ≤ a ∧ a ≤ (dLen (g 1) : Int) - 1 then 0 else 2) else 1 from rfl)
  generalize ls g a = l at *
  generalize cd g a = z at *
  generalize vF g = vv at *
  clear hr e0 e1 e2 ht
  generalize dLen (g 0) = n at *
  generalize dLen (g 1) = ns at *
  generalize dLen (g 2) = nn at *
  generalize dFun (g 0) = fc at *
  generalize dFun (g 1) = fs at *
  generalize dFun (g 2) = fn at *
  obtain ⟨i0, hi0, hz0, hz1, hz2⟩ := info_get infoString
  have BL := Lib.hid (below_alloc1 w (.cells #[.slice A0 n c0, .slice A1 ns c1, .slice A2 nn c2] 33))
  have HH := Lib.hid (ok_calls w.heap.size 0 A0 A1 A2 n c0 ns c1 nn c2 fc fs fn (w.alloc (.cells #[.slice A0 n c0, .slice A1 ns c1, .slice A2 nn c2] 33)) (by simp) h0 h1 h2 (by simp) (by simp) (by simp) (q0.below BL.out) t0 (q1.below BL.out) t1 (q2.below BL.out) t2)
  rw [← HVF.out] at HH
  have HN := Lib.hid (fun (W : World) (hB : Below w.heap.size w W) => viewNoteS (q2.below hB) t2)
  have HSZ := Lib.hid (show ∀ s ∈ tx fn a nn, s.size ≤ maxLen from tx_size (n := nn) (fun i hi => by
    obtain ⟨_, _, _, _, _, _, _, h⟩ := viewNoteS q2 t2 i hi
    exact h) nn (Nat.le_refl _))
  have HP := Lib.hid (show vv = true → (ns ≤ 16 ∧ nn ≤ 12) ∧ ∀ i, i < nn → 0 ≤ dInt (fn i 0) ∧ dInt (fn i 0) < dInt (fn i 1) ∧ dInt (fn i 1) ≤ (ns : Int) from fun h => by
    rw [HVF.out] at h
    have := tf_iff.1 h
    exact ⟨this.2.2.2.2, fun i hi => (this.2.2.1 i hi).1⟩)
  clear HVF q0 q1 q2 t0 t1 t2 h0 h1 h2
  cases vv
  · have X0 := Lib.hid (HLS.out.trans (if_neg (by simp)))
    have X1 := Lib.hid (HCD.out.trans (if_neg (by simp)))
    rw [X0.out, X1.out]
    clear HLS HCD X0 X1 HP HN HSZ hi0 hz0 hz1 hz2
    go_enter Try.func38, Try.ntmps38
    go_wp2_with fail
    refine HH.out.mono ?_
    rintro e w1 ⟨rfl, hb⟩
    have HB := Lib.hid (BL.out.trans (hb.mono BL.out.size))
    clear hb
    go_wp2
    go_ret2
    exact ⟨_, rfl, own_nil _ _ _, HB.out⟩
  · obtain ⟨⟨hns, hnn⟩, hpl⟩ := HP.out rfl
    have HPL := Lib.hid hpl
    clear hpl HP
    by_cases hok : 0 ≤ a ∧ a ≤ (ns : Int) - 1
    · have hin := tf_t hok
      have X0 := Lib.hid (HLS.out.trans (if_pos ⟨rfl, hok⟩))
      have X1 := Lib.hid ((HCD.out.trans (if_pos rfl)).trans (if_pos hok))
      rw [X0.out, X1.out]
      clear HLS HCD X0 X1
      have HA := Lib.hid hok
      clear hok
      go_enter Try.func38, Try.ntmps38
      go_wp2_with fail
      refine HH.out.mono ?_
      rintro e w1 ⟨rfl, hb⟩
      have HB := Lib.hid (BL.out.trans (hb.mono BL.out.size))
      have hc1 := (hb.cell (p := ⟨w.heap.size, 1, none⟩) (by simp)).trans (show _ = some (.slice A1 ns c1) by simp)
      have HC2 := Lib.hid ((hb.cell (p := ⟨w.heap.size, 2, none⟩) (by simp)).trans (show _ = some (.slice A2 nn c2) by simp))
      have HZ := Lib.hid (show w.heap.size < w1.heap.size from Nat.lt_of_lt_of_le (by simp) hb.size)
      clear hb HH BL
      go_wp2_with fail
      refine (in_calls _ _ _ _ true hin).mono ?_
      rintro e w2 ⟨rfl, hb⟩
      have HB2 := Lib.hid (HB.out.trans (hb.mono HB.out.size))
      have HC3 := Lib.hid ((hb.cell (p := ⟨w.heap.size, 2, none⟩) HZ.out).trans HC2.out)
      have HZ2 := Lib.hid (show w.heap.size < w2.heap.size from Nat.lt_of_lt_of_le HZ.out hb.size)
      clear hb hc1 HB HC2 HZ hin
      go_wp2
      go_loopw [6, 7] (fun o i w' => ∃ (k m gb c : Nat), k ≤ nn ∧ i = .int .i64 (k : Int) ∧ m ≤ k ∧ o = .slice (some ⟨gb, 0, none⟩) m c ∧ Hid ((tx fn a k).length = m) ∧ Hid (w'.ownsRow w2.heap.size 9 1 (.slice (some ⟨gb, 0, none⟩) m c) m ((tx fn a k).map Value.string)) ∧ Hid (Below w2.heap.size w2 w')) (fun _ i _ => nn - (intOf i).toNat)
      case atStart => exact ⟨0, 0, _, _, Nat.zero_le _, rfl, Nat.le_refl _, rfl, Lib.hid rfl, Lib.hid (by simpa [tx] using empty_row w2 9), Lib.hid (below_alloc1 _ _)⟩
      case round =>
        obtain ⟨k, m, gb, c, hk, rfl, hmk, rfl, HM, HO, HBr⟩ := hrel
        have HBw := Lib.hid (HB2.out.trans (HBr.out.mono HB2.out.size))
        have hbz : w.heap.size < wr.heap.size := Nat.lt_of_lt_of_le HZ2.out HBr.out.size
        have hc2 := (HBr.out.cell (p := ⟨w.heap.size, 2, none⟩) HZ2.out).trans HC3.out
        by_cases hlt : k < nn
        · have hli : (k : Int) < (nn : Int) := by omega
          obtain ⟨b2, o2, rfl, hl2, ⟨p0, -⟩, ⟨p1, -⟩, ⟨p2, hp2⟩⟩ := HN.out wr HBw.out k hlt
          obtain ⟨hx0, hx1, hx2⟩ := HPL.out k hlt
          have hmix := mixedR
          by_cases hit : dInt (fn k 0) ≤ a ∧ a ≤ dInt (fn k 1) - 1
          · have hin := tf_t hit
            have HT := Lib.hid (show tx fn a (k + 1) = tx fn a k ++ [dStr (fn k 2)] by simp only [tx]; rw [if_pos hit])
            clear hit
            generalize dInt (fn k 0) = x at *
            generalize dInt (fn k 1) = y at *
            generalize dStr (fn k 2) = t at *
            have k0 := cell_kept hl2 p0
            have k1 := cell_kept hl2 p1
            have k2 := cell_kept hbz hc2
            have HQ := Lib.hid p2
            have HCC := Lib.hid hc2
            have HL := Lib.hid hl2
            have HLZ := Lib.hid hbz
            clear p0 p1 p2 hl2 hbz
            go_wp2
            clear hc2
            refine wp_region_quiet_kept (by assumption) (by kernel_rfl) ?_
            repeat (first | go_big_quiet_step ((go_at_call 90; exact Calls.kept_of (in_calls _ _ _ _ _ (by assumption)))) | quiet_step ((go_at_call 90; exact Calls.kept_of (in_calls _ _ _ _ _ (by assumption)))))
            refine wpQuiet_nil ?_
            intro w4 hw'
            have hB : Below wr.heap.size wr w4 := by obtain ⟨⟨wk, hb0⟩, hw''⟩ := hw'; rw [hw'']; exact hb0
            have HB4 := Lib.hid (HBr.out.trans (hB.mono HBr.out.size))
            have HO4 := Lib.hid (ownsRow_kept HO.out hB)
            have p2 := (hB.cell (p := ⟨b2, o2 + k * 3 + 2, none⟩) HL.out).trans HQ.out
            have hc2 := (hB.cell (p := ⟨w.heap.size, 2, none⟩) HLZ.out).trans HCC.out
            clear hw' hB k0 k1 k2 hin HO HBr HQ HCC
            go_wp2_with (first
              | (at_builtin
                 have z0 := ownsRow_kept HO4.out (below_alloc1 w4 (.cells #[.string t] 9))
                 have z2 : ∀ u ∈ [Value.string t], u.oneCell' = true := (by simp [Value.oneCell'])
                 have z3 : m + 1 ≤ maxLen := (by simp only [maxLen]; omega)
                 have z4 : (m + 1) * 16 ≤ 140737488355328 := (by omega)
                 have z5 : w2.heap.size ≤ (w4.alloc (.cells #[.string t] 9)).heap.size := (Nat.le_trans HB4.out.size (by simp))
                 refine wpList_append_lies (w4.alloc (.cells #[.string t] 9)) rfl _ _ 67 rfl w2.heap.size 9 i0 (.string ⟨#[]⟩) 1 16 Try.underlying67 hi0 hz0 hz1 hz2 rfl (by decide) (.slice (some ⟨gb, 0, none⟩) m c) m _ rfl z0 ⟨w4.heap.size, 0, none⟩ 1 1 [.string t] rfl rfl one_new z2 (by decide) z3 z4 z5 _ rfl ?_
                 intro g3 cap3 w3 hown hgr hat hlt3
                 have HO3 := Lib.hid hown
                 have HB3 := Lib.hid (HB4.out.trans (under HO4.out HB4.out.size hgr))
                 clear hown hgr hat z0 z2 z3 z4 z5))
            go_roundw
            case rel => exact ⟨k + 1, m + 1, g3, cap3, by omega, by go_num, by omega, rfl, Lib.hid (by rw [HT.out, List.length_append, HM.out]; rfl), Lib.hid (by rw [HT.out, List.map_append]; exact HO3.out), HB3⟩
            case measure => simp [intOf]; omega
          · have hin := tf_f hit
            have HT := Lib.hid (show tx fn a (k + 1) = tx fn a k by simp only [tx]; rw [if_neg hit])
            clear hit p2 hp2
            generalize dInt (fn k 0) = x at *
            generalize dInt (fn k 1) = y at *
            have k0 := cell_kept hl2 p0
            have k1 := cell_kept hl2 p1
            have k2 := cell_kept hbz hc2
            clear p0 p1 hl2 hbz
            go_wp2
            clear hc2
            refine wp_region_quiet_kept (by assumption) (by kernel_rfl) ?_
            repeat (first | go_big_quiet_step ((go_at_call 90; exact Calls.kept_of (in_calls _ _ _ _ _ (by assumption)))) | quiet_step ((go_at_call 90; exact Calls.kept_of (in_calls _ _ _ _ _ (by assumption)))))
            refine wpQuiet_nil ?_
            intro w4 hw'
            have hB : Below wr.heap.size wr w4 := by obtain ⟨⟨wk, hb0⟩, hw''⟩ := hw'; rw [hw'']; exact hb0
            have HB4 := Lib.hid (HBr.out.trans (hB.mono HBr.out.size))
            have HO4 := Lib.hid (ownsRow_kept HO.out hB)
            clear hw' hB k0 k1 k2 hin HO HBr
            go_wp2
            go_roundw
            case rel => exact ⟨k + 1, m, gb, c, by omega, by go_num, by omega, rfl, Lib.hid (by rw [HT.out]; exact HM.out), Lib.hid (by rw [HT.out]; exact HO4.out), HB4⟩
            case measure => simp [intOf]; omega
        · obtain rfl : k = nn := by omega
          go_wp2
          go_ret2
          have h2 : Own wr (.slice (some ⟨gb, 0, none⟩) m c) (dat (tx fn a k)) (iv w.heap.size wr.heap.size) := by
            unfold dat
            rw [HM.out]
            exact (own_texts HO.out HSZ.out).iv_mono (Nat.le_of_lt HZ2.out) (Nat.le_refl _)
          exact ⟨_, rfl, h2, HBw.out⟩
    · have hin := tf_f hok
      have X0 := Lib.hid (HLS.out.trans (if_neg (fun h => hok h.2)))
      have X1 := Lib.hid ((HCD.out.trans (if_pos rfl)).trans (if_neg hok))
      rw [X0.out, X1.out]
      clear HLS HCD X0 X1 HN HSZ hi0 hz0 hz1 hz2 hok HPL
      go_enter Try.func38, Try.ntmps38
      go_wp2_with fail
      refine HH.out.mono ?_
      rintro e w1 ⟨rfl, hb⟩
      have HB := Lib.hid (BL.out.trans (hb.mono BL.out.size))
      have hc1 := (hb.cell (p := ⟨w.heap.size, 1, none⟩) (by simp)).trans (show _ = some (.slice A1 ns c1) by simp)
      clear hb HH BL
      go_wp2_with fail
      refine (in_calls _ _ _ _ false hin).mono ?_
      rintro e w2 ⟨rfl, hb⟩
      have HB2 := Lib.hid (HB.out.trans (hb.mono HB.out.size))
      clear hb hc1
      go_wp2
      go_ret2
      exact ⟨_, rfl, own_nil _ _ _, HB2.out⟩

set_option maxRecDepth 100000 in
set_option maxHeartbeats 4000000 in
theorem impl_calls (us : Nat → Value) (g : Nat → Dat) (a : Int) (w : World) (ha : inI64 a) (hr : ReadsRec w 3 us g) (ht : tyrFile g) :
    Calls Try.prog 39 #[.agg #[us 0, us 1, us 2], .int .i64 a] w fun e w' => ∃ v, e = .returned (.tuple #[v, .int .i64 (cd g a)]) ∧ Own w' v (dat (ls g a)) (iv w.heap.size w'.heap.size) ∧ Below w.heap.size w w' := by
  obtain ⟨ha1, ha2⟩ := ha
  have BL := Lib.hid (below_alloc1 w (.cells #[us 0, us 1, us 2] 33))
  have HH := Lib.hid (validI_calls us g _ (hr.kept BL.out) ht)
  obtain ⟨⟨A0, c0, e0, h0, q0, t0⟩, ⟨A1, c1, e1, h1, q1, t1⟩, ⟨A2, c2, e2, h2, q2, t2⟩⟩ := recFile hr ht
  rw [e0, e1, e2] at HH BL ⊢
  have HVF := Lib.hid (show vF g = tf (FileP (dLen (g 0)) (dFun (g 0)) (dLen (g 1)) (dFun (g 1)) (dLen (g 2)) (dFun (g 2))) from rfl)
  have HLS := Lib.hid (show ls g a = if vF g = true ∧ 0 ≤ a ∧ a ≤ (dLen (g 1) : Int) - 1 then tx (dFun (g 2)) a (dLen (g 2)) else [] from rfl)
  have HCD := Lib.hid (show cd g a = if vF g = true then (if 0 ≤ a ∧ a ≤ (dLen (g 1) : Int) - 1 then 0 else 2) else 1 from rfl)
  generalize ls g a = l at *
  generalize cd g a = z at *
  generalize vF g = vv at *
  clear hr e0 e1 e2 ht
  generalize dLen (g 0) = n at *
  generalize dLen (g 1) = ns at *
  generalize dLen (g 2) = nn at *
  generalize dFun (g 0) = fc at *
  generalize dFun (g 1) = fs at *
  generalize dFun (g 2) = fn at *
  obtain ⟨i0, hi0, hz0, hz1, hz2⟩ := info_get infoString
  have HN := Lib.hid (fun (W : World) (hB : Below w.heap.size w W) => viewNoteS (q2.below hB) t2)
  have HSZ := Lib.hid (show ∀ s ∈ tx fn a nn, s.size ≤ maxLen from tx_size (n := nn) (fun i hi => by
    obtain ⟨_, _, _, _, _, _, _, h⟩ := viewNoteS q2 t2 i hi
    exact h) nn (Nat.le_refl _))
  have HP := Lib.hid (show vv = true → (ns ≤ 16 ∧ nn ≤ 12) ∧ ∀ i, i < nn → 0 ≤ dInt (fn i 0) ∧ dInt (fn i 0) < dInt (fn i 1) ∧ dInt (fn i 1) ≤ (ns : Int) from fun h => by
    rw [HVF.out] at h
    have := tf_iff.1 h
    exact ⟨this.2.2.2.2, fun i hi => (this.2.2.1 i hi).1⟩)
  clear HVF q0 q1 q2 t0 t1 t2 h0 h1 h2
  cases vv
  · have X0 := Lib.hid (HLS.out.trans (if_neg (by simp)))
    have X1 := Lib.hid (HCD.out.trans (if_neg (by simp)))
    rw [X0.out, X1.out]
    clear HLS HCD X0 X1 HP HN HSZ hi0 hz0 hz1 hz2
    go_enter Try.func39, Try.ntmps39
    go_wp2_with fail
    refine HH.out.mono ?_
    rintro e w1 ⟨rfl, hb⟩
    have HB := Lib.hid (BL.out.trans (hb.mono BL.out.size))
    clear hb
    go_wp2
    go_ret2
    exact ⟨_, rfl, own_nil _ _ _, HB.out⟩
  · obtain ⟨⟨hns, hnn⟩, hpl⟩ := HP.out rfl
    have HPL := Lib.hid hpl
    clear hpl HP
    by_cases hok : 0 ≤ a ∧ a ≤ (ns : Int) - 1
    · have X0 := Lib.hid (HLS.out.trans (if_pos ⟨rfl, hok⟩))
      have X1 := Lib.hid ((HCD.out.trans (if_pos rfl)).trans (if_pos hok))
      rw [X0.out, X1.out]
      clear HLS HCD X0 X1
      obtain ⟨hok1, hok2⟩ := hok
      have d1 : ¬ a < 0 := by omega
      have d2 : ¬ (ns : Int) ≤ a := by omega
      go_enter Try.func39, Try.ntmps39
      go_wp2_with fail
      refine HH.out.mono ?_
      rintro e w1 ⟨rfl, hb⟩
      have HB := Lib.hid (BL.out.trans (hb.mono BL.out.size))
      have hc1 := (hb.cell (p := ⟨w.heap.size, 1, none⟩) (by simp)).trans (show _ = some (.slice A1 ns c1) by simp)
      have hc2 := (hb.cell (p := ⟨w.heap.size, 2, none⟩) (by simp)).trans (show _ = some (.slice A2 nn c2) by simp)
      have HZ := Lib.hid (show w.heap.size < w1.heap.size from Nat.lt_of_lt_of_le (by simp) hb.size)
      clear hb HH BL
      go_wp2
      clear hc1 hc2 d1 d2
      go_loopw [6, 24] (fun o i w' => ∃ (k m c : Nat) (A : Option Addr), k ≤ nn ∧ i = .int .i64 (k : Int) ∧ m ≤ k ∧ o = .slice A m c ∧ Hid ((tx fn a k).length = m) ∧ Hid (w'.ownsRow w1.heap.size 9 1 (.slice A m c) m ((tx fn a k).map Value.string)) ∧ Hid (Below w1.heap.size w1 w')) (fun _ i _ => nn - (intOf i).toNat)
      case atStart => exact ⟨0, 0, 0, none, Nat.zero_le _, rfl, Nat.le_refl _, rfl, Lib.hid rfl, Lib.hid (by simpa [tx] using World.ownsRow_nil w1 w1.heap.size 9 1), Lib.hid (Below.refl _ _)⟩
      case round =>
        obtain ⟨k, m, c, A, hk, rfl, hmk, rfl, HM, HO, HBr⟩ := hrel
        have HBw := Lib.hid (HB.out.trans (HBr.out.mono HB.out.size))
        by_cases hlt : k < nn
        · have hli : (k : Int) < (nn : Int) := by omega
          obtain ⟨b2, o2, rfl, hl2, ⟨p0, -⟩, ⟨p1, -⟩, ⟨p2, hp2⟩⟩ := HN.out wr HBw.out k hlt
          obtain ⟨hx0, hx1, hx2⟩ := HPL.out k hlt
          by_cases hit : dInt (fn k 0) ≤ a ∧ a ≤ dInt (fn k 1) - 1
          · have HT := Lib.hid (show tx fn a (k + 1) = tx fn a k ++ [dStr (fn k 2)] by simp only [tx]; rw [if_pos hit])
            obtain ⟨g1, g2⟩ := hit
            generalize dInt (fn k 0) = x at *
            generalize dInt (fn k 1) = y at *
            generalize dStr (fn k 2) = t at *
            have g2' : a < y := by omega
            have g1b : decide (x ≤ a) = true := decide_eq_true g1
            have g2b : decide (a < y) = true := decide_eq_true g2'
            clear g1b g2b
            go_wp2_with (first
              | (at_builtin
                 have zb := below_alloc1 wr (.cells #[.int .i64 x, .int .i64 y, .string t] 64)
                 have zo := ownsRow_kept HO.out zb
                 have z0 := ownsRow_kept zo (below_alloc1 (wr.alloc (.cells #[.int .i64 x, .int .i64 y, .string t] 64)) (.cells #[.string t] 9))
                 have z1 := one_newH (w := wr.alloc (.cells #[.int .i64 x, .int .i64 y, .string t] 64)) (v := .string t) (E := 9) (H := wr.heap.size + 1) (by simp)
                 have z2 : ∀ u ∈ [Value.string t], u.oneCell' = true := (by simp [Value.oneCell'])
                 have z3 : m + 1 ≤ maxLen := (by simp only [maxLen]; omega)
                 have z4 : (m + 1) * 16 ≤ 140737488355328 := (by omega)
                 have z6 : w1.heap.size ≤ (wr.alloc (.cells #[.int .i64 x, .int .i64 y, .string t] 64)).heap.size := (Nat.le_trans HBr.out.size (by simp))
                 have z5 : w1.heap.size ≤ ((wr.alloc (.cells #[.int .i64 x, .int .i64 y, .string t] 64)).alloc (.cells #[.string t] 9)).heap.size := (Nat.le_trans z6 (by simp))
                 refine wpList_append_lies ((wr.alloc (.cells #[.int .i64 x, .int .i64 y, .string t] 64)).alloc (.cells #[.string t] 9)) rfl _ _ 67 rfl w1.heap.size 9 i0 (.string ⟨#[]⟩) 1 16 Try.underlying67 hi0 hz0 hz1 hz2 rfl (by decide) (.slice A m c) m _ rfl z0 ⟨wr.heap.size + 1, 0, none⟩ 1 1 [.string t] rfl rfl z1 z2 (by decide) z3 z4 z5 _ rfl ?_
                 intro g3 cap3 w3 hown hgr hat hlt3
                 have HO3 := Lib.hid hown
                 have HB3 := Lib.hid ((HBr.out.trans (zb.mono HBr.out.size)).trans (under zo z6 hgr))
                 clear hown hgr hat z0 z1 z2 z3 z4 z5 z6 zb zo))
            go_roundw
            case rel => exact ⟨k + 1, m + 1, cap3, some ⟨g3, 0, none⟩, by omega, by go_num, by omega, rfl, Lib.hid (by rw [HT.out, List.length_append, HM.out]; rfl), Lib.hid (by rw [HT.out, List.map_append]; exact HO3.out), HB3⟩
            case measure => simp [intOf]; omega
          · have HT := Lib.hid (show tx fn a (k + 1) = tx fn a k by simp only [tx]; rw [if_neg hit])
            generalize dInt (fn k 0) = x at *
            generalize dInt (fn k 1) = y at *
            generalize dStr (fn k 2) = t at *
            have HK := Lib.hid (below_alloc1 wr (.cells #[.int .i64 x, .int .i64 y, .string t] 64))
            by_cases g1 : x ≤ a
            · have g2 : y ≤ a := by omega
              clear hit
              go_wp2
              go_roundw
              case rel => exact ⟨k + 1, m, c, A, by omega, by go_num, by omega, rfl, Lib.hid (by rw [HT.out]; exact HM.out), Lib.hid (by rw [HT.out]; exact ownsRow_kept HO.out HK.out), Lib.hid (HBr.out.trans (HK.out.mono HBr.out.size))⟩
              case measure => simp [intOf]; omega
            · clear hit
              go_wp2
              go_roundw
              case rel => exact ⟨k + 1, m, c, A, by omega, by go_num, by omega, rfl, Lib.hid (by rw [HT.out]; exact HM.out), Lib.hid (by rw [HT.out]; exact ownsRow_kept HO.out HK.out), Lib.hid (HBr.out.trans (HK.out.mono HBr.out.size))⟩
              case measure => simp [intOf]; omega
        · obtain rfl : k = nn := by omega
          go_wp2
          go_ret2
          have h2 : Own wr (.slice A m c) (dat (tx fn a k)) (iv w.heap.size wr.heap.size) := by
            unfold dat
            rw [HM.out]
            exact (own_texts HO.out HSZ.out).iv_mono (Nat.le_of_lt HZ.out) (Nat.le_refl _)
          exact ⟨_, rfl, h2, HBw.out⟩
    · have X0 := Lib.hid (HLS.out.trans (if_neg (fun h => hok h.2)))
      have X1 := Lib.hid ((HCD.out.trans (if_pos rfl)).trans (if_neg hok))
      rw [X0.out, X1.out]
      clear HLS HCD X0 X1 HN HSZ hi0 hz0 hz1 hz2 HPL
      by_cases hneg : a < 0
      · clear hok
        go_enter Try.func39, Try.ntmps39
        go_wp2_with fail
        refine HH.out.mono ?_
        rintro e w1 ⟨rfl, hb⟩
        have HB := Lib.hid (BL.out.trans (hb.mono BL.out.size))
        have hc1 := (hb.cell (p := ⟨w.heap.size, 1, none⟩) (by simp)).trans (show _ = some (.slice A1 ns c1) by simp)
        clear hb HH BL
        go_wp2
        go_ret2
        exact ⟨_, rfl, own_nil _ _ _, HB.out⟩
      · have d2 : (ns : Int) ≤ a := by omega
        clear hok
        go_enter Try.func39, Try.ntmps39
        go_wp2_with fail
        refine HH.out.mono ?_
        rintro e w1 ⟨rfl, hb⟩
        have HB := Lib.hid (BL.out.trans (hb.mono BL.out.size))
        have hc1 := (hb.cell (p := ⟨w.heap.size, 1, none⟩) (by simp)).trans (show _ = some (.slice A1 ns c1) by simp)
        clear hb HH BL
        go_wp2
        go_ret2
        exact ⟨_, rfl, own_nil _ _ _, HB.out⟩

theorem tx_len (f : Nat → Nat → Dat) (a : Int) (k : Nat) : (tx f a k).length ≤ k := by
  induction k with
  | zero => exact Nat.le_refl _
  | succ k ih =>
    simp only [tx]
    split
    · rw [List.length_append]
      exact Nat.succ_le_succ ih
    · exact Nat.le_succ_of_le ih
theorem ls_len (g : Nat → Dat) (a : Int) : (ls g a).length ≤ 12 := by
  unfold ls
  split
  · next h =>
    have h1 : tf (FileP (dLen (g 0)) (dFun (g 0)) (dLen (g 1)) (dFun (g 1)) (dLen (g 2)) (dFun (g 2))) = true := h.1
    exact Nat.le_trans (tx_len _ _ _) (tf_iff.1 h1).2.2.2.2.2
  · simp
theorem dat_cnt (l : List ByteArray) : cntRec 1 (fun _ => dat l) = l.length := by
  simp only [cntRec, sumTo, dat, cntS, cnt]
  rw [sumTo_const]
  omega

theorem meat (vs0 : Nat → Value) (g0 : Nat → Dat) (a1 : Int) (ht0 : tyrFile g0) (hi1 : inI64 a1) :
    costRec 3 g0 ≤ 1048576 → ∃ (R : Nat → Dat) (r1 : Int), tyrStringS R ∧ cntRec 1 R ≤ 100000000000 ∧ (∀ (W : World) (us0 : Nat → Value), ReadsRec W 3 us0 g0 → Calls Try.prog 38 #[.agg #[us0 0, us0 1, us0 2], .int .i64 a1] W fun e W' => ∃ xs : Nat → Value, e = .returned (.tuple #[xs 0, .int .i64 r1]) ∧ OwnRec W' 1 xs R (iv W.heap.size W'.heap.size) ∧ Below W.heap.size W W') ∧ (∀ (W : World) (us0 : Nat → Value), ReadsRec W 3 us0 g0 → Calls Try.prog 39 #[.agg #[us0 0, us0 1, us0 2], .int .i64 a1] W fun e W' => ∃ xs : Nat → Value, e = .returned (.tuple #[xs 0, .int .i64 r1]) ∧ OwnRec W' 1 xs R (iv W.heap.size W'.heap.size) ∧ Below W.heap.size W W') := by
  intro _
  refine ⟨fun _ => dat (ls g0 a1), cd g0 a1, ?_, ?_, ?_, ?_⟩
  · exact tyStringS_mk fun i _ => ⟨_, rfl⟩
  · have := ls_len g0 a1
    rw [dat_cnt]
    omega
  · intro W us h
    exact (spec_calls us g0 a1 W hi1 h ht0).mono fun e w' ⟨v, he, hown, hb⟩ => ⟨fun _ => v, he, ownRec_one hown (Nat.le_refl _), hb⟩
  · intro W us h
    exact (impl_calls us g0 a1 W hi1 h ht0).mono fun e w' ⟨v, he, hown, hb⟩ => ⟨fun _ => v, he, ownRec_one hown (Nat.le_refl _), hb⟩
end Go.Proofs.Ytaohoahilpobmaa.wNotesOf
