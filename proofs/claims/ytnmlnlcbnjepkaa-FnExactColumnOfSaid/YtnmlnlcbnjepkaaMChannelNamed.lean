/-
  Proved: both functions that look for a channel by its name return the same for a file that reads so.
  Conditions: none.
-/
import Derived.Test.YtnmlnlcbnjepkaaFileVV
namespace Go.Proofs.Ytnmlnlcbnjepkaa.wChannelNamed
open Go.ChangeShapes Go.WideShapes Go.ChangeAt Go.RowKit Go.Joins Go.WideMaps Go.Maps
open Go.Proofs.Ytnmlnlcbnjepkaa.core Go.Proofs.Ytnmlnlcbnjepkaa.names Go.Proofs.Ytnmlnlcbnjepkaa.fileS Go.Proofs.Ytnmlnlcbnjepkaa.fileI
set_option linter.unusedVariables false
set_option linter.unusedSimpArgs false

theorem fnd_cases (nm : Nat → ByteArray) (s : ByteArray) (n : Nat) : (∃ i, i < n ∧ fnd nm s n = (i : Int) ∧ nm i = s) ∨ (fnd nm s n = -1 ∧ ∀ i, i < n → nm i ≠ s) := by
  induction n with
  | zero => exact .inr ⟨rfl, fun i hi => absurd hi (by omega)⟩
  | succ n ih =>
    rcases ih with ⟨i, hi, h1, h2⟩ | ⟨h1, h2⟩
    · refine .inl ⟨i, by omega, ?_, h2⟩
      simp only [fnd, h1]
      rw [if_neg (by omega)]
    · by_cases e : nm n = s
      · exact .inl ⟨n, by omega, fnd_hit h2 e (by omega), e⟩
      · exact .inr ⟨fnd_none (all_step h2 e), all_step h2 e⟩
theorem PL_at (nm : Nat → ByteArray) (z : DataW Unit) (i : Nat) : ∀ k, Dst nm k → i < k → (PL nm k).atKey (.string (nm i).data.toList) z = .lit (.int .i64 (i : Int)) := by
  intro k
  induction k with
  | zero => intro _ h; omega
  | succ k ih =>
    intro hd hi
    by_cases e : i = k
    · subst e
      exact atKey_put_same (PL_tidy nm i).isMap (key_lit _) _ _
    · simp only [PL]
      rw [atKey_put_other (lit_ne fun h => e (hd i k hi (by omega) h))]
      exact ih (fun a b ha hb => hd a b (by omega) (by omega)) (by omega)
theorem zeroInt (w : World) : (zeroValue 3).run Try.prog w = .ok (.int .i64 0) w := by kernel_rfl

/-- Where the channel with the name stands, and the code. -/
noncomputable def at_ (g : Nat → Dat) (s : ByteArray) : Int := fnd (fun i => dStr (dFun (g 0) i 0)) s (dLen (g 0))
noncomputable def r0 (g : Nat → Dat) (s : ByteArray) : Int := if vF g = true then (if at_ g s = -1 then 0 else at_ g s) else 0
noncomputable def r1 (g : Nat → Dat) (s : ByteArray) : Int := if vF g = true then (if at_ g s = -1 then 3 else 0) else 1

set_option maxRecDepth 100000 in
set_option maxHeartbeats 4000000 in
theorem impl_calls (us : Nat → Value) (g : Nat → Dat) (s : ByteArray) (w : World) (hs : s.size ≤ maxLen) (hr : ReadsRec w 3 us g) (ht : tyrFile g) :
    Calls Try.prog 47 #[.agg #[us 0, us 1, us 2], .string s] w fun e w' => e = .returned (.tuple #[.int .i64 (r0 g s), .int .i64 (r1 g s)]) ∧ Below w.heap.size w w' := by
  have BL := Lib.hid (below_alloc1 w (.cells #[us 0, us 1, us 2] 35))
  have HH := Lib.hid (validI_calls us g _ (hr.kept BL.out) ht)
  obtain ⟨⟨A0, c0, e0, h0, q0, t0⟩, ⟨A1, c1, e1, h1, q1, t1⟩, ⟨A2, c2, e2, h2, q2, t2⟩⟩ := recFile hr ht
  rw [e0, e1, e2] at HH BL ⊢
  have HD := Lib.hid (show vF g = true → Dst (fun i => dStr (dFun (g 0) i 0)) (dLen (g 0)) ∧ dLen (g 0) ≤ 6 from fun h => by
    have := tf_iff.1 h
    exact ⟨(dst_fnd _ _).2 fun i hi => (this.1 i hi).2, this.2.2.2.1.2⟩)
  have HR0 := Lib.hid (show r0 g s = if vF g = true then (if at_ g s = -1 then 0 else at_ g s) else 0 from rfl)
  have HR1 := Lib.hid (show r1 g s = if vF g = true then (if at_ g s = -1 then 3 else 0) else 1 from rfl)
  have HCS := Lib.hid (fnd_cases (fun i => dStr (dFun (g 0) i 0)) s (dLen (g 0)))
  have HAT := Lib.hid (show at_ g s = fnd (fun i => dStr (dFun (g 0) i 0)) s (dLen (g 0)) from rfl)
  generalize r0 g s = x0 at *
  generalize r1 g s = x1 at *
  generalize at_ g s = k at *
  generalize vF g = vv at *
  clear hr e0 e1 e2 ht q1 q2 t1 t2 h1 h2
  generalize dLen (g 0) = n at *
  generalize dLen (g 1) = ns at *
  generalize dLen (g 2) = nn at *
  generalize dFun (g 0) = fc at *
  have Q0 := Lib.hid q0
  have T0 := Lib.hid t0
  clear q0 t0 h0
  cases vv
  · have X0 := Lib.hid (HR0.out.trans (if_neg (by simp)))
    have X1 := Lib.hid (HR1.out.trans (if_neg (by simp)))
    rw [X0.out, X1.out]
    clear HR0 HR1 X0 X1
    go_enter Try.func47, Try.ntmps47
    go_wp2_with fail
    refine HH.out.mono ?_
    rintro e w1 ⟨rfl, hb⟩
    have HB := Lib.hid (BL.out.trans (hb.mono BL.out.size))
    clear hb
    go_wp2
    go_ret2
    exact ⟨rfl, HB.out⟩
  · have X0 := Lib.hid (HR0.out.trans (if_pos rfl))
    have X1 := Lib.hid (HR1.out.trans (if_pos rfl))
    have HD2 := Lib.hid (HD.out rfl)
    clear HR0 HR1 HD
    have HP := Lib.hid (PL_has (fun i => dStr (fc i 0)) s n)
    have HA := Lib.hid (fun i => PL_at (fun i => dStr (fc i 0)) (.lit (.int .i64 0)) i n HD2.out.1)
    rcases HCS.out with ⟨i, hi, h1, h2⟩ | ⟨h1, h2⟩
    · have hhas := HP.out.2 ⟨i, hi, h2⟩
      have hat := HA.out i hi
      rw [h2] at hat
      have hki : k = (i : Int) := HAT.out.trans h1
      subst hki
      have Y0 := Lib.hid (X0.out.trans (if_neg (by omega)))
      have Y1 := Lib.hid (X1.out.trans (if_neg (by omega)))
      rw [Y0.out, Y1.out]
      have HAT2 := Lib.hid hat
      clear X0 X1 Y0 Y1 h1 h2 HCS HAT HP HA hat
      go_enter Try.func47, Try.ntmps47
      go_wp2_with fail
      refine HH.out.mono ?_
      rintro e w1 ⟨rfl, hb⟩
      have HB := Lib.hid (BL.out.trans (hb.mono BL.out.size))
      have hc := (hb.cell (p := ⟨w.heap.size, 0, none⟩) (by simp)).trans (show _ = some (.slice A0 n c0) by simp)
      clear hb
      go_wp2_with fail
      refine (places_calls A0 n c0 fc _ (by have := HD2.out.2; omega) (Q0.out.below HB.out) T0.out).mono ?_
      rintro e w2 ⟨rfl, hown, hb⟩
      have HB2 := Lib.hid (HB.out.trans (hb.mono HB.out.size))
      have hkey : keyOf Try.prog 9 (.string s) = some (.string s.data.toList) := keyOf_string_mk Try.underlying9 hs
      have hz := zeroInt w2
      clear hb hc
      generalize PL (fun i => dStr (fc i 0)) n = D at *
      go_wp2_with ((at_lookup; refine wpList_lookup_own_ok_int _ rfl _ _ 150 rfl 9 3 .i64 lawM Try.underlying150 Try.underlying3 hz w1.heap.size n D rfl hown _ _ rfl hkey ?_; intro c hca hwc))
      go_ret2
      have hci : c = (i : Int) := by
        rw [HAT2.out] at hca
        injection hca with hca
        injection hca with _ hca
        exact hca.symm
      subst hci
      exact ⟨rfl, HB2.out⟩
    · have hhas : has (PL (fun i => dStr (fc i 0)) n) (.string s.data.toList) = false := by
        cases h : has (PL (fun i => dStr (fc i 0)) n) (.string s.data.toList) with
        | false => rfl
        | true =>
          obtain ⟨i, hi, he⟩ := HP.out.1 h
          exact absurd he (h2 i hi)
      have hki : k = -1 := HAT.out.trans h1
      subst hki
      have Y0 := Lib.hid (X0.out.trans (if_pos rfl))
      have Y1 := Lib.hid (X1.out.trans (if_pos rfl))
      rw [Y0.out, Y1.out]
      clear X0 X1 Y0 Y1 h1 h2 HCS HAT HP HA
      go_enter Try.func47, Try.ntmps47
      go_wp2_with fail
      refine HH.out.mono ?_
      rintro e w1 ⟨rfl, hb⟩
      have HB := Lib.hid (BL.out.trans (hb.mono BL.out.size))
      have hc := (hb.cell (p := ⟨w.heap.size, 0, none⟩) (by simp)).trans (show _ = some (.slice A0 n c0) by simp)
      clear hb
      go_wp2_with fail
      refine (places_calls A0 n c0 fc _ (by have := HD2.out.2; omega) (Q0.out.below HB.out) T0.out).mono ?_
      rintro e w2 ⟨rfl, hown, hb⟩
      have HB2 := Lib.hid (HB.out.trans (hb.mono HB.out.size))
      have hkey : keyOf Try.prog 9 (.string s) = some (.string s.data.toList) := keyOf_string_mk Try.underlying9 hs
      have hz := zeroInt w2
      clear hb hc
      generalize PL (fun i => dStr (fc i 0)) n = D at *
      go_wp2_with ((at_lookup; refine wpList_lookup_own_ok_int _ rfl _ _ 150 rfl 9 3 .i64 lawM Try.underlying150 Try.underlying3 hz w1.heap.size n D rfl hown _ _ rfl hkey ?_; intro c hca hwc))
      go_ret2
      exact ⟨rfl, HB2.out⟩

end Go.Proofs.Ytnmlnlcbnjepkaa.wChannelNamed
