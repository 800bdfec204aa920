/-
  Proved: what both functions that ask whether a file is valid return (contracts of the exact laws of chapter 3).
  Conditions: the file is read out of memory.
-/
import Derived.Test.YtnmlnlcbnjepkaaFileJ
namespace Go.Proofs.Ytnmlnlcbnjepkaa.fileI
open Go.ChangeShapes Go.WideShapes Go.ChangeAt Go.RowKit Go.Joins Go.WideMaps Go.Maps
open Go.Proofs.Ytnmlnlcbnjepkaa.core Go.Proofs.Ytnmlnlcbnjepkaa.names Go.Proofs.Ytnmlnlcbnjepkaa.fileS
set_option linter.unusedVariables false
set_option linter.unusedSimpArgs false

def StrP (n : Nat) (fc : Nat → Nat → Dat) (m : Nat) (fr : Nat → Nat → Dat) : Prop := RowsP n fc fr m ∧ 1 ≤ m ∧ m ≤ 60

set_option maxRecDepth 100000 in
set_option maxHeartbeats 4000000 in
theorem misfits_calls (A0 : Option Addr) (n c0 : Nat) (v1 v2 : Value) (fc : Nat → Nat → Dat) (R : Option Addr) (m d : Nat) (fr : Nat → Nat → Dat) (w : World) (hn : n ≤ maxLen) (hm : m ≤ maxLen)
    (hc : RowsAt w A0 n 4 fc) (htc : tyChannelS (.sl n 4 fc)) (hr : RowsAt w R m 1 fr) (htr : tyInt64SS (.sl m 1 fr)) (v : Bool) (hv : tf (StrP n fc m fr) = !v) :
    Calls Try.prog 115 #[.agg #[.slice A0 n c0, v1, v2], .agg #[.slice R m d]] w fun e w' => e = .returned (.bool v) ∧ Below w.heap.size w w' := by
  have hm' : m ≤ 9223372036854775807 := by unfold maxLen at hm; omega
  have BL := Lib.hid (below_alloc2 w (.cells #[.slice A0 n c0, v1, v2] 35) (.cells #[.slice R m d] 82))
  have HC := Lib.hid hc
  have HR := Lib.hid hr
  have TC := Lib.hid htc
  have TR := Lib.hid htr
  have HV := Lib.hid hv
  clear hc hr htc htr hv hm
  by_cases h6 : 1 ≤ m ∧ m ≤ 60
  · have h1 : ¬ ((m : Int) < 1) := by omega
    have h2 : ¬ ((60 : Int) < (m : Int)) := by omega
    have d1 : decide ((m : Int) < 1) = false := decide_eq_false h1
    have d2 : decide ((60 : Int) < (m : Int)) = false := decide_eq_false h2
    have H6 := Lib.hid h6
    clear h6
    go_enter Try.func115, Try.ntmps115
    go_wp2
    go_loopw [20] (fun i w' => ∃ k : Nat, k ≤ m ∧ i = .int .i64 k ∧ Hid (RowsP n fc fr k) ∧ Hid (Below (w.heap.size + 1 + 1) ((w.alloc (.cells #[.slice A0 n c0, v1, v2] 35)).alloc (.cells #[.slice R m d] 82)) w')) (fun i _ => m - (intOf i).toNat)
    case atStart => exact ⟨0, Nat.zero_le _, rfl, Lib.hid all_zero, Lib.hid (Below.refl _ _)⟩
    case round =>
      clear d1 d2 h1 h2
      obtain ⟨k, hk, rfl, HA, HB⟩ := hrel
      have HBB := Lib.hid (BL.out.trans (HB.out.mono (by omega)))
      have zr : w.heap.size + 1 < wr.heap.size := by have := HB.out.size; simp at this; omega
      by_cases hlt : k < m
      · obtain ⟨b2, o2, rfl, hl2, ⟨A', c', s1, z1, ra, ta⟩⟩ := viewInt64SS (HR.out.below HBB.out) TR.out k hlt
        have hji : (k : Int) < (m : Int) := by omega
        have RA' := Lib.hid ra
        have TA' := Lib.hid ta
        have q0 := (HB.out.cell (p := ⟨w.heap.size, 0, none⟩) (by show w.heap.size < _; omega)).trans (show _ = some (.slice A0 n c0) by simp)
        clear ra ta
        by_cases h1 : RowP n fc (dLen (fr k 0)) (dFun (fr k 0))
        · have H1 := Lib.hid (tf_t h1)
          have HJ2 := Lib.hid (show RowsP n fc fr (k + 1) from all_step HA.out h1)
          clear h1
          generalize dLen (fr k 0) = m2 at s1 z1 RA' TA' H1
          generalize dFun (fr k 0) = f2 at RA' TA' H1
          go_wp2_with fail
          refine (fits_calls A0 n c0 fc A' m2 c' f2 _ z1 hn (HC.out.below HBB.out) TC.out RA'.out TA'.out true H1.out).mono ?_
          rintro e w2 ⟨rfl, hb2⟩
          have HB2 := Lib.hid (HB.out.trans (hb2.mono (by omega)))
          clear hb2 s1 q0
          go_wp2
          go_roundw
          case rel => exact ⟨k + 1, by omega, by go_num, HJ2, HB2⟩
          case measure => simp [intOf]; omega
        · have H1 := Lib.hid (tf_f h1)
          have hvv : v = true := by
            have := HV.out
            rw [tf_f (P := StrP n fc m fr) (fun h => h1 (h.1 k hlt))] at this
            simpa using this.symm
          subst hvv
          clear h1
          generalize dLen (fr k 0) = m2 at s1 z1 RA' TA' H1
          generalize dFun (fr k 0) = f2 at RA' TA' H1
          go_wp2_with fail
          refine (fits_calls A0 n c0 fc A' m2 c' f2 _ z1 hn (HC.out.below HBB.out) TC.out RA'.out TA'.out false H1.out).mono ?_
          rintro e w2 ⟨rfl, hb2⟩
          have HB2 := Lib.hid (HBB.out.trans (hb2.mono HBB.out.size))
          clear hb2 s1 q0
          go_wp2
          go_ret
          exact ⟨rfl, HB2.out⟩
      · obtain rfl : m = k := by omega
        have hvv : v = false := by
          have := HV.out
          rw [tf_t (P := StrP n fc m fr) ⟨HA.out, H6.out⟩] at this
          simpa using this.symm
        subst hvv
        go_wp2
        go_ret
        exact ⟨rfl, HBB.out⟩
  · have hvv : v = true := by
      have := HV.out
      rw [tf_f (P := StrP n fc m fr) (fun h => h6 h.2)] at this
      simpa using this.symm
    subst hvv
    by_cases h1 : (m : Int) < 1
    · go_enter Try.func115, Try.ntmps115
      go_wp2
      go_ret
      exact ⟨rfl, BL.out⟩
    · have h2 : (60 : Int) < (m : Int) := by omega
      have d2 : decide ((60 : Int) < (m : Int)) = true := decide_eq_true h2
      go_enter Try.func115, Try.ntmps115
      go_wp2
      go_ret
      exact ⟨rfl, BL.out⟩

set_option maxRecDepth 100000 in
set_option maxHeartbeats 4000000 in
theorem indexRows_calls (A0 : Option Addr) (n c0 : Nat) (v1 v2 : Value) (fc : Nat → Nat → Dat) (A1 : Option Addr) (ns c1 : Nat) (fs : Nat → Nat → Dat) (w : World) (hn : n ≤ maxLen) (hns : ns ≤ maxLen)
    (hc : RowsAt w A0 n 4 fc) (htc : tyChannelS (.sl n 4 fc)) (hr : RowsAt w A1 ns 1 fs) (htr : tyRowsS (.sl ns 1 fs)) :
    Calls Try.prog 154 #[.slice A1 ns c1, .func (.func 115) #[.agg #[.slice A0 n c0, v1, v2]] #[]] w fun e w' => (∃ r : Int, e = .returned (.int .i64 r) ∧ decide (0 ≤ r) = !tf (StrsP n fc fs ns)) ∧ Below w.heap.size w w' := by
  have hns' : ns ≤ 9223372036854775807 := by unfold maxLen at hns; omega
  have HC := Lib.hid hc
  have HR := Lib.hid hr
  have TC := Lib.hid htc
  have TR := Lib.hid htr
  clear hc hr htc htr hns
  go_enter Try.func154, Try.ntmps154
  go_wp2
  go_loopw [8] (fun i w' => ∃ k : Nat, k ≤ ns ∧ i = .int .i64 k ∧ Hid (StrsP n fc fs k) ∧ Hid (Below w.heap.size w w')) (fun i _ => ns - (intOf i).toNat)
  case atStart => exact ⟨0, Nat.zero_le _, rfl, Lib.hid all_zero, Lib.hid (Below.refl _ _)⟩
  case round =>
    obtain ⟨k, hk, rfl, HA, HB⟩ := hrel
    by_cases hlt : k < ns
    · obtain ⟨b1, o1, rfl, hl1, ⟨A, c, s0, z0, ra, ta⟩⟩ := viewRowsS (HR.out.below HB.out) TR.out k hlt
      have hli : (k : Int) < (ns : Int) := by omega
      have RA := Lib.hid ra
      have TA := Lib.hid ta
      clear ra ta
      by_cases h1 : StrP n fc (dLen (fs k 0)) (dFun (fs k 0))
      · have H1 := Lib.hid (show tf (StrP n fc (dLen (fs k 0)) (dFun (fs k 0))) = !false from tf_t h1)
        have HA2 := Lib.hid (show StrsP n fc fs (k + 1) from all_step HA.out h1)
        clear h1
        generalize dLen (fs k 0) = m at s0 z0 RA TA H1
        generalize dFun (fs k 0) = fr at RA TA H1
        go_wp2_with fail
        refine (misfits_calls A0 n c0 v1 v2 fc A m c fr _ hn z0 (HC.out.below HB.out) TC.out RA.out TA.out false H1.out).mono ?_
        rintro e w2 ⟨rfl, hb2⟩
        have HB2 := Lib.hid (HB.out.trans (hb2.mono HB.out.size))
        clear hb2 s0
        go_wp2
        go_roundw
        case rel => exact ⟨k + 1, by omega, by go_num, HA2, HB2⟩
        case measure => simp [intOf]; omega
      · have H1 := Lib.hid (show tf (StrP n fc (dLen (fs k 0)) (dFun (fs k 0))) = !true from tf_f h1)
        have HF := Lib.hid (tf_f (P := StrsP n fc fs ns) fun h => h1 (h k hlt))
        clear h1
        generalize dLen (fs k 0) = m at s0 z0 RA TA H1
        generalize dFun (fs k 0) = fr at RA TA H1
        go_wp2_with fail
        refine (misfits_calls A0 n c0 v1 v2 fc A m c fr _ hn z0 (HC.out.below HB.out) TC.out RA.out TA.out true H1.out).mono ?_
        rintro e w2 ⟨rfl, hb2⟩
        have HB2 := Lib.hid (HB.out.trans (hb2.mono HB.out.size))
        clear hb2 s0
        go_wp2
        go_ret
        exact ⟨⟨(k : Int), rfl, by rw [HF.out]; simp⟩, HB2.out⟩
    · obtain rfl : ns = k := by omega
      have HF := Lib.hid (tf_t HA.out)
      go_wp2
      go_ret
      exact ⟨⟨-1, rfl, by rw [HF.out]; rfl⟩, HB.out⟩

set_option maxRecDepth 100000 in
set_option maxHeartbeats 2000000 in
theorem containsRows_calls (A0 : Option Addr) (n c0 : Nat) (v1 v2 : Value) (fc : Nat → Nat → Dat) (A1 : Option Addr) (ns c1 : Nat) (fs : Nat → Nat → Dat) (w : World) (hn : n ≤ maxLen) (hns : ns ≤ maxLen)
    (hc : RowsAt w A0 n 4 fc) (htc : tyChannelS (.sl n 4 fc)) (hr : RowsAt w A1 ns 1 fs) (htr : tyRowsS (.sl ns 1 fs)) :
    Calls Try.prog 114 #[.slice A1 ns c1, .func (.func 115) #[.agg #[.slice A0 n c0, v1, v2]] #[]] w fun e w' => e = .returned (.bool (!tf (StrsP n fc fs ns))) ∧ Below w.heap.size w w' := by
  have HH := Lib.hid (indexRows_calls A0 n c0 v1 v2 fc A1 ns c1 fs w hn hns hc htc hr htr)
  clear hc htc hr htr
  go_enter Try.func114, Try.ntmps114
  go_wp2_with fail
  refine HH.out.mono ?_
  rintro e w1 ⟨⟨r, rfl, hr⟩, hb⟩
  have HR := Lib.hid hr
  have HB := Lib.hid hb
  clear hr hb
  go_wp2
  go_ret
  exact ⟨ret_bool HR.out, HB.out⟩

set_option maxRecDepth 100000 in
set_option maxHeartbeats 4000000 in
theorem indexNotes_calls (v0 v2 : Value) (A1 : Option Addr) (ns c1 : Nat) (A2 : Option Addr) (nn c2 : Nat) (fn : Nat → Nat → Dat) (w : World) (hns : ns ≤ maxLen) (hnn : nn ≤ maxLen) (hr : RowsAt w A2 nn 3 fn) (htr : tyNoteS (.sl nn 3 fn)) :
    Calls Try.prog 156 #[.slice A2 nn c2, .func (.func 117) #[.agg #[v0, .slice A1 ns c1, v2]] #[]] w fun e w' => (∃ r : Int, e = .returned (.int .i64 r) ∧ decide (0 ≤ r) = !tf (NotesP ns fn nn)) ∧ Below w.heap.size w w' := by
  have hnn' : nn ≤ 9223372036854775807 := by unfold maxLen at hnn; omega
  have HR := Lib.hid hr
  have TR := Lib.hid htr
  clear hr htr hnn
  go_enter Try.func156, Try.ntmps156
  go_wp2
  go_loopw [8] (fun i w' => ∃ k : Nat, k ≤ nn ∧ i = .int .i64 k ∧ Hid (NotesP ns fn k) ∧ Hid (Below w.heap.size w w')) (fun i _ => nn - (intOf i).toNat)
  case atStart => exact ⟨0, Nat.zero_le _, rfl, Lib.hid all_zero, Lib.hid (Below.refl _ _)⟩
  case round =>
    obtain ⟨k, hk, rfl, HA, HB⟩ := hrel
    by_cases hlt : k < nn
    · obtain ⟨b1, o1, rfl, hl1, ⟨s0, -⟩, ⟨s1, -⟩, ⟨s2, z2⟩⟩ := viewNoteS (HR.out.below HB.out) TR.out k hlt
      have hli : (k : Int) < (nn : Int) := by omega
      by_cases h1 : PlaceP ns (dInt (fn k 0)) (dInt (fn k 1)) ∧ nameB (dStr (fn k 2)) = true
      · have H1 := Lib.hid (show tf (PlaceP ns (dInt (fn k 0)) (dInt (fn k 1)) ∧ nameB (dStr (fn k 2)) = true) = !false from tf_t h1)
        have HA2 := Lib.hid (show NotesP ns fn (k + 1) from all_step HA.out h1)
        clear h1
        generalize dInt (fn k 0) = x at s0 H1
        generalize dInt (fn k 1) = y at s1 H1
        generalize dStr (fn k 2) = t at s2 z2 H1
        go_wp2_with fail
        refine (refuses_calls v0 v2 A1 ns c1 x y t _ hns z2 false H1.out).mono ?_
        rintro e w2 ⟨rfl, hb2⟩
        have HB2 := Lib.hid (HB.out.trans (hb2.mono HB.out.size))
        clear hb2 s0 s1 s2
        go_wp2
        go_roundw
        case rel => exact ⟨k + 1, by omega, by go_num, HA2, HB2⟩
        case measure => simp [intOf]; omega
      · have H1 := Lib.hid (show tf (PlaceP ns (dInt (fn k 0)) (dInt (fn k 1)) ∧ nameB (dStr (fn k 2)) = true) = !true from tf_f h1)
        have HF := Lib.hid (tf_f (P := NotesP ns fn nn) fun h => h1 (h k hlt))
        clear h1
        generalize dInt (fn k 0) = x at s0 H1
        generalize dInt (fn k 1) = y at s1 H1
        generalize dStr (fn k 2) = t at s2 z2 H1
        go_wp2_with fail
        refine (refuses_calls v0 v2 A1 ns c1 x y t _ hns z2 true H1.out).mono ?_
        rintro e w2 ⟨rfl, hb2⟩
        have HB2 := Lib.hid (HB.out.trans (hb2.mono HB.out.size))
        clear hb2 s0 s1 s2
        go_wp2
        go_ret
        exact ⟨⟨(k : Int), rfl, by rw [HF.out]; simp⟩, HB2.out⟩
    · obtain rfl : nn = k := by omega
      have HF := Lib.hid (tf_t HA.out)
      go_wp2
      go_ret
      exact ⟨⟨-1, rfl, by rw [HF.out]; rfl⟩, HB.out⟩

set_option maxRecDepth 100000 in
set_option maxHeartbeats 2000000 in
theorem containsNotes_calls (v0 v2 : Value) (A1 : Option Addr) (ns c1 : Nat) (A2 : Option Addr) (nn c2 : Nat) (fn : Nat → Nat → Dat) (w : World) (hns : ns ≤ maxLen) (hnn : nn ≤ maxLen) (hr : RowsAt w A2 nn 3 fn) (htr : tyNoteS (.sl nn 3 fn)) :
    Calls Try.prog 116 #[.slice A2 nn c2, .func (.func 117) #[.agg #[v0, .slice A1 ns c1, v2]] #[]] w fun e w' => e = .returned (.bool (!tf (NotesP ns fn nn))) ∧ Below w.heap.size w w' := by
  have HH := Lib.hid (indexNotes_calls v0 v2 A1 ns c1 A2 nn c2 fn w hns hnn hr htr)
  clear hr htr
  go_enter Try.func116, Try.ntmps116
  go_wp2_with fail
  refine HH.out.mono ?_
  rintro e w1 ⟨⟨r, rfl, hr⟩, hb⟩
  have HR := Lib.hid hr
  have HB := Lib.hid hb
  clear hr hb
  go_wp2
  go_ret
  exact ⟨ret_bool HR.out, HB.out⟩
end Go.Proofs.Ytnmlnlcbnjepkaa.fileI
