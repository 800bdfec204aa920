/-
  Proved: what the document's function that asks whether a file is valid returns (a contract of the exact laws of chapter 3).
  Conditions: the file is read out of memory.
-/
import Derived.Test.YtnmlnlcbnjepkaaFileS
namespace Go.Proofs.Ytnmlnlcbnjepkaa.fileS
open Go.ChangeShapes Go.WideShapes Go.ChangeAt Go.RowKit Go.Joins
open Go.Proofs.Ytnmlnlcbnjepkaa.core Go.Proofs.Ytnmlnlcbnjepkaa.names
set_option linter.unusedVariables false
set_option linter.unusedSimpArgs false

def ChansP (n : Nat) (fc : Nat → Nat → Dat) (k : Nat) : Prop := ∀ i, i < k → ChP (dStr (fc i 0)) (dStr (fc i 1)) (dInt (fc i 2)) (dInt (fc i 3)) ∧ fnd (fun j => dStr (fc j 0)) (dStr (fc i 0)) n = (i : Int)
/-- The rows of a stroke fit. -/
def RowsP (n : Nat) (fc : Nat → Nat → Dat) (fr : Nat → Nat → Dat) (k : Nat) : Prop := ∀ j, j < k → RowP n fc (dLen (fr j 0)) (dFun (fr j 0))
def StrsP (n : Nat) (fc : Nat → Nat → Dat) (fs : Nat → Nat → Dat) (k : Nat) : Prop := ∀ i, i < k → RowsP n fc (dFun (fs i 0)) (dLen (fs i 0)) ∧ 1 ≤ dLen (fs i 0) ∧ dLen (fs i 0) ≤ 60
def NotesP (ns : Nat) (fn : Nat → Nat → Dat) (k : Nat) : Prop := ∀ i, i < k → PlaceP ns (dInt (fn i 0)) (dInt (fn i 1)) ∧ nameB (dStr (fn i 2)) = true
def FileP (n : Nat) (fc : Nat → Nat → Dat) (ns : Nat) (fs : Nat → Nat → Dat) (nn : Nat) (fn : Nat → Nat → Dat) : Prop :=
  ChansP n fc n ∧ StrsP n fc fs ns ∧ NotesP ns fn nn ∧ (1 ≤ n ∧ n ≤ 6) ∧ ns ≤ 16 ∧ nn ≤ 12
theorem all_step {P : Nat → Prop} {k : Nat} (h : ∀ i, i < k → P i) (hk : P k) : ∀ i, i < k + 1 → P i := fun i hi => by
  rcases Nat.lt_or_ge i k with h' | h'
  · exact h i h'
  · obtain rfl : i = k := by omega
    exact hk
theorem all_zero {P : Nat → Prop} : ∀ i, i < 0 → P i := fun i hi => absurd hi (by omega)

set_option maxRecDepth 100000 in
set_option maxHeartbeats 8000000 in
theorem ok_calls (b o : Nat) (A0 A1 A2 : Option Addr) (n c0 ns c1 nn c2 : Nat) (fc fs fn : Nat → Nat → Dat) (w : World) (hb : b < w.heap.size) (hn : n ≤ maxLen) (hns : ns ≤ maxLen) (hnn : nn ≤ maxLen)
    (q0 : w.cell? ⟨b, o, none⟩ = some (.slice A0 n c0)) (q1 : w.cell? ⟨b, o + 1, none⟩ = some (.slice A1 ns c1)) (q2 : w.cell? ⟨b, o + 2, none⟩ = some (.slice A2 nn c2))
    (r0 : RowsAt w A0 n 4 fc) (t0 : tyChannelS (.sl n 4 fc)) (r1 : RowsAt w A1 ns 1 fs) (t1 : tyRowsS (.sl ns 1 fs)) (r2 : RowsAt w A2 nn 3 fn) (t2 : tyNoteS (.sl nn 3 fn)) :
    Calls Try.prog 42 #[.pointer (some ⟨b, o, none⟩)] w fun e w' => e = .returned (.bool (tf (FileP n fc ns fs nn fn))) ∧ Below w.heap.size w w' := by
  have hn' : n ≤ 9223372036854775807 := by unfold maxLen at hn; omega
  have hns' : ns ≤ 9223372036854775807 := by unfold maxLen at hns; omega
  have hnn' : nn ≤ 9223372036854775807 := by unfold maxLen at hnn; omega
  have Q0 := Lib.hid q0
  have Q1 := Lib.hid q1
  have Q2 := Lib.hid q2
  have R0 := Lib.hid r0
  have R1 := Lib.hid r1
  have R2 := Lib.hid r2
  have T0 := Lib.hid t0
  have T1 := Lib.hid t1
  have T2 := Lib.hid t2
  clear q1 q2 r0 r1 r2 t0 t1 t2
  go_enter Try.func42, Try.ntmps42
  go_wp2
  clear q0
  go_loopw [3] (fun i w' => ∃ k : Nat, k ≤ n ∧ i = .int .i64 (k : Int) ∧ Hid (ChansP n fc k) ∧ Hid (Below w.heap.size w w')) (fun i _ => n - (intOf i).toNat)
  case atStart => exact ⟨0, Nat.zero_le _, rfl, Lib.hid all_zero, Lib.hid (Below.refl _ _)⟩
  case round =>
    obtain ⟨k, hk, rfl, HA, HB⟩ := hrel
    have q0 := (HB.out.cell (p := ⟨b, o, none⟩) hb).trans Q0.out
    have hbz : b < wr.heap.size := Nat.lt_of_lt_of_le hb HB.out.size
    by_cases hlt : k < n
    · obtain ⟨b1, o1, rfl, hl1, ⟨s0, z0⟩, ⟨s1, z1⟩, ⟨s2, -⟩, ⟨s3, -⟩⟩ := viewChannelS (R0.out.below HB.out) T0.out k hlt
      have hli : (k : Int) < (n : Int) := by omega
      have HV := Lib.hid (show tf (ChP (dStr (fc k 0)) (dStr (fc k 1)) (dInt (fc k 2)) (dInt (fc k 3))) = tf (ChP (dStr (fc k 0)) (dStr (fc k 1)) (dInt (fc k 2)) (dInt (fc k 3))) from rfl)
      have S1 := Lib.hid s1
      have S2 := Lib.hid s2
      have S3 := Lib.hid s3
      have S0 := Lib.hid s0
      clear s1 s2 s3
      by_cases h1 : ChP (dStr (fc k 0)) (dStr (fc k 1)) (dInt (fc k 2)) (dInt (fc k 3))
      · have H1 := Lib.hid (tf_t h1)
        go_wp2_with fail
        refine (channel_calls b1 (o1 + k * 4) _ _ _ _ _ hl1 S0.out S1.out S2.out S3.out z0 z1 true H1.out).mono ?_
        rintro e w2 ⟨rfl, hb2⟩
        have HB2 := Lib.hid (HB.out.trans (hb2.mono HB.out.size))
        have d0 := (hb2.cell (p := ⟨b, o, none⟩) hbz).trans q0
        have d1 := (hb2.cell (p := ⟨b1, o1 + k * 4, none⟩) hl1).trans S0.out
        clear hb2 q0 s0
        generalize hnm : fnd (fun j => dStr (fc j 0)) (dStr (fc k 0)) n = r
        have HR := Lib.hid hnm
        go_wp2_with fail
        refine (find_calls b o (some ⟨b1, o1, none⟩) n c0 (fun j => dStr (fc j 0)) (dStr (fc k 0)) _ hn ((HB2.out.cell (p := ⟨b, o, none⟩) hb).trans Q0.out) (fun i hi => by
          obtain ⟨b3, o3, e3, hl3, ⟨s3, -⟩, -⟩ := viewChannelS (R0.out.below HB2.out) T0.out i hi
          exact ⟨b3, o3, e3, hl3, s3⟩)).mono ?_
        rintro e w3 ⟨rfl, hb3⟩
        have HB3 := Lib.hid (HB2.out.trans (hb3.mono HB2.out.size))
        clear hb3 d0 d1
        rw [HR.out]
        clear hnm
        by_cases he : r = (k : Int)
        · subst he
          have HA2 := Lib.hid (show ChansP n fc (k + 1) from all_step HA.out ⟨h1, HR.out⟩)
          clear h1
          go_wp2
          go_roundw
          case rel => exact ⟨k + 1, by omega, by go_num, HA2, HB3⟩
          case measure => simp [intOf]; omega
        · have HF := Lib.hid (tf_f (P := FileP n fc ns fs nn fn) fun h => he (by rw [← HR.out]; exact (h.1 k hlt).2))
          have hne : (r != (k : Int)) = true := by simp; omega
          clear h1
          go_wp2
          go_ret
          exact ⟨ret_bool HF.out.symm, HB3.out⟩
      · have H1 := Lib.hid (tf_f h1)
        have HF := Lib.hid (tf_f (P := FileP n fc ns fs nn fn) fun h => h1 (h.1 k hlt).1)
        clear h1
        go_wp2_with fail
        refine (channel_calls b1 (o1 + k * 4) _ _ _ _ _ hl1 S0.out S1.out S2.out S3.out z0 z1 false H1.out).mono ?_
        rintro e w2 ⟨rfl, hb2⟩
        have HB2 := Lib.hid (HB.out.trans (hb2.mono HB.out.size))
        clear hb2 q0 s0
        go_wp2
        go_ret
        exact ⟨ret_bool HF.out.symm, HB2.out⟩
    · obtain rfl : n = k := by omega
      have HCH := HA
      clear HA hlt hk
      go_wp2
      obtain ⟨wo, rfl⟩ : ∃ wo : World, wo = wr := ⟨_, rfl⟩
      clear q0 hbz
      go_loopw [4] (fun i w' => ∃ k : Nat, k ≤ ns ∧ i = .int .i64 (k : Int) ∧ Hid (StrsP n fc fs k) ∧ Hid (Below w.heap.size w w')) (fun i _ => ns - (intOf i).toNat)
      case atStart => exact ⟨0, Nat.zero_le _, rfl, Lib.hid all_zero, HB⟩
      case round =>
        clear HB
        obtain ⟨k, hk, rfl, HA, HB⟩ := hrel
        have q1 := (HB.out.cell (p := ⟨b, o + 1, none⟩) hb).trans Q1.out
        by_cases hlt : k < ns
        · obtain ⟨b1, o1, rfl, hl1, ⟨A, c, s0, z0, ra, ta⟩⟩ := viewRowsS (R1.out.below HB.out) T1.out k hlt
          have hli : (k : Int) < (ns : Int) := by omega
          have RA := Lib.hid ra
          have TA := Lib.hid ta
          generalize hm : dLen (fs k 0) = m at s0 z0 RA TA
          generalize hf : dFun (fs k 0) = fr at RA TA
          have HM := Lib.hid hm
          have HFR := Lib.hid hf
          have z0' : m ≤ 9223372036854775807 := by unfold maxLen at z0; omega
          clear ra ta hm hf
          go_wp2
          obtain ⟨wp, rfl⟩ : ∃ wp : World, wp = wr := ⟨_, rfl⟩
          clear q1 s0
          go_loopw [6] (fun i w' => ∃ j : Nat, j ≤ m ∧ i = .int .i64 (j : Int) ∧ Hid (RowsP n fc fr j) ∧ Hid (Below wp.heap.size wp w')) (fun i _ => m - (intOf i).toNat)
          case atStart => exact ⟨0, Nat.zero_le _, rfl, Lib.hid all_zero, Lib.hid (Below.refl _ _)⟩
          case round =>
            obtain ⟨j, hj, rfl, HJ, HW⟩ := hrel
            have HBW := Lib.hid (HB.out.trans (HW.out.mono HB.out.size))
            by_cases hjl : j < m
            · obtain ⟨b2, o2, rfl, hl2, ⟨A', c', s1, z1, ra, ta⟩⟩ := viewInt64SS (RA.out.below HW.out) TA.out j hjl
              have hji : (j : Int) < (m : Int) := by omega
              have RA' := Lib.hid ra
              have TA' := Lib.hid ta
              clear ra ta
              have hbz : b < wr.heap.size := Nat.lt_of_lt_of_le hb HBW.out.size
              have d0 := Lib.hid ((HBW.out.cell (p := ⟨b, o, none⟩) hb).trans Q0.out)
              by_cases h1 : RowP n fc (dLen (fr j 0)) (dFun (fr j 0))
              · have H1 := Lib.hid (tf_t h1)
                have HJ2 := Lib.hid (show RowsP n fc fr (j + 1) from all_step HJ.out h1)
                clear h1
                generalize dLen (fr j 0) = m2 at s1 z1 RA' TA' H1
                generalize dFun (fr j 0) = f2 at RA' TA' H1
                go_wp2_with fail
                refine (row_calls b o A0 n c0 fc A' m2 c' f2 _ hbz z1 hn d0.out (R0.out.below HBW.out) T0.out RA'.out TA'.out true H1.out).mono ?_
                rintro e w2 ⟨rfl, hb2⟩
                have HW2 := Lib.hid (HW.out.trans (hb2.mono HW.out.size))
                clear hb2 s1
                go_wp2
                go_roundw
                case rel => exact ⟨j + 1, by omega, by go_num, HJ2, HW2⟩
                case measure => simp [intOf]; omega
              · have H1 := Lib.hid (tf_f h1)
                have HF := Lib.hid (tf_f (P := FileP n fc ns fs nn fn) fun h => h1 (by
                  have h2 := (h.2.1 k hlt).1
                  rw [HM.out, HFR.out] at h2
                  exact h2 j hjl))
                clear h1
                generalize dLen (fr j 0) = m2 at s1 z1 RA' TA' H1
                generalize dFun (fr j 0) = f2 at RA' TA' H1
                go_wp2_with fail
                refine (row_calls b o A0 n c0 fc A' m2 c' f2 _ hbz z1 hn d0.out (R0.out.below HBW.out) T0.out RA'.out TA'.out false H1.out).mono ?_
                rintro e w2 ⟨rfl, hb2⟩
                have HW2 := Lib.hid (HBW.out.trans (hb2.mono HBW.out.size))
                clear hb2 s1
                go_wp2
                go_ret
                exact ⟨ret_bool HF.out.symm, HW2.out⟩
            · obtain rfl : m = j := by omega
              by_cases h1 : 1 ≤ m ∧ m ≤ 60
              · have H1 := Lib.hid (tf_t (P := (1 : Int) ≤ (m : Int) ∧ (m : Int) ≤ 60) ⟨by omega, by omega⟩)
                have HA2 := Lib.hid (show StrsP n fc fs (k + 1) from all_step HA.out ⟨by rw [HM.out, HFR.out]; exact HJ.out, by rw [HM.out]; exact h1⟩)
                clear h1 hj hjl
                go_wp2_with fail
                refine (in_calls _ _ _ _ true H1.out).mono ?_
                rintro e w2 ⟨rfl, hb2⟩
                have HB2 := Lib.hid (HBW.out.trans (hb2.mono HBW.out.size))
                clear hb2
                go_wp2
                go_roundw
                case rel => exact ⟨k + 1, by omega, by go_num, HA2, HB2⟩
                case measure => simp [intOf]; omega
              · have H1 := Lib.hid (tf_f (P := (1 : Int) ≤ (m : Int) ∧ (m : Int) ≤ 60) fun h => h1 ⟨by omega, by omega⟩)
                have HF := Lib.hid (tf_f (P := FileP n fc ns fs nn fn) fun h => h1 (by
                  have h2 := (h.2.1 k hlt).2
                  rw [HM.out] at h2
                  exact h2))
                clear h1 hj hjl
                go_wp2_with fail
                refine (in_calls _ _ _ _ false H1.out).mono ?_
                rintro e w2 ⟨rfl, hb2⟩
                have HB2 := Lib.hid (HBW.out.trans (hb2.mono HBW.out.size))
                clear hb2
                go_wp2
                go_ret
                exact ⟨ret_bool HF.out.symm, HB2.out⟩
        · obtain rfl : ns = k := by omega
          have HST := HA
          clear HA hlt hk
          go_wp2
          obtain ⟨wq, rfl⟩ : ∃ wq : World, wq = wr := ⟨_, rfl⟩
          clear q1
          go_loopw [7] (fun i w' => ∃ k : Nat, k ≤ nn ∧ i = .int .i64 (k : Int) ∧ Hid (NotesP ns fn k) ∧ Hid (Below w.heap.size w w')) (fun i _ => nn - (intOf i).toNat)
          case atStart => exact ⟨0, Nat.zero_le _, rfl, Lib.hid all_zero, HB⟩
          case round =>
            clear HB
            obtain ⟨k, hk, rfl, HA, HB⟩ := hrel
            have q2 := (HB.out.cell (p := ⟨b, o + 2, none⟩) hb).trans Q2.out
            have hbz : b < wr.heap.size := Nat.lt_of_lt_of_le hb HB.out.size
            by_cases hlt : k < nn
            · obtain ⟨b1, o1, rfl, hl1, ⟨s0, -⟩, ⟨s1, -⟩, ⟨s2, z2⟩⟩ := viewNoteS (R2.out.below HB.out) T2.out k hlt
              have hli : (k : Int) < (nn : Int) := by omega
              have S0 := Lib.hid s0
              have S1 := Lib.hid s1
              have S2 := Lib.hid s2
              have d1 := Lib.hid ((HB.out.cell (p := ⟨b, o + 1, none⟩) hb).trans Q1.out)
              clear s0 s1 s2
              by_cases h1 : PlaceP ns (dInt (fn k 0)) (dInt (fn k 1))
              · have H1 := Lib.hid (tf_t h1)
                go_wp2_with fail
                refine (place_calls b o b1 (o1 + k * 3) A1 ns c1 _ _ _ hbz hl1 hns d1.out S0.out S1.out true H1.out).mono ?_
                rintro e w2 ⟨rfl, hb2⟩
                have HB2 := Lib.hid (HB.out.trans (hb2.mono HB.out.size))
                have q2' := (hb2.cell (p := ⟨b, o + 2, none⟩) hbz).trans q2
                have s2 := (hb2.cell (p := ⟨b1, o1 + k * 3 + 2, none⟩) hl1).trans S2.out
                clear hb2 q2
                by_cases h2 : nameB (dStr (fn k 2)) = true
                · have H2 := Lib.hid h2
                  have HA2 := Lib.hid (show NotesP ns fn (k + 1) from all_step HA.out ⟨h1, h2⟩)
                  clear h1 h2
                  generalize dStr (fn k 2) = s at s2 z2 H2
                  go_wp2_with fail
                  refine (name_b s _ z2 true H2.out).mono ?_
                  rintro e w3 ⟨rfl, hb3⟩
                  have HB3 := Lib.hid (HB2.out.trans (hb3.mono HB2.out.size))
                  clear hb3 s2 q2'
                  go_wp2
                  go_roundw
                  case rel => exact ⟨k + 1, by omega, by go_num, HA2, HB3⟩
                  case measure => simp [intOf]; omega
                · have HF := Lib.hid (tf_f (P := FileP n fc ns fs nn fn) fun h => h2 (h.2.2.1 k hlt).2)
                  have H2 := Lib.hid (show nameB (dStr (fn k 2)) = false by simpa using h2)
                  clear h1 h2
                  generalize dStr (fn k 2) = s at s2 z2 H2
                  go_wp2_with fail
                  refine (name_b s _ z2 false H2.out).mono ?_
                  rintro e w3 ⟨rfl, hb3⟩
                  have HB3 := Lib.hid (HB2.out.trans (hb3.mono HB2.out.size))
                  clear hb3 s2 q2'
                  go_wp2
                  go_ret
                  exact ⟨ret_bool HF.out.symm, HB3.out⟩
              · have H1 := Lib.hid (tf_f h1)
                have HF := Lib.hid (tf_f (P := FileP n fc ns fs nn fn) fun h => h1 (h.2.2.1 k hlt).1)
                clear h1
                go_wp2_with fail
                refine (place_calls b o b1 (o1 + k * 3) A1 ns c1 _ _ _ hbz hl1 hns d1.out S0.out S1.out false H1.out).mono ?_
                rintro e w2 ⟨rfl, hb2⟩
                have HB2 := Lib.hid (HB.out.trans (hb2.mono HB.out.size))
                clear hb2 q2
                go_wp2
                go_ret
                exact ⟨ret_bool HF.out.symm, HB2.out⟩
            · obtain rfl : nn = k := by omega
              have HF := Lib.hid (show tf (FileP n fc ns fs nn fn) = (decide (1 ≤ n ∧ n ≤ 6) && decide (ns ≤ 16) && decide (nn ≤ 12)) by
                rw [Bool.eq_iff_iff, tf_iff]
                simp only [Bool.and_eq_true, decide_eq_true_eq]
                exact ⟨fun h => ⟨⟨h.2.2.2.1, h.2.2.2.2.1⟩, h.2.2.2.2.2⟩, fun h => ⟨HCH.out, HST.out, HA.out, h.1.1, h.1.2, h.2⟩⟩)
              have q0 := (HB.out.cell (p := ⟨b, o, none⟩) hb).trans Q0.out
              have q1 := (HB.out.cell (p := ⟨b, o + 1, none⟩) hb).trans Q1.out
              clear HCH HST HA hlt hk
              by_cases h1 : 1 ≤ n ∧ n ≤ 6
              · have H1 := Lib.hid (tf_t (P := (1 : Int) ≤ (n : Int) ∧ (n : Int) ≤ 6) ⟨by omega, by omega⟩)
                have e1 : decide (1 ≤ n ∧ n ≤ 6) = true := decide_eq_true h1
                clear h1
                by_cases h2 : ns ≤ 16
                · by_cases h3 : nn ≤ 12
                  · have e2 : decide (ns ≤ 16) = true := decide_eq_true h2
                    have e3 : decide (nn ≤ 12) = true := decide_eq_true h3
                    have i2 : decide ((ns : Int) ≤ 16) = true := decide_eq_true (by omega)
                    have i3 : decide ((nn : Int) ≤ 12) = true := decide_eq_true (by omega)
                    have HG := Lib.hid (HF.out.trans (by rw [e1, e2, e3]))
                    clear h2 h3 e2 e3 e1 HF
                    go_wp2_with fail
                    refine (in_calls _ _ _ _ true H1.out).mono ?_
                    rintro e w2 ⟨rfl, hb2⟩
                    have HB2 := Lib.hid (HB.out.trans (hb2.mono HB.out.size))
                    replace q1 := (hb2.cell (p := ⟨b, o + 1, none⟩) hbz).trans q1
                    replace q2 := (hb2.cell (p := ⟨b, o + 2, none⟩) hbz).trans q2
                    clear hb2 q0
                    go_wp2
                    go_ret
                    exact ⟨ret_bool HG.out.symm, HB2.out⟩
                  · have e2 : decide (ns ≤ 16) = true := decide_eq_true h2
                    have e3 : decide (nn ≤ 12) = false := decide_eq_false h3
                    have i2 : decide ((ns : Int) ≤ 16) = true := decide_eq_true (by omega)
                    have i3 : decide ((nn : Int) ≤ 12) = false := decide_eq_false (by omega)
                    have HG := Lib.hid (HF.out.trans (by rw [e1, e2, e3]))
                    clear h2 h3 e2 e3 e1 HF
                    go_wp2_with fail
                    refine (in_calls _ _ _ _ true H1.out).mono ?_
                    rintro e w2 ⟨rfl, hb2⟩
                    have HB2 := Lib.hid (HB.out.trans (hb2.mono HB.out.size))
                    replace q1 := (hb2.cell (p := ⟨b, o + 1, none⟩) hbz).trans q1
                    replace q2 := (hb2.cell (p := ⟨b, o + 2, none⟩) hbz).trans q2
                    clear hb2 q0
                    go_wp2
                    go_ret
                    exact ⟨ret_bool HG.out.symm, HB2.out⟩
                · have e2 : decide (ns ≤ 16) = false := decide_eq_false h2
                  have i2 : decide ((ns : Int) ≤ 16) = false := decide_eq_false (by omega)
                  have HG := Lib.hid (HF.out.trans (by rw [e1, e2]))
                  clear h2 e2 e1 HF
                  go_wp2_with fail
                  refine (in_calls _ _ _ _ true H1.out).mono ?_
                  rintro e w2 ⟨rfl, hb2⟩
                  have HB2 := Lib.hid (HB.out.trans (hb2.mono HB.out.size))
                  replace q1 := (hb2.cell (p := ⟨b, o + 1, none⟩) hbz).trans q1
                  replace q2 := (hb2.cell (p := ⟨b, o + 2, none⟩) hbz).trans q2
                  clear hb2 q0
                  go_wp2
                  go_ret
                  exact ⟨ret_bool HG.out.symm, HB2.out⟩
              · have H1 := Lib.hid (tf_f (P := (1 : Int) ≤ (n : Int) ∧ (n : Int) ≤ 6) fun h => h1 ⟨by omega, by omega⟩)
                have e1 : decide (1 ≤ n ∧ n ≤ 6) = false := decide_eq_false h1
                have HG := Lib.hid (HF.out.trans (by rw [e1]))
                clear h1 e1 HF
                go_wp2_with fail
                refine (in_calls _ _ _ _ false H1.out).mono ?_
                rintro e w2 ⟨rfl, hb2⟩
                have HB2 := Lib.hid (HB.out.trans (hb2.mono HB.out.size))
                clear hb2 q0
                go_wp2
                go_ret
                exact ⟨ret_bool HG.out.symm, HB2.out⟩
end Go.Proofs.Ytnmlnlcbnjepkaa.fileS
