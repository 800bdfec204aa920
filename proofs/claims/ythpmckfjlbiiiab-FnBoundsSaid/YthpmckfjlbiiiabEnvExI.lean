/-
  Proved: what the program's function that returns an envelope returns.
  Conditions: none.
-/
import Derived.Test.YthpmckfjlbiiiabEnvEx
import Derived.Test.YthpmckfjlbiiiabEnvI
namespace Go.Proofs.Ythpmckfjlbiiiab.env
open Go.ChangeShapes Go.WideShapes Go.ChangeAt Go.RowKit Go.Joins
open Go.Proofs.Ythpmckfjlbiiiab.core Go.Proofs.Ythpmckfjlbiiiab.rown Go.Proofs.Ythpmckfjlbiiiab.stk Go.Proofs.Ythpmckfjlbiiiab.boxed Go.Proofs.Ythpmckfjlbiiiab.ft Go.Proofs.Ythpmckfjlbiiiab.seq Go.Proofs.Ythpmckfjlbiiiab.tab
set_option linter.unusedVariables false
set_option linter.unusedSimpArgs false
set_option maxRecDepth 100000 in
set_option maxHeartbeats 8000000 in
theorem envelopeI_no {cb : Nat} (B : Option Addr) (m : Nat) (fb : Nat → P3) (n band : Int) (w : World) (hm : m ≤ 1048576) (pb : PtsAt w B m fb) (h0 : envC m fb n band ≠ 0) :
    Calls Try.prog 14 #[.slice B m cb, .int .i64 n, .int .i64 band] w fun e w' => e = .returned (.tuple #[.agg #[.slice none 0 0, .slice none 0 0, .slice none 0 0, .slice none 0 0], .int .i64 (envC m fb n band)]) ∧ Below w.heap.size w w' := by
  have BA := Lib.hid (below_alloc1 w (.cells #[.slice none 0 0, .slice none 0 0, .slice none 0 0, .slice none 0 0] 32))
  have K0 := Lib.hid (heap_alloc_new w (.cells #[.slice none 0 0, .slice none 0 0, .slice none 0 0, .slice none 0 0] 32))
  have HQ := Lib.hid (okQI (c := cb) B m fb _ hm (pb.kept BA.out))
  clear pb
  cases vb : okQ m fb with
  | false =>
    have HC := Lib.hid (show envC m fb n band = 1 by unfold envC; rw [vb]; rfl)
    rw [vb] at HQ
    rw [HC.out]
    clear vb HC h0
    go_enter Try.func14, Try.ntmps14
    go_wp2_with fail
    refine HQ.out.mono ?_
    rintro e w1 ⟨rfl, hb1⟩
    have KR := Lib.hid ((hb1.block _ (block_size K0.out)).trans K0.out)
    have B1 := Lib.hid (BA.out.trans (hb1.mono BA.out.size))
    have hl := block_size KR.out
    have r0 := cell_of_block KR.out 0
    have r1 := cell_of_block KR.out 1
    have r2 := cell_of_block KR.out 2
    have r3 := cell_of_block KR.out 3
    simp at r0 r1 r2 r3
    have q0 := unfrozen_of_block KR.out 0
    have q1 := unfrozen_of_block KR.out 1
    have q2 := unfrozen_of_block KR.out 2
    have q3 := unfrozen_of_block KR.out 3
    clear hb1
    go_wp2
    exact bodyPost_ret (v := .tuple #[.agg #[.slice none 0 0, .slice none 0 0, .slice none 0 0, .slice none 0 0], .int .i64 1]) (by simp [results, Try.results14, go_sem, r0, r1, r2, r3]) rfl
      ⟨rfl, (((B1.out.setCell (Nat.le_refl _) _).setCell (Nat.le_refl _) _).setCell (Nat.le_refl _) _).setCell (Nat.le_refl _) _⟩
  | true =>
    have hC : envC m fb n band = 2 := by
      unfold envC at h0 ⊢
      rw [vb] at h0 ⊢
      simp only [if_true] at h0 ⊢
      split
      · rename_i h; rw [if_pos h] at h0; exact absurd rfl h0
      · rfl
    rw [vb] at HQ
    have hno : ¬ ((1 ≤ n ∧ n ≤ 72) ∧ bandOk n m band = true) := fun h => by
      unfold envC at hC
      rw [vb] at hC
      simp only [if_true] at hC
      rw [if_pos h] at hC
      cases hC
    have HC := Lib.hid hC
    rw [HC.out]
    clear vb hC h0 HC
    have hu : undef = Value.tuple #[] := rfl
    by_cases hn1 : n < 1
    · have h1d : decide (n < 1) = true := decide_eq_true hn1
      clear hno
      go_enter Try.func14, Try.ntmps14
      go_wp2_with fail
      refine HQ.out.mono ?_
      rintro e w1 ⟨rfl, hb1⟩
      have KR := Lib.hid ((hb1.block _ (block_size K0.out)).trans K0.out)
      have B1 := Lib.hid (BA.out.trans (hb1.mono BA.out.size))
      clear hb1
      have hl := block_size KR.out
      have r0 := cell_of_block KR.out 0
      have r1 := cell_of_block KR.out 1
      have r2 := cell_of_block KR.out 2
      have r3 := cell_of_block KR.out 3
      simp at r0 r1 r2 r3
      have q0 := unfrozen_of_block KR.out 0
      have q1 := unfrozen_of_block KR.out 1
      have q2 := unfrozen_of_block KR.out 2
      have q3 := unfrozen_of_block KR.out 3
      go_wp2
      exact bodyPost_ret (v := .tuple #[.agg #[.slice none 0 0, .slice none 0 0, .slice none 0 0, .slice none 0 0], .int .i64 2]) (by simp [results, Try.results14, go_sem, r0, r1, r2, r3]) rfl
        ⟨rfl, (((B1.out.setCell (Nat.le_refl _) _).setCell (Nat.le_refl _) _).setCell (Nat.le_refl _) _).setCell (Nat.le_refl _) _⟩
    · have h1d : decide (n < 1) = false := decide_eq_false hn1
      by_cases hn2 : 72 < n
      · have h2d : decide (72 < n) = true := decide_eq_true hn2
        clear hno
        go_enter Try.func14, Try.ntmps14
        go_wp2_with fail
        refine HQ.out.mono ?_
        rintro e w1 ⟨rfl, hb1⟩
        have KR := Lib.hid ((hb1.block _ (block_size K0.out)).trans K0.out)
        have B1 := Lib.hid (BA.out.trans (hb1.mono BA.out.size))
        clear hb1
        have hl := block_size KR.out
        have r0 := cell_of_block KR.out 0
        have r1 := cell_of_block KR.out 1
        have r2 := cell_of_block KR.out 2
        have r3 := cell_of_block KR.out 3
        simp at r0 r1 r2 r3
        have q0 := unfrozen_of_block KR.out 0
        have q1 := unfrozen_of_block KR.out 1
        have q2 := unfrozen_of_block KR.out 2
        have q3 := unfrozen_of_block KR.out 3
        go_wp2
        exact bodyPost_ret (v := .tuple #[.agg #[.slice none 0 0, .slice none 0 0, .slice none 0 0, .slice none 0 0], .int .i64 2]) (by simp [results, Try.results14, go_sem, r0, r1, r2, r3]) rfl
          ⟨rfl, (((B1.out.setCell (Nat.le_refl _) _).setCell (Nat.le_refl _) _).setCell (Nat.le_refl _) _).setCell (Nat.le_refl _) _⟩
      · have h2d : decide (72 < n) = false := decide_eq_false hn2
        have hbn : bandOk n m band = false := by cases h : bandOk n m band with
          | false => rfl
          | true => exact absurd ⟨by omega, h⟩ hno
        have HB := Lib.hid (fun W => bandI n (m : Int) band W (by omega) (by omega))
        rw [hbn] at HB
        clear hno hbn
        go_enter Try.func14, Try.ntmps14
        go_wp2_with fail
        refine HQ.out.mono ?_
        rintro e w1 ⟨rfl, hb1⟩
        have KR := Lib.hid ((hb1.block _ (block_size K0.out)).trans K0.out)
        have B1 := Lib.hid (BA.out.trans (hb1.mono BA.out.size))
        clear hb1
        go_wp2_with fail
        with_reducible refine (HB.out _).mono ?_
        rintro e _ ⟨rfl, rfl⟩
        have hl := block_size KR.out
        have r0 := cell_of_block KR.out 0
        have r1 := cell_of_block KR.out 1
        have r2 := cell_of_block KR.out 2
        have r3 := cell_of_block KR.out 3
        simp at r0 r1 r2 r3
        have q0 := unfrozen_of_block KR.out 0
        have q1 := unfrozen_of_block KR.out 1
        have q2 := unfrozen_of_block KR.out 2
        have q3 := unfrozen_of_block KR.out 3
        go_wp2
        exact bodyPost_ret (v := .tuple #[.agg #[.slice none 0 0, .slice none 0 0, .slice none 0 0, .slice none 0 0], .int .i64 2]) (by simp [results, Try.results14, go_sem, r0, r1, r2, r3]) rfl
          ⟨rfl, (((B1.out.setCell (Nat.le_refl _) _).setCell (Nat.le_refl _) _).setCell (Nat.le_refl _) _).setCell (Nat.le_refl _) _⟩
set_option maxRecDepth 100000 in
set_option maxHeartbeats 8000000 in
theorem envelopeI_yes {cb : Nat} (B : Option Addr) (m : Nat) (fb : Nat → P3) (n : Nat) (band : Int) (w : World) (pb : PtsAt w B m fb) (h0 : envC m fb n band = 0) :
    Calls Try.prog 14 #[.slice B m cb, .int .i64 (n : Int), .int .i64 band] w fun e w' => ∃ s : Nat → Value, e = .returned (.tuple #[.agg #[s 0, s 1, s 2, s 3], .int .i64 0]) ∧ Four w' w.heap.size (fun _ => n) s (envF fb m band) ∧ Below w.heap.size w w' := by
  obtain ⟨vb, hn, hb, hab⟩ := envC_of h0
  have b2 := (okQ_of vb).2.1
  have BA := Lib.hid (below_alloc1 w (.cells #[.slice none 0 0, .slice none 0 0, .slice none 0 0, .slice none 0 0] 32))
  have K0 := Lib.hid (heap_alloc_new w (.cells #[.slice none 0 0, .slice none 0 0, .slice none 0 0, .slice none 0 0] 32))
  have HPB := Lib.hid (pb.kept BA.out)
  have HQ := Lib.hid (okQI (c := cb) B m fb _ (by omega) HPB.out)
  have hn1 : ¬ (n : Int) < 1 := by omega
  have hn2 : ¬ (72 : Int) < (n : Int) := by omega
  have h1d : decide ((n : Int) < 1) = false := decide_eq_false hn1
  have h2d : decide ((72 : Int) < (n : Int)) = false := decide_eq_false hn2
  obtain ⟨bd, rfl⟩ : ∃ bd : Nat, band = (bd : Int) := ⟨band.toNat, by omega⟩
  have HB := Lib.hid (fun W => bandI (n : Int) (m : Int) (bd : Int) W (by omega) (by omega))
  have HO := Lib.hid (fun W hW => envI (c := cb) B m fb n bd W vb (by omega) (by omega) (by omega) hab hW)
  rw [show bandOk (n : Int) (m : Int) (bd : Int) = true from decide_eq_true ⟨hb, hab⟩] at HB
  rw [vb] at HQ
  clear vb hn hb hab h0 pb b2
  generalize envF fb m (bd : Int) = F at *
  go_enter Try.func14, Try.ntmps14
  go_wp2_with fail
  refine HQ.out.mono ?_
  rintro e w1 ⟨rfl, hb1⟩
  have KR := Lib.hid ((hb1.block _ (block_size K0.out)).trans K0.out)
  have B1 := Lib.hid (BA.out.trans (hb1.mono BA.out.size))
  have PB1 := Lib.hid (HPB.out.kept hb1)
  clear hb1 K0 BA HPB HQ
  go_wp2_with fail
  with_reducible refine (HB.out _).mono ?_
  rintro e _ ⟨rfl, rfl⟩
  have hl1 := block_size KR.out
  go_wp2_with fail
  refine (HO.out w1 PB1.out).mono ?_
  rintro e w2 ⟨s, rfl, h4, hb2⟩
  have B2 := Lib.hid (B1.out.trans (hb2.mono B1.out.size))
  have KR2 := Lib.hid ((hb2.block _ hl1).trans KR.out)
  have H4 := Lib.hid h4
  obtain ⟨ea, ec, hs, -⟩ := four_nums h4
  have HS := Lib.hid hs
  rw [hs 0 (by omega), hs 1 (by omega), hs 2 (by omega), hs 3 (by omega)]
  have hl := block_size KR2.out
  have r0 := cell_of_block KR2.out 0
  have r1 := cell_of_block KR2.out 1
  have r2 := cell_of_block KR2.out 2
  have r3 := cell_of_block KR2.out 3
  simp at r0 r1 r2 r3
  have q0 := unfrozen_of_block KR2.out 0
  have q1 := unfrozen_of_block KR2.out 1
  have q2 := unfrozen_of_block KR2.out 2
  have q3 := unfrozen_of_block KR2.out 3
  have HL := Lib.hid hl1
  clear hb2 h4 hs hl1 KR HO PB1 B1 KR2
  go_wp2
  exact bodyPost_ret (v := .tuple #[.agg #[.slice (ea 0) n (ec 0), .slice (ea 1) n (ec 1), .slice (ea 2) n (ec 2), .slice (ea 3) n (ec 3)], .int .i64 0]) (by simp [results, Try.results14, go_sem, r0, r1, r2, r3]) rfl
    ⟨s, by rw [HS.out 0 (by omega), HS.out 1 (by omega), HS.out 2 (by omega), HS.out 3 (by omega)], ((((H4.out.set HL.out).set HL.out).set HL.out).set HL.out).low (Nat.le_of_lt HL.out),
      (((B2.out.setCell (Nat.le_refl _) _).setCell (Nat.le_refl _) _).setCell (Nat.le_refl _) _).setCell (Nat.le_refl _) _⟩
end Go.Proofs.Ythpmckfjlbiiiab.env
