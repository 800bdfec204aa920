/-
  Proved: what the program's function that tells the least cost of matching two sequences returns.
  Conditions: none.
-/
import Derived.Test.YtkcfghbkcgommaaMatch
namespace Go.Proofs.Ytkcfghbkcgommaa.dp
open Go.ChangeShapes Go.WideShapes Go.ChangeAt Go.RowKit Go.Joins
open Go.Proofs.Ytkcfghbkcgommaa.core Go.Proofs.Ytkcfghbkcgommaa.rown Go.Proofs.Ytkcfghbkcgommaa.stk Go.Proofs.Ytkcfghbkcgommaa.boxed Go.Proofs.Ytkcfghbkcgommaa.ft Go.Proofs.Ytkcfghbkcgommaa.seq Go.Proofs.Ytkcfghbkcgommaa.tab Go.Proofs.Ytkcfghbkcgommaa.put3
set_option linter.unusedVariables false
set_option linter.unusedSimpArgs false
/-- Two lists and a band in a block of memory. -/
abbrev MB (mb : Nat) (A B : Value) (bd : Int) (w1 W : World) : Prop := W.cell? ⟨mb, 0, none⟩ = some A ∧ W.cell? ⟨mb, 1, none⟩ = some B ∧ W.cell? ⟨mb, 2, none⟩ = some (.int .i64 bd) ∧ mb < W.heap.size ∧ Below w1.heap.size w1 W
theorem MB_kept {mb : Nat} {A B : Value} {bd : Int} {w1 W W' : World} (hb : Below W.heap.size W W') (h : MB mb A B bd w1 W) : MB mb A B bd w1 W' := by
  obtain ⟨h0, h1, h2, z, hB⟩ := h
  exact ⟨(hb.cell (p := ⟨mb, 0, none⟩) z).trans h0, (hb.cell (p := ⟨mb, 1, none⟩) z).trans h1, (hb.cell (p := ⟨mb, 2, none⟩) z).trans h2, Nat.lt_of_lt_of_le z hb.size, hB.trans (hb.mono hB.size)⟩
theorem MB_drew {mb : Nat} {A B : Value} {bd : Int} {w1 W : World} (h : MB mb A B bd w1 W) : MB mb A B bd w1 W.drew := MB_kept ((Below.refl _ _).drew) h
set_option maxRecDepth 100000 in
set_option maxHeartbeats 8000000 in
/-- The least cost of two lists and a band that fit. -/
theorem costMI {ca cb : Nat} (A B : Option Addr) (na nb : Nat) (fa fb : Nat → P3) (bd : Nat) (w : World) (pa : PtsAt w A na fa) (pb : PtsAt w B nb fb) (va : okQ na fa = true) (vb : okQ nb fb = true) (hbd : 0 ≤ (bd : Int) ∧ (bd : Int) ≤ 72) (hab : absv ((na : Int) - (nb : Int)) ≤ (bd : Int)) :
    Calls Try.prog 120 #[mtv A B na nb ca cb bd] w fun e w' => e = .returned (.int .i64 (leastE na nb fa fb (bd : Int))) ∧ Below w.heap.size w w' := by
  have a2 := (okQ_of va).2.1
  have b2 := (okQ_of vb).2.1
  have HR := Lib.hid (show lrow fa fb (bd : Int) st0 na nb = leastE na nb fa fb (bd : Int) by
    unfold leastE; rw [lrow_least (by omega) va vb hab])
  have hnn := (absv_le (i := na) (j := nb) (bd := bd)).1 hab
  have HS := Lib.hid (fun W => startI A B na nb ca cb bd W b2)
  have HL := Lib.hid (fun g W p1 p2 p3 => lastI A B na nb ca cb bd fa fb st0 g W (by omega) va vb hnn.1 (fun q _ => st0_in q) p1 p2 p3)
  have BA := Lib.hid (below_alloc1 w (mtc A B na nb ca cb bd))
  have K0 := Lib.hid (heap_alloc_new w (mtc A B na nb ca cb bd))
  have HPA1 := Lib.hid (pa)
  have HPB1 := Lib.hid (pb)
  clear va vb hbd hab hnn pa pb
  obtain ⟨R, hR⟩ : ∃ R, leastE na nb fa fb (bd : Int) = R := ⟨_, rfl⟩
  rw [hR] at HR ⊢
  clear hR
  have E1 : IntKind.i64.wrap ((nb : Int) + 1 - 1) = (nb : Int) := by rw [show (nb : Int) + 1 - 1 = (nb : Int) by omega]; exact IntWalk.i64_in _ (by omega)
  have hnb0 : (0 : Int) ≤ (nb : Int) := by omega
  have hnb1 : (nb : Int) < (nb : Int) + 1 := by omega
  have hk : MB w.heap.size (.slice A na ca) (.slice B nb cb) (bd : Int) w (w.alloc (mtc A B na nb ca cb bd)) := ⟨by rw [cell_of_block K0.out]; rfl, by rw [cell_of_block K0.out]; rfl, by rw [cell_of_block K0.out]; rfl, block_size K0.out, BA.out⟩
  go_enter Try.func120, Try.ntmps120
  go_wp2
  go_region_held3 (fun W => W.cell? ⟨w.heap.size, 0, none⟩ = some (.slice A na ca) ∧ W.cell? ⟨w.heap.size, 1, none⟩ = some (.slice B nb cb) ∧ W.cell? ⟨w.heap.size, 2, none⟩ = some (.int .i64 (bd : Int)) ∧ w.heap.size < W.heap.size ∧ Below w.heap.size w W) (first | assumption | exact MB_drew hk | go_keep)
    (first | (go_at_call 137; (with_reducible refine (HS.out _).mono ?_); rintro e wc ⟨g, rfl, ho, hbc⟩; have hkc := MB_kept hbc (by first | assumption | exact MB_drew hk); have HRW := Lib.hid (rowO.at_ ho)) | (go_at_call 136; (with_reducible refine (HL.out g _ (HPA1.out.kept hkc.2.2.2.2) (HPB1.out.kept hkc.2.2.2.2) HRW.out).mono ?_); rintro e wd ⟨gd, rfl, hod, hbd⟩; have hkd := MB_kept hbd hkc))
  all_goals
    have B2 := Lib.hid hkd.2.2.2.2
    have x0 := hod nb (Nat.le_refl _)
    have xz := World.block_lt_of_cell? wd ⟨gd, nb, none⟩ x0
    rw [HR.out] at x0
    clear hod hbd hkd hkc hk
    go_wp2
    go_ret
    exact ⟨rfl, B2.out⟩
set_option maxRecDepth 100000 in
set_option maxHeartbeats 8000000 in
theorem elasticI {ca cb : Nat} (A B : Option Addr) (na nb : Nat) (fa fb : Nat → P3) (band : Int) (w : World) (ha : na ≤ 1048576) (hb : nb ≤ 1048576) (hbi : inI64 band) (pa : PtsAt w A na fa) (pb : PtsAt w B nb fb) :
    Calls Try.prog 96 #[.slice A na ca, .slice B nb cb, .int .i64 band] w fun e w' => e = .returned (.tuple #[.int .i64 (elR na nb fa fb band), .int .i64 (elC na nb fa fb band)]) ∧ Below w.heap.size w w' := by
  by_cases h0 : elC na nb fa fb band = 0
  rotate_left
  · have HC := Lib.hid (match_no (ca := ca) (cb := cb) A B na nb fa fb band w ha hb hbi pa pb h0)
    have HR := Lib.hid (show elR na nb fa fb band = 0 by unfold elR; rw [if_neg h0])
    have h12 : elC na nb fa fb band = 1 ∨ elC na nb fa fb band = 2 := by have := el_any na nb fa fb band; omega
    rw [HR.out]
    clear h0 HR pa pb
    rcases h12 with h | h
    all_goals
      rw [h] at HC ⊢
      clear h
      go_enter Try.func96, Try.ntmps96
      go_wp2_with fail
      refine HC.out.mono ?_
      rintro e w1 ⟨rfl, hb1⟩
      have B1 := Lib.hid hb1
      clear hb1
      go_wp2
      go_ret2
      exact ⟨rfl, B1.out.trans ((below_alloc1 _ _).mono B1.out.size)⟩
  obtain ⟨va, vb, hbd, hab⟩ := el_of h0
  obtain ⟨bd, rfl⟩ : ∃ bd : Nat, band = (bd : Int) := ⟨band.toNat, by omega⟩
  have HC := Lib.hid (match_yes (ca := ca) (cb := cb) A B na nb fa fb bd w pa pb h0)
  have HK := Lib.hid (fun W hA hB => costMI (ca := ca) (cb := cb) A B na nb fa fb bd W hA hB va vb hbd hab)
  have HR := Lib.hid (show leastE na nb fa fb (bd : Int) = elR na nb fa fb (bd : Int) by unfold elR; rw [if_pos h0])
  rw [HR.out] at HK
  have HPA := Lib.hid pa
  have HPB := Lib.hid pb
  rw [h0]
  clear va vb hbd hab h0 pa pb HR
  generalize elR na nb fa fb (bd : Int) = R at *
  go_enter Try.func96, Try.ntmps96
  go_wp2_with fail
  refine HC.out.mono ?_
  rintro e w1 ⟨rfl, hb1⟩
  have B1 := Lib.hid hb1
  have BA := Lib.hid (below_alloc1 w1 (mtc A B na nb ca cb bd))
  have HK1 := Lib.hid (HK.out _ ((HPA.out.kept hb1).kept BA.out) ((HPB.out.kept hb1).kept BA.out))
  clear hb1 HC HPA HPB HK
  go_wp2_with fail
  refine HK1.out.mono ?_
  rintro e w2 ⟨rfl, hb2⟩
  have B2 := Lib.hid (B1.out.trans ((BA.out.trans (hb2.mono BA.out.size)).mono B1.out.size))
  clear hb2
  go_wp2
  go_ret2
  exact ⟨rfl, B2.out⟩
end Go.Proofs.Ytkcfghbkcgommaa.dp
