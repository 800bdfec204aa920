/-
  Proved: what the program's function that tells the least cost of matching two sequences returns.
  Conditions: none.
-/
import Derived.Test.YtkcfghbkcgommabMatch
namespace Go.Proofs.Ytkcfghbkcgommab.dp
open Go.ChangeShapes Go.WideShapes Go.ChangeAt Go.RowKit Go.Joins
open Go.Proofs.Ytkcfghbkcgommab.core Go.Proofs.Ytkcfghbkcgommab.rown Go.Proofs.Ytkcfghbkcgommab.stk Go.Proofs.Ytkcfghbkcgommab.boxed Go.Proofs.Ytkcfghbkcgommab.ft Go.Proofs.Ytkcfghbkcgommab.seq Go.Proofs.Ytkcfghbkcgommab.tab Go.Proofs.Ytkcfghbkcgommab.put3
set_option linter.unusedVariables false
set_option linter.unusedSimpArgs false
/-- Two lists and a band in a block of memory. -/
abbrev MB (mb : Nat) (A B : Value) (bd : Int) (w1 W : World) : Prop := W.cell? ⟨mb, 0, none⟩ = some A ∧ W.cell? ⟨mb, 1, none⟩ = some B ∧ W.cell? ⟨mb, 2, none⟩ = some (.int .i64 bd) ∧ mb < W.heap.size ∧ Below w1.heap.size w1 W
theorem MB_kept {mb : Nat} {A B : Value} {bd : Int} {w1 W W' : World} (hb : Below W.heap.size W W') (h : MB mb A B bd w1 W) : MB mb A B bd w1 W' := by
  obtain ⟨h0, h1, h2, z, hB⟩ := h
  exact ⟨(hb.cell (p := ⟨mb, 0, none⟩) z).trans h0, (hb.cell (p := ⟨mb, 1, none⟩) z).trans h1, (hb.cell (p := ⟨mb, 2, none⟩) z).trans h2, Nat.lt_of_lt_of_le z hb.size, hB.trans (hb.mono hB.size)⟩
theorem MB_drew {mb : Nat} {A B : Value} {bd : Int} {w1 W : World} (h : MB mb A B bd w1 W) : MB mb A B bd w1 W.drew := MB_kept ((Below.refl _ _).drew) h
set_option maxRecDepth 100000 in
set_option maxHeartbeats 8000000 in
/-- The least cost of two lists and a band that fit. -/
theorem costMI {ca cb : Nat} (A B : Option Addr) (na nb : Nat) (fa fb : Nat → P3) (bd : Nat) (w : World) (pa : PtsAt w A na fa) (pb : PtsAt w B nb fb) (va : okQ na fa = true) (vb : okQ nb fb = true) (hbd : 0 ≤ (bd : Int) ∧ (bd : Int) ≤ 72) (hab : absv ((na : Int) - (nb : Int)) ≤ (bd : Int)) :
    Calls Try.prog 17 #[mtv A B na nb ca cb bd] w fun e w' => e = .returned (.int .i64 (leastE na nb fa fb (bd : Int))) ∧ Below w.heap.size w w' := by
  have a2 := (okQ_of va).2.1
  have b2 := (okQ_of vb).2.1
  have HR := Lib.hid (show lrow fa fb (bd : Int) st0 na nb = leastE na nb fa fb (bd : Int) by
    unfold leastE; rw [lrow_least (by omega) va vb hab])
  have hnn := (absv_le (i := na) (j := nb) (bd := bd)).1 hab
  have HS := Lib.hid (fun W => startI A B na nb ca cb bd W b2)
  have HL := Lib.hid (fun g W p1 p2 p3 => lastI A B na nb ca cb bd fa fb st0 g W (by omega) va vb hnn.1 (fun q _ => st0_in q) p1 p2 p3)
  have BA := Lib.hid (below_alloc1 w (mtc A B na nb ca cb bd))
  have K0 := Lib.hid (heap_alloc_new w (mtc A B na nb ca cb bd))
  have HPA1 := Lib.hid (pa)
  have HPB1 := Lib.hid (pb)
  clear va vb hbd hab hnn pa pb
  obtain ⟨R, hR⟩ : ∃ R, leastE na nb fa fb (bd : Int) = R := ⟨_, rfl⟩
  rw [hR] at HR ⊢
  clear hR
  have E1 : IntKind.i64.wrap ((nb : Int) + 1 - 1) = (nb : Int) := by rw [show (nb : Int) + 1 - 1 = (nb : Int) by omega]; exact IntWalk.i64_in _ (by omega)
  have hnb0 : (0 : Int) ≤ (nb : Int) := by omega
  have hnb1 : (nb : Int) < (nb : Int) + 1 := by omega
  have hk : MB w.heap.size (.slice A na ca) (.slice B nb cb) (bd : Int) w (w.alloc (mtc A B na nb ca cb bd)) := ⟨by rw [cell_of_block K0.out]; rfl, by rw [cell_of_block K0.out]; rfl, by rw [cell_of_block K0.out]; rfl, block_size K0.out, BA.out⟩
  go_enter Try.func17, Try.ntmps17
  go_wp2
  go_region_held3 (fun W => W.cell? ⟨w.heap.size, 0, none⟩ = some (.slice A na ca) ∧ W.cell? ⟨w.heap.size, 1, none⟩ = some (.slice B nb cb) ∧ W.cell? ⟨w.heap.size, 2, none⟩ = some (.int .i64 (bd : Int)) ∧ w.heap.size < W.heap.size ∧ Below w.heap.size w W) (first | assumption | exact MB_drew hk | go_keep)
    (first | (go_at_call 29; (with_reducible refine (HS.out _).mono ?_); rintro e wc ⟨g, rfl, ho, hbc⟩; have hkc := MB_kept hbc (by first | assumption | exact MB_drew hk); have HRW := Lib.hid (rowO.at_ ho)) | (go_at_call 28; (with_reducible refine (HL.out g _ (HPA1.out.kept hkc.2.2.2.2) (HPB1.out.kept hkc.2.2.2.2) HRW.out).mono ?_); rintro e wd ⟨gd, rfl, hod, hbd⟩; have hkd := MB_kept hbd hkc))
  all_goals
    have B2 := Lib.hid hkd.2.2.2.2
    have x0 := hod nb (Nat.le_refl _)
    have xz := World.block_lt_of_cell? wd ⟨gd, nb, none⟩ x0
    rw [HR.out] at x0
    clear hod hbd hkd hkc hk
    go_wp2
    go_ret
    exact ⟨rfl, B2.out⟩
end Go.Proofs.Ytkcfghbkcgommab.dp
