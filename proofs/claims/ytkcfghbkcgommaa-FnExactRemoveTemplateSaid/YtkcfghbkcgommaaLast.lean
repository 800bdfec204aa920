/-
  Proved: what the program's function that makes the last row of least costs returns.
  Conditions: both lists are sequences, and the band reaches the second one.
-/
import Derived.Test.YtkcfghbkcgommaaNext
namespace Go.Proofs.Ytkcfghbkcgommaa.dp
open Go.ChangeShapes Go.WideShapes Go.ChangeAt Go.RowKit Go.Joins
open Go.Proofs.Ytkcfghbkcgommaa.core Go.Proofs.Ytkcfghbkcgommaa.rown Go.Proofs.Ytkcfghbkcgommaa.stk Go.Proofs.Ytkcfghbkcgommaa.boxed Go.Proofs.Ytkcfghbkcgommaa.ft Go.Proofs.Ytkcfghbkcgommaa.seq Go.Proofs.Ytkcfghbkcgommaa.tab Go.Proofs.Ytkcfghbkcgommaa.put3
set_option linter.unusedVariables false
set_option linter.unusedSimpArgs false
/-- The numbers of a row. -/
def rowAt (w : World) (g n : Nat) (F : Nat → Int) : Prop := ∀ q, q ≤ n → w.cell? ⟨g, q, none⟩ = some (.int .i64 (F q))
theorem rowAt.kept {w w' : World} {g n : Nat} {F : Nat → Int} (h : rowAt w g n F) (hb : Below w.heap.size w w') : rowAt w' g n F := fun q hq =>
  (hb.cell (p := ⟨g, q, none⟩) (World.block_lt_of_cell? w ⟨g, q, none⟩ (h q hq))).trans (h q hq)
theorem rowO.at_ {w : World} {base g n : Nat} {F : Nat → Int} (h : rowO w base g (n + 1) F) : rowAt w g n F := fun q hq => one_cell h (by omega)
set_option maxRecDepth 100000 in
set_option maxHeartbeats 8000000 in
theorem lastI (A B : Option Addr) (na nb ca cb bd : Nat) (fa fb : Nat → P3) (r0 : Nat → Int) (g0 : Nat) (w : World) (hbd : bd ≤ 72) (va : okQ na fa = true) (vb : okQ nb fb = true) (hlo : na ≤ nb + bd)
    (hr : ∀ q, q ≤ nb → 0 ≤ r0 q ∧ r0 q ≤ bar) (pa : PtsAt w A na fa) (pb : PtsAt w B nb fb) (pr : rowAt w g0 nb r0) :
    Calls Try.prog 136 #[mtv A B na nb ca cb bd, .slice (some ⟨g0, 0, none⟩) (nb + 1) (nb + 1)] w fun e w' => ∃ g, e = .returned (.slice (some ⟨g, 0, none⟩) (nb + 1) (nb + 1)) ∧ rowAt w' g nb (lrow fa fb (bd : Int) r0 na) ∧ Below w.heap.size w w' := by
  obtain ⟨a1, a2, a3⟩ := okQ_of va
  obtain ⟨b1, b2, b3⟩ := okQ_of vb
  have BA := Lib.hid (below_alloc1 w (mtc A B na nb ca cb bd))
  have K0 := Lib.hid (heap_alloc_new w (mtc A B na nb ca cb bd))
  have HPA := Lib.hid (pa.kept BA.out)
  have HPB := Lib.hid (pb.kept BA.out)
  have HPR := Lib.hid (pr.kept BA.out)
  have HN := Lib.hid (fun i r g W hi hr' p1 p2 p3 => nextI (cr := nb + 1) A B na nb ca cb bd fa fb i r g W b1 b2 hbd a2 hi (by omega) (a3 i hi) b3 hr' p1 p2 p3)
  have HIN := Lib.hid (show ∀ i, i ≤ na → ∀ q, q ≤ nb → 0 ≤ lrow fa fb (bd : Int) r0 i q ∧ lrow fa fb (bd : Int) r0 i q ≤ 2 * bar from fun i hi q hq => by
    have hbar : bar = 1099511627776 := rfl
    have := lrow_in (band := (bd : Int)) a3 b3 hr i hi q hq
    omega)
  obtain ⟨L, hL⟩ : ∃ L, lrow fa fb (bd : Int) r0 = L := ⟨_, rfl⟩
  have HL := Lib.hid (show L 0 = r0 ∧ ∀ i, L (i + 1) = nxt fa fb (bd : Int) i (L i) by rw [← hL]; exact ⟨rfl, fun _ => rfl⟩)
  rw [hL] at HIN ⊢
  obtain ⟨w0, hw0⟩ : ∃ v, v = w.alloc (mtc A B na nb ca cb bd) := ⟨_, rfl⟩
  rw [← hw0] at BA K0 HPA HPB HPR
  have y0 := block_size K0.out
  have c0 : w0.cell? ⟨w.heap.size, 0, none⟩ = some (.slice A na ca) := by rw [cell_of_block K0.out]; rfl
  clear pa pb pr va vb a3 b3 hL hr
  go_enter Try.func136, Try.ntmps136
  have hw0' := Lib.hid hw0
  go_wp2
  rw [← hw0'.out]
  clear y0 c0 hw0 hw0'
  go_loopw [1, 9] (fun s j w' => ∃ (i g : Nat), i ≤ na ∧ j = .int .i64 (i : Int) ∧ s = .slice (some ⟨g, 0, none⟩) (nb + 1) (nb + 1) ∧ Hid (rowAt w' g nb (L i)) ∧ Hid (Below w0.heap.size w0 w')) (fun _ j _ => na - (intOf j).toNat)
  case atStart => exact ⟨0, g0, Nat.zero_le _, rfl, rfl, Lib.hid (by rw [HL.out.1]; exact HPR.out), Lib.hid (Below.refl _ _)⟩
  case round =>
    obtain ⟨i, g, hi, rfl, rfl, HR, HB⟩ := hrel
    by_cases hlt : i < na
    · have hli : (i : Int) < (na : Int) := by omega
      have M := Lib.hid ((HB.out.block _ (block_size K0.out)).trans K0.out)
      have y0 := block_size M.out
      have c0 : wr.cell? ⟨w.heap.size, 0, none⟩ = some (.slice A na ca) := by rw [cell_of_block M.out]; rfl
      have c1 : wr.cell? ⟨w.heap.size, 1, none⟩ = some (.slice B nb cb) := by rw [cell_of_block M.out]; rfl
      have c2 : wr.cell? ⟨w.heap.size, 2, none⟩ = some (.int .i64 (bd : Int)) := by rw [cell_of_block M.out]; rfl
      have HC := Lib.hid (HN.out i (L i) g wr hlt (fun q hq => HIN.out i (by omega) q hq) (HPA.out.kept HB.out) (HPB.out.kept HB.out) HR.out)
      rw [← HL.out.2 i] at HC
      go_wp2_with fail
      refine HC.out.mono ?_
      rintro e w4 ⟨g4, rfl, ho4, hb4⟩
      have HR4 := Lib.hid (rowO.at_ ho4)
      have HB4 := Lib.hid (HB.out.trans (hb4.mono HB.out.size))
      clear ho4 hb4 y0 c0 c1 c2
      go_wp2
      go_roundw
      case rel => exact ⟨i + 1, g4, by omega, by go_num, rfl, HR4, HB4⟩
      case measure => simp [intOf]; omega
    · obtain rfl : i = na := by omega
      go_wp2
      go_ret
      exact ⟨g, rfl, HR.out, BA.out.trans (HB.out.mono BA.out.size)⟩
end Go.Proofs.Ytkcfghbkcgommaa.dp
