/-
  Proved: what the document's function that tells the cost of two features returns.
  Conditions: none.
-/
import Derived.Test.YtgbelodobgmlbaaSeq
namespace Go.Proofs.Ytgbelodobgmlbaa.seq
open Go.ChangeShapes Go.WideShapes Go.ChangeAt Go.RowKit Go.Joins
open Go.Proofs.Ytgbelodobgmlbaa.core Go.Proofs.Ytgbelodobgmlbaa.rown Go.Proofs.Ytgbelodobgmlbaa.stk Go.Proofs.Ytgbelodobgmlbaa.boxed Go.Proofs.Ytgbelodobgmlbaa.ft
set_option linter.unusedVariables false
set_option linter.unusedSimpArgs false
def fcR (p q : P3) : Int := if inF p = true ∧ inF q = true then cst p q else 0
def fcE (p q : P3) : Int := if inF p = true ∧ inF q = true then 0 else 1
set_option maxRecDepth 100000 in
set_option maxHeartbeats 2000000 in
theorem featCostS (p q : P3) (w : World) : Calls Try.prog 17 #[pv p, pv q] w fun e w' => e = .returned (.tuple #[.int .i64 (fcR p q), .int .i64 (fcE p q)]) ∧ Below w.heap.size w w' := by
  have BA := Lib.hid (below_alloc2 w (.cells #[.int .i64 p.1, .int .i64 p.2.1, .int .i64 p.2.2] 33) (.cells #[.int .i64 q.1, .int .i64 q.2.1, .int .i64 q.2.2] 33))
  have K0 := Lib.hid (show ((w.alloc (.cells #[.int .i64 p.1, .int .i64 p.2.1, .int .i64 p.2.2] 33)).alloc (.cells #[.int .i64 q.1, .int .i64 q.2.1, .int .i64 q.2.2] 33)).heap[w.heap.size]? = some (.cells #[.int .i64 p.1, .int .i64 p.2.1, .int .i64 p.2.2] 33 (0, 0)) by rw [Below.heap_alloc _ _ _ (by simp)]; exact heap_alloc_new _ _)
  have K1 := Lib.hid (show ((w.alloc (.cells #[.int .i64 p.1, .int .i64 p.2.1, .int .i64 p.2.2] 33)).alloc (.cells #[.int .i64 q.1, .int .i64 q.2.1, .int .i64 q.2.2] 33)).heap[w.heap.size + 1]? = some (.cells #[.int .i64 q.1, .int .i64 q.2.1, .int .i64 q.2.2] 33 (0, 0)) by have := heap_alloc_new (w.alloc (.cells #[.int .i64 p.1, .int .i64 p.2.1, .int .i64 p.2.2] 33)) (.cells #[.int .i64 q.1, .int .i64 q.2.1, .int .i64 q.2.2] 33); simpa using this)
  cases hp : inF p with
  | false =>
    have HP := Lib.hid (fun W => featQ p false hp W)
    have HR := Lib.hid (show fcR p q = 0 ∧ fcE p q = 1 by unfold fcR fcE; rw [if_neg (by rw [hp]; simp), if_neg (by rw [hp]; simp)]; exact ⟨rfl, rfl⟩)
    rw [HR.out.1, HR.out.2]
    clear hp HR
    go_enter Try.func17, Try.ntmps17
    go_wp2_with fail
    with_reducible refine (HP.out _).mono ?_
    rintro e w1 ⟨rfl, hb⟩
    have B1 := Lib.hid (BA.out.trans (hb.mono BA.out.size))
    clear hb
    go_wp2
    go_ret2
    exact ⟨rfl, B1.out⟩
  | true =>
    have HP := Lib.hid (fun W => featQ p true hp W)
    cases hq : inF q with
    | false =>
      have HQ := Lib.hid (fun W => featQ q false hq W)
      have HR := Lib.hid (show fcR p q = 0 ∧ fcE p q = 1 by unfold fcR fcE; rw [if_neg (by rw [hq]; simp), if_neg (by rw [hq]; simp)]; exact ⟨rfl, rfl⟩)
      rw [HR.out.1, HR.out.2]
      clear hp hq HR
      go_enter Try.func17, Try.ntmps17
      go_wp2_with fail
      with_reducible refine (HP.out _).mono ?_
      rintro e w1 ⟨rfl, hb⟩
      have B1 := Lib.hid (BA.out.trans (hb.mono BA.out.size))
      have L1 := (hb.block _ (block_size K1.out)).trans K1.out
      have z1 := block_size L1
      have q0 : w1.cell? ⟨w.heap.size + 1, 0, none⟩ = some (.int .i64 q.1) := by rw [cell_of_block L1]; rfl
      have q1 : w1.cell? ⟨w.heap.size + 1, 1, none⟩ = some (.int .i64 q.2.1) := by rw [cell_of_block L1]; rfl
      have q2 : w1.cell? ⟨w.heap.size + 1, 2, none⟩ = some (.int .i64 q.2.2) := by rw [cell_of_block L1]; rfl
      clear hb L1
      go_wp2_with fail
      with_reducible refine (HQ.out _).mono ?_
      rintro e w2 ⟨rfl, hb⟩
      have B2 := Lib.hid (B1.out.trans (hb.mono B1.out.size))
      clear hb q0 q1 q2 z1
      go_wp2
      go_ret2
      exact ⟨rfl, B2.out⟩
    | true =>
      have HQ := Lib.hid (fun W => featQ q true hq W)
      have HC := Lib.hid (fun W => costS p q hp hq W)
      have HR := Lib.hid (show fcR p q = cst p q ∧ fcE p q = 0 by unfold fcR fcE; rw [if_pos ⟨hp, hq⟩, if_pos ⟨hp, hq⟩]; exact ⟨rfl, rfl⟩)
      rw [HR.out.1, HR.out.2]
      clear hp hq HR
      obtain ⟨T, hT⟩ : ∃ T, cst p q = T := ⟨_, rfl⟩
      rw [hT] at HC ⊢
      clear hT
      go_enter Try.func17, Try.ntmps17
      go_wp2_with fail
      with_reducible refine (HP.out _).mono ?_
      rintro e w1 ⟨rfl, hb⟩
      have B1 := Lib.hid (BA.out.trans (hb.mono BA.out.size))
      have M0 := Lib.hid ((hb.block _ (block_size K0.out)).trans K0.out)
      have M1 := Lib.hid ((hb.block _ (block_size K1.out)).trans K1.out)
      have z1 := block_size M1.out
      have q0 : w1.cell? ⟨w.heap.size + 1, 0, none⟩ = some (.int .i64 q.1) := by rw [cell_of_block M1.out]; rfl
      have q1 : w1.cell? ⟨w.heap.size + 1, 1, none⟩ = some (.int .i64 q.2.1) := by rw [cell_of_block M1.out]; rfl
      have q2 : w1.cell? ⟨w.heap.size + 1, 2, none⟩ = some (.int .i64 q.2.2) := by rw [cell_of_block M1.out]; rfl
      clear hb
      go_wp2_with fail
      with_reducible refine (HQ.out _).mono ?_
      rintro e w2 ⟨rfl, hb⟩
      have B2 := Lib.hid (B1.out.trans (hb.mono B1.out.size))
      have N0 := Lib.hid ((hb.block _ (block_size M0.out)).trans M0.out)
      have N1 := Lib.hid ((hb.block _ (block_size M1.out)).trans M1.out)
      clear hb q0 q1 q2 z1
      have z1 := block_size N1.out
      have z0 := block_size N0.out
      have p0 : w2.cell? ⟨w.heap.size, 0, none⟩ = some (.int .i64 p.1) := by rw [cell_of_block N0.out]; rfl
      have p1 : w2.cell? ⟨w.heap.size, 1, none⟩ = some (.int .i64 p.2.1) := by rw [cell_of_block N0.out]; rfl
      have p2 : w2.cell? ⟨w.heap.size, 2, none⟩ = some (.int .i64 p.2.2) := by rw [cell_of_block N0.out]; rfl
      have q0 : w2.cell? ⟨w.heap.size + 1, 0, none⟩ = some (.int .i64 q.1) := by rw [cell_of_block N1.out]; rfl
      have q1 : w2.cell? ⟨w.heap.size + 1, 1, none⟩ = some (.int .i64 q.2.1) := by rw [cell_of_block N1.out]; rfl
      have q2 : w2.cell? ⟨w.heap.size + 1, 2, none⟩ = some (.int .i64 q.2.2) := by rw [cell_of_block N1.out]; rfl
      go_wp2_with fail
      with_reducible refine (HC.out _).mono ?_
      rintro e w3 ⟨rfl, hb⟩
      have B3 := Lib.hid (B2.out.trans (hb.mono B2.out.size))
      clear hb p0 p1 p2 q0 q1 q2
      go_wp2
      go_ret2
      exact ⟨rfl, B3.out⟩
/-- A feature that is read out of memory. -/
def ftOf (g : Nat → Dat) : P3 := (dInt (g 0), dInt (g 1), dInt (g 2))
theorem reads_ft {W : World} {us : Nat → Value} {g : Nat → Dat} (h : ReadsRec W 3 us g) (ht : tyrFeat g) : (.agg #[us 0, us 1, us 2] : Value) = pv (ftOf g) := by
  obtain ⟨⟨x, hx⟩, ⟨y, hy⟩, ⟨z, hz⟩⟩ := ht
  have h0 := h 0 (by omega)
  have h1 := h 1 (by omega)
  have h2 := h 2 (by omega)
  rw [hx] at h0
  rw [hy] at h1
  rw [hz] at h2
  rw [h0.int_inv.1, h1.int_inv.1, h2.int_inv.1]
  simp [ftOf, hx, hy, hz, dInt]
end Go.Proofs.Ytgbelodobgmlbaa.seq
