/-
  Proved: both functions that tell the cost of matching two features return the same.
  Conditions: none.
-/
import Derived.Test.YtgbelodobgmlbaaCostI
namespace Go.Proofs.Ytgbelodobgmlbaa.wFeatCost
open Go.ChangeShapes Go.WideShapes Go.ChangeAt Go.RowKit Go.Joins
open Go.Proofs.Ytgbelodobgmlbaa.core Go.Proofs.Ytgbelodobgmlbaa.rown Go.Proofs.Ytgbelodobgmlbaa.stk Go.Proofs.Ytgbelodobgmlbaa.boxed Go.Proofs.Ytgbelodobgmlbaa.ft Go.Proofs.Ytgbelodobgmlbaa.seq
set_option linter.unusedVariables false
set_option linter.unusedSimpArgs false
set_option maxRecDepth 100000 in
set_option maxHeartbeats 2000000 in
theorem featCostI (p q : P3) (w : World) : Calls Try.prog 19 #[pv p, pv q] w fun e w' => e = .returned (.tuple #[.int .i64 (fcR p q), .int .i64 (fcE p q)]) ∧ Below w.heap.size w w' := by
  have BA := Lib.hid (below_alloc2 w (.cells #[.int .i64 p.1, .int .i64 p.2.1, .int .i64 p.2.2] 33) (.cells #[.int .i64 q.1, .int .i64 q.2.1, .int .i64 q.2.2] 33))
  have K0 := Lib.hid (show ((w.alloc (.cells #[.int .i64 p.1, .int .i64 p.2.1, .int .i64 p.2.2] 33)).alloc (.cells #[.int .i64 q.1, .int .i64 q.2.1, .int .i64 q.2.2] 33)).heap[w.heap.size]? = some (.cells #[.int .i64 p.1, .int .i64 p.2.1, .int .i64 p.2.2] 33 (0, 0)) by rw [Below.heap_alloc _ _ _ (by simp)]; exact heap_alloc_new _ _)
  have K1 := Lib.hid (show ((w.alloc (.cells #[.int .i64 p.1, .int .i64 p.2.1, .int .i64 p.2.2] 33)).alloc (.cells #[.int .i64 q.1, .int .i64 q.2.1, .int .i64 q.2.2] 33)).heap[w.heap.size + 1]? = some (.cells #[.int .i64 q.1, .int .i64 q.2.1, .int .i64 q.2.2] 33 (0, 0)) by have := heap_alloc_new (w.alloc (.cells #[.int .i64 p.1, .int .i64 p.2.1, .int .i64 p.2.2] 33)) (.cells #[.int .i64 q.1, .int .i64 q.2.1, .int .i64 q.2.2] 33); simpa using this)
  cases hp : inF p with
  | false =>
    have HP := Lib.hid (fun W => featI p false hp W)
    have HR := Lib.hid (show fcR p q = 0 ∧ fcE p q = 1 by unfold fcR fcE; rw [if_neg (by rw [hp]; simp), if_neg (by rw [hp]; simp)]; exact ⟨rfl, rfl⟩)
    rw [HR.out.1, HR.out.2]
    clear hp HR
    go_enter Try.func19, Try.ntmps19
    go_wp2_with fail
    with_reducible refine (HP.out _).mono ?_
    rintro e w1 ⟨rfl, hb⟩
    have B1 := Lib.hid (BA.out.trans (hb.mono BA.out.size))
    clear hb
    go_wp2
    go_ret2
    exact ⟨rfl, B1.out⟩
  | true =>
    have HP := Lib.hid (fun W => featI p true hp W)
    cases hq : inF q with
    | false =>
      have HQ := Lib.hid (fun W => featI q false hq W)
      have HR := Lib.hid (show fcR p q = 0 ∧ fcE p q = 1 by unfold fcR fcE; rw [if_neg (by rw [hq]; simp), if_neg (by rw [hq]; simp)]; exact ⟨rfl, rfl⟩)
      rw [HR.out.1, HR.out.2]
      clear hp hq HR
      go_enter Try.func19, Try.ntmps19
      go_wp2_with fail
      with_reducible refine (HP.out _).mono ?_
      rintro e w1 ⟨rfl, hb⟩
      have B1 := Lib.hid (BA.out.trans (hb.mono BA.out.size))
      have L1 := (hb.block _ (block_size K1.out)).trans K1.out
      have z1 := block_size L1
      have q0 : w1.cell? ⟨w.heap.size + 1, 0, none⟩ = some (.int .i64 q.1) := by rw [cell_of_block L1]; rfl
      have q1 : w1.cell? ⟨w.heap.size + 1, 1, none⟩ = some (.int .i64 q.2.1) := by rw [cell_of_block L1]; rfl
      have q2 : w1.cell? ⟨w.heap.size + 1, 2, none⟩ = some (.int .i64 q.2.2) := by rw [cell_of_block L1]; rfl
      clear hb L1
      go_wp2_with fail
      with_reducible refine (HQ.out _).mono ?_
      rintro e w2 ⟨rfl, hb⟩
      have B2 := Lib.hid (B1.out.trans (hb.mono B1.out.size))
      clear hb q0 q1 q2 z1
      go_wp2
      go_ret2
      exact ⟨rfl, B2.out⟩
    | true =>
      have HQ := Lib.hid (fun W => featI q true hq W)
      have HC := Lib.hid (fun W => costI p q hp hq W)
      have HR := Lib.hid (show fcR p q = cst p q ∧ fcE p q = 0 by unfold fcR fcE; rw [if_pos ⟨hp, hq⟩, if_pos ⟨hp, hq⟩]; exact ⟨rfl, rfl⟩)
      rw [HR.out.1, HR.out.2]
      clear hp hq HR
      obtain ⟨T, hT⟩ : ∃ T, cst p q = T := ⟨_, rfl⟩
      rw [hT] at HC ⊢
      clear hT
      go_enter Try.func19, Try.ntmps19
      go_wp2_with fail
      with_reducible refine (HP.out _).mono ?_
      rintro e w1 ⟨rfl, hb⟩
      have B1 := Lib.hid (BA.out.trans (hb.mono BA.out.size))
      have M0 := Lib.hid ((hb.block _ (block_size K0.out)).trans K0.out)
      have M1 := Lib.hid ((hb.block _ (block_size K1.out)).trans K1.out)
      have z1 := block_size M1.out
      have q0 : w1.cell? ⟨w.heap.size + 1, 0, none⟩ = some (.int .i64 q.1) := by rw [cell_of_block M1.out]; rfl
      have q1 : w1.cell? ⟨w.heap.size + 1, 1, none⟩ = some (.int .i64 q.2.1) := by rw [cell_of_block M1.out]; rfl
      have q2 : w1.cell? ⟨w.heap.size + 1, 2, none⟩ = some (.int .i64 q.2.2) := by rw [cell_of_block M1.out]; rfl
      clear hb
      go_wp2_with fail
      with_reducible refine (HQ.out _).mono ?_
      rintro e w2 ⟨rfl, hb⟩
      have B2 := Lib.hid (B1.out.trans (hb.mono B1.out.size))
      have N0 := Lib.hid ((hb.block _ (block_size M0.out)).trans M0.out)
      have N1 := Lib.hid ((hb.block _ (block_size M1.out)).trans M1.out)
      clear hb q0 q1 q2 z1
      have z1 := block_size N1.out
      have z0 := block_size N0.out
      have p0 : w2.cell? ⟨w.heap.size, 0, none⟩ = some (.int .i64 p.1) := by rw [cell_of_block N0.out]; rfl
      have p1 : w2.cell? ⟨w.heap.size, 1, none⟩ = some (.int .i64 p.2.1) := by rw [cell_of_block N0.out]; rfl
      have p2 : w2.cell? ⟨w.heap.size, 2, none⟩ = some (.int .i64 p.2.2) := by rw [cell_of_block N0.out]; rfl
      have q0 : w2.cell? ⟨w.heap.size + 1, 0, none⟩ = some (.int .i64 q.1) := by rw [cell_of_block N1.out]; rfl
      have q1 : w2.cell? ⟨w.heap.size + 1, 1, none⟩ = some (.int .i64 q.2.1) := by rw [cell_of_block N1.out]; rfl
      have q2 : w2.cell? ⟨w.heap.size + 1, 2, none⟩ = some (.int .i64 q.2.2) := by rw [cell_of_block N1.out]; rfl
      go_wp2_with fail
      with_reducible refine (HC.out _).mono ?_
      rintro e w3 ⟨rfl, hb⟩
      have B3 := Lib.hid (B2.out.trans (hb.mono B2.out.size))
      clear hb p0 p1 p2 q0 q1 q2
      go_wp2
      go_ret2
      exact ⟨rfl, B3.out⟩
theorem meat (vs0 : Nat → Value) (g0 : Nat → Dat) (vs1 : Nat → Value) (g1 : Nat → Dat) (ht0 : tyrFeat g0) (ht1 : tyrFeat g1) :
    ∃ (r0 : Int) (r1 : Int), (∀ (W : World) (us0 : Nat → Value) (us1 : Nat → Value), ReadsRec W 3 us0 g0 → ReadsRec W 3 us1 g1 → Calls Try.prog 17 #[.agg #[us0 0, us0 1, us0 2], .agg #[us1 0, us1 1, us1 2]] W fun e W' => e = .returned (.tuple #[.int .i64 r0, .int .i64 r1]) ∧ Below W.heap.size W W') ∧ (∀ (W : World) (us0 : Nat → Value) (us1 : Nat → Value), ReadsRec W 3 us0 g0 → ReadsRec W 3 us1 g1 → Calls Try.prog 19 #[.agg #[us0 0, us0 1, us0 2], .agg #[us1 0, us1 1, us1 2]] W fun e W' => e = .returned (.tuple #[.int .i64 r0, .int .i64 r1]) ∧ Below W.heap.size W W') :=
  ⟨fcR (ftOf g0) (ftOf g1), fcE (ftOf g0) (ftOf g1), fun W us0 us1 h0 h1 => by rw [reads_ft h0 ht0, reads_ft h1 ht1]; exact featCostS _ _ W, fun W us0 us1 h0 h1 => by rw [reads_ft h0 ht0, reads_ft h1 ht1]; exact featCostI _ _ W⟩
end Go.Proofs.Ytgbelodobgmlbaa.wFeatCost
