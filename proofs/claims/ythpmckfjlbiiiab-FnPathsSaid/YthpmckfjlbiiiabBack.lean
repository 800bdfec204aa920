/-
  Proved: the library's iterator over a list of pairs from its end on hands out all of them (for every loop body that leaves the list as it lies).
  Conditions: the list has a pair.
-/
import Derived.Test.YthpmckfjlbiiiabPathI
import Derived.Test.YthpmckfjlbiiiabRevP
import Derived.RangeFuncNested
import Derived.RangeFuncBound
import Derived.RangeFuncCalls
import Derived.RangeFuncLeaves
import Derived.Shelf.Abstract
import Derived.Shelf.RegionOpen
import Derived.WalkKit
import Derived.OwnWalkIn
import Derived.TacticsInMore
import Derived.LoopNIn
import Derived.LoopIn
import Derived.Maps.AppendAt
namespace Go.Proofs.Ythpmckfjlbiiiab.bwd
open Go.ChangeShapes Go.WideShapes Go.ChangeAt Go.RowKit Go.Joins Go.Shelf
open Go.Proofs.Ythpmckfjlbiiiab.core Go.Proofs.Ythpmckfjlbiiiab.rown Go.Proofs.Ythpmckfjlbiiiab.stk Go.Proofs.Ythpmckfjlbiiiab.boxed Go.Proofs.Ythpmckfjlbiiiab.ft Go.Proofs.Ythpmckfjlbiiiab.seq Go.Proofs.Ythpmckfjlbiiiab.path
set_option linter.unusedVariables false
set_option linter.unusedSimpArgs false
attribute [local go_sem] Oper.semAt_some
/-- What a round leaves: what lies below n0, and the box of the list. -/
def Kq (n0 Bs : Nat) (W W' : World) : Prop := Below n0 W W' ∧ W'.heap[Bs]? = W.heap[Bs]?
theorem Kq_t {n0 Bs : Nat} {A B C : World} (h : Kq n0 Bs A B) (k : Kq n0 Bs B C) : Kq n0 Bs A C := ⟨h.1.trans k.1, k.2.trans h.2⟩
theorem Kq_b {n0 Bs : Nat} {w : World} (hn : n0 ≤ w.heap.size) (hB : Bs < w.heap.size) (W : World) (l : Nat) (o o' : Obj) (hl : w.heap.size ≤ l) (h : W.heap[l]? = some o) (h1 : o.isCells = false) (h2 : o.isWalk = false) : Kq n0 Bs W (W.putObj l o') :=
  ⟨belowK_b hn W l o o' hl h h1 h2, World.putObj_heap_other (by omega)⟩
/-- What is handed out in round k: the place and the pair. -/
def encB (f : Nat → P2) (N k : Nat) : Array Value := #[.int .i64 ((N - k : Nat) : Int), .agg #[.int .i64 (f (N - k)).1, .int .i64 (f (N - k)).2]]
set_option maxRecDepth 100000 in
set_option maxHeartbeats 2000000 in
theorem back1_in (F : Fence) (n : Nat) (h7 : F.fn 100) (hro : F.round = none) (hn : 1 ≤ n) (l Bs n0 b off N cap : Nat) (f : Nat → P2) (hN : N + 1 ≤ 1048576) (hb : b < n0) (J Jx : List Nat → World → Prop)
    (hY : ∀ pre x W, J pre W → pre.length < N + 1 → YieldAt F (n - 1) Try.prog l (encB f N x) W fun e W' =>
      (e = .returned (.bool true) ∧ J (pre ++ [x]) W' ∧ Kq n0 Bs W W') ∨ (e = .returned (.bool false) ∧ Jx (pre ++ [x]) W'))
    (W : World) (hBs : W.heap[Bs]? = some (.cells #[.slice (some ⟨b, off, none⟩) (N + 1) cap] 51 (0, 0))) (hc : ∀ j, j < N + 1 → W.cell? ⟨b, off + j * 2, none⟩ = some (.int .i64 (f j).1) ∧ W.cell? ⟨b, off + j * 2 + 1, none⟩ = some (.int .i64 (f j).2)) (h0 : J [] W) :
    CallsIn F n Try.prog 100 #[.func (.yield l) #[] #[], .pointer (some ⟨Bs, 0, none⟩)] W fun e W' => (∃ v, e = .returned v) ∧
      ((∃ ys, ys = List.range (N + 1) ∧ J ys W') ∨ (∃ pre, (∃ k, k ≤ N + 1 ∧ pre = List.range k) ∧ Jx pre W')) := by
  have c0 : W.cell? ⟨Bs, 0, none⟩ = some (.slice (some ⟨b, off, none⟩) (N + 1) cap) := by rw [cell_of_block hBs]; rfl
  have E1 : IntKind.i64.wrap ((N : Int) + 1 - 1) = (N : Int) := by rw [show (N : Int) + 1 - 1 = (N : Int) by omega]; exact IntWalk.i64_in _ (by omega)
  refine callsIn_of_wp Try.func100 rfl h7 ?_ hro
  simp only [Try.ntmps100, List.size_toArray, List.length_cons, List.length_nil, Nat.reduceAdd, Nat.reduceSub, Array.replicate_succ, Array.replicate_zero, List.push_toArray, List.append_toArray, List.nil_append, List.cons_append]
  gi_wp2
  clear c0
  gi_loopw [3] (fun i wr => ∃ (k : Nat) (z : Int), k ≤ N + 1 ∧ i = .int .i64 z ∧ z + (k : Int) = (N : Int) ∧ J (List.range k) wr ∧ Kq n0 Bs W wr)
    (fun i _ => (intOf i + 1).toNat)
  case atStart => exact ⟨0, (N : Int), Nat.zero_le _, by first | rfl | (simp; done), by omega, h0, Below.refl _ _, rfl⟩
  case round =>
    obtain ⟨k, z, hk, rfl, hz, hJs, hK⟩ := hrel
    by_cases hlt : k < N + 1
    · obtain ⟨j, rfl⟩ : ∃ j : Nat, z = (j : Int) := ⟨z.toNat, by omega⟩
      obtain ⟨fn, tmps, assign, body, hy, hR⟩ := hY _ k wr hJs (by rw [List.length_range]; exact hlt)
      have hjk : N - k = j := by omega
      unfold encB at hy
      rw [hjk] at hy
      have hbx := hK.2.trans hBs
      have c0 : wr.cell? ⟨Bs, 0, none⟩ = some (.slice (some ⟨b, off, none⟩) (N + 1) cap) := by rw [cell_of_block hbx]; rfl
      have p0 := (hK.1.cell (p := ⟨b, off + j * 2, none⟩) hb).trans (hc j (by omega)).1
      have p1 := (hK.1.cell (p := ⟨b, off + j * 2 + 1, none⟩) hb).trans (hc j (by omega)).2
      have hj0 : (0 : Int) ≤ (j : Int) := by omega
      have hjN : (j : Int) < (N : Int) + 1 := by omega
      have hjN2 : j < N + 1 := by omega
      gi_wp2
      refine hR.mono ?_
      rintro e W3 (⟨rfl, hJ3, hk3⟩ | ⟨rfl, hJx3⟩)
      · gi_wp2
        go_roundw
        case rel => exact ⟨k + 1, (j : Int) - 1, by omega, by go_num, by omega, by rw [List.range_succ]; exact hJ3, Kq_t hK hk3⟩
        case measure => simp [intOf]
      · gi_wp2
        refine bodyPost_ret (results_none rfl _ _ _) rfl ?_
        exact ⟨⟨_, rfl⟩, .inr ⟨_, ⟨k + 1, by omega, List.range_succ.symm⟩, hJx3⟩⟩
    · obtain rfl : k = N + 1 := by omega
      obtain rfl : z = -1 := by omega
      gi_wp2
      go_end0
      exact ⟨⟨_, rfl⟩, .inl ⟨_, rfl, hJs⟩⟩
theorem back_stops (F : Fence) (n : Nat) (h7 : F.fn 100) (hro : F.round = none) (hn : 1 ≤ n) (Bs n0 b off N cap : Nat) (f : Nat → P2) (hN : N + 1 ≤ 1048576) (w : World) (hB : Bs < w.heap.size) (hn0 : n0 ≤ w.heap.size) (hb : b < n0)
    (hBs : w.heap[Bs]? = some (.cells #[.slice (some ⟨b, off, none⟩) (N + 1) cap] 51 (0, 0))) (hc : ∀ j, j < N + 1 → w.cell? ⟨b, off + j * 2, none⟩ = some (.int .i64 (f j).1) ∧ w.cell? ⟨b, off + j * 2 + 1, none⟩ = some (.int .i64 (f j).2)) :
    SeqStopsK F n Try.prog 100 #[.pointer (some ⟨Bs, 0, none⟩)] (encB f N) (Kq n0 Bs) (fun ys => ys = List.range (N + 1)) (fun pre => ∃ k, k ≤ N + 1 ∧ pre = List.range k) (N + 1) w := fun l J Jx W hW _ _ hY h0 => by
  refine back1_in F n h7 hro hn l Bs n0 b off N cap f hN hb J Jx hY W ((hW.block Bs hB).trans hBs) (fun j hj => ?_) h0
  obtain ⟨q0, q1⟩ := hc j hj
  exact ⟨(hW.cell (p := ⟨b, off + j * 2, none⟩) (by simp only; omega)).trans q0, (hW.cell (p := ⟨b, off + j * 2 + 1, none⟩) (by simp only; omega)).trans q1⟩
set_option maxHeartbeats 1000000 in
/-- The list is boxed, and the function value holds the box. -/
theorem back_in (F : Fence) (n : Nat) (h5 : F.fn 67) (hro : F.round = none) (a : Option Addr) (len cap : Nat) (w : World) :
    CallsIn F n Try.prog 67 #[.slice a len cap] w fun e w' => e = .returned (.func (.func 100) #[] #[.pointer (some ⟨w.heap.size, 0, none⟩)]) ∧ w' = w.alloc (.cells #[.slice a len cap] 51) := by
  refine callsIn_of_wp Try.func67 rfl h5 ?_ hro
  simp only [Try.ntmps67, List.size_toArray, List.length_cons, List.length_nil, Nat.reduceAdd, Nat.reduceSub, Array.replicate_succ, Array.replicate_zero, List.push_toArray, List.append_toArray, List.nil_append, List.cons_append]
  gi_wp2
  go_ret
  exact ⟨rfl, rfl⟩
end Go.Proofs.Ythpmckfjlbiiiab.bwd
