/-
  Proved: what the functions on a segment's length and on the sides of points return.
  Conditions: the points are in their range.
-/
import Derived.Test.YtmphnhffelfbgaaLen
import Derived.Deep.QuietTactic
namespace Go.Proofs.Ytmphnhffelfbgaa.side
open Go.ChangeShapes Go.WideShapes Go.ChangeAt Go.RowKit Go.Joins
open Go.Proofs.Ytmphnhffelfbgaa.core Go.Proofs.Ytmphnhffelfbgaa.geoM Go.Proofs.Ytmphnhffelfbgaa.stk Go.Proofs.Ytmphnhffelfbgaa.seg
set_option linter.unusedVariables false
set_option linter.unusedSimpArgs false

abbrev sg (a b : P3) : Value := .agg #[.int .i64 a.1, .int .i64 a.2.1, .int .i64 a.2.2, .int .i64 b.1, .int .i64 b.2.1, .int .i64 b.2.2]
abbrev pv (a : P3) : Value := pt a.1 a.2.1 a.2.2
theorem below_drewN {B : Nat} {w w' : World} (h : Below B w w') (q : Nat) : Below B w (w'.drewN q) := ⟨h.os, h.tape, h.output, h.size, h.block⟩
theorem mixedO : Try.prog.follows .mixedOrders = true := by kernel_rfl

set_option maxRecDepth 100000 in
set_option maxHeartbeats 1000000 in
theorem isNaN_calls (a : Int) (w : World) : Calls Try.prog 97 #[.int .i64 a] w fun e w' => e = .returned (.bool false) ∧ w = w' := by
  have hne : (a != a) = false := by simp
  go_enter Try.func97, Try.ntmps97
  go_wp2
  go_ret
  exact ⟨ret_bool (by first | rfl | simp), rfl⟩
set_option maxRecDepth 100000 in
set_option maxHeartbeats 2000000 in
theorem square_calls (a b : P3) (ha : Rg a) (hb : Rg b) (w : World) :
    Calls Try.prog 84 #[sg a b] w fun e w' => e = .returned (.int .i64 (far a b : Nat)) ∧ Below w.heap.size w w' := by
  have hc := far_cast a b
  unfold farI at hc
  obtain ⟨a1, a2, a3, a4⟩ := ha
  obtain ⟨b1, b2, b3, b4⟩ := hb
  obtain ⟨⟨x, hx⟩, ⟨y, hy⟩⟩ : (∃ x, x = b.1 - a.1) ∧ (∃ y, y = b.2.1 - a.2.1) := ⟨⟨_, rfl⟩, ⟨_, rfl⟩⟩
  rw [← hx, ← hy] at hc
  have h1 := sq_small (x := x) (by omega) (by omega)
  have h2 := sq_small (x := y) (by omega) (by omega)
  have x1 : IntKind.i64.wrap (b.1 - a.1) = x := by rw [← hx]; exact IntWalk.i64_in _ (by omega)
  have y1 : IntKind.i64.wrap (b.2.1 - a.2.1) = y := by rw [← hy]; exact IntWalk.i64_in _ (by omega)
  have hxx : -4095 ≤ x ∧ x ≤ 4095 := by omega
  have hyy : -4095 ≤ y ∧ y ≤ 4095 := by omega
  have HC := Lib.hid hc
  obtain ⟨q1, e1⟩ : ∃ q, x * x = q := ⟨_, rfl⟩
  obtain ⟨q2, e2⟩ : ∃ q, y * y = q := ⟨_, rfl⟩
  rw [e1] at h1
  rw [e2] at h2
  clear hx hy hc a1 a2 a3 a4 b1 b2 b3 b4
  have hm := mixedO
  go_enter Try.func84, Try.ntmps84
  go_wp2
  go_quiet (fail)
  go_wp2
  go_ret
  exact ⟨ret_int (by rw [HC.out]; omega), below_drewN (below_alloc1 _ _) _⟩
set_option maxRecDepth 100000 in
set_option maxHeartbeats 1000000 in
theorem length_calls (a b : P3) (ha : Rg a) (hb : Rg b) (w : World) :
    Calls Try.prog 60 #[sg a b] w fun e w' => e = .returned (.int .i64 (len a b : Nat)) ∧ Below w.heap.size w w' := by
  have hf := far_le ha hb
  have HF := Lib.hid (fun W => square_calls a b ha hb W)
  have HL : Hid (root (256 * far a b) = len a b) := Lib.hid rfl
  have hm : 256 * ((far a b : Nat) : Int) = ((256 * far a b : Nat) : Int) := by omega
  have hle : 256 * far a b ≤ 1000000000000000 := by omega
  clear ha hb
  generalize len a b = l at HL ⊢
  generalize far a b = f at *
  obtain ⟨m, hmm⟩ : ∃ m, 256 * f = m := ⟨_, rfl⟩
  rw [hmm] at hm hle HL
  have hm2 : (256 : Int) * (f : Int) ≤ 1000000000000000 := by omega
  clear hmm
  go_enter Try.func60, Try.ntmps60
  go_wp2_with fail
  with_reducible refine (HF.out _).mono ?_
  rintro e w1 ⟨rfl, hb1⟩
  have HB := Lib.hid ((below_alloc1 w _).trans (hb1.mono (below_alloc1 w _).size))
  clear hb1 HF
  go_wp2_with fail
  try rw [hm]
  refine (blen.root_calls m hle _).mono ?_
  rintro e w2 ⟨rfl, rfl⟩
  rw [HL.out]
  clear hm
  go_wp2
  go_ret
  exact ⟨rfl, HB.out⟩

end Go.Proofs.Ytmphnhffelfbgaa.side
