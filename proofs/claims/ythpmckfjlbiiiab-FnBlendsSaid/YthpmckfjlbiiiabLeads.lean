/-
  Proved: what the program's function that tells whether one pair may follow another one returns.
  Conditions: the numbers of the first pair are those of a place in a list.
-/
import Derived.Test.YthpmckfjlbiiiabSeqI
import Derived.Test.YthpmckfjlbiiiabTabD
namespace Go.Proofs.Ythpmckfjlbiiiab.path
open Go.ChangeShapes Go.WideShapes Go.ChangeAt Go.RowKit Go.Joins
open Go.Proofs.Ythpmckfjlbiiiab.core Go.Proofs.Ythpmckfjlbiiiab.rown Go.Proofs.Ythpmckfjlbiiiab.stk Go.Proofs.Ythpmckfjlbiiiab.boxed Go.Proofs.Ythpmckfjlbiiiab.ft Go.Proofs.Ythpmckfjlbiiiab.seq
set_option linter.unusedVariables false
set_option linter.unusedSimpArgs false
abbrev qv (p : P2) : Value := .agg #[.int .i64 p.1, .int .i64 p.2]
set_option maxRecDepth 100000 in
set_option maxHeartbeats 2000000 in
theorem leads_yes (p q : P2) (h1 : 0 ≤ p.1 ∧ p.1 ≤ 1048576) (h2 : 0 ≤ p.2 ∧ p.2 ≤ 1048576) (hs : stepP p q) (w : World) : Calls Try.prog 63 #[qv p, qv q] w fun e w' => e = .returned (.bool true) ∧ Below w.heap.size w w' := by
  obtain ⟨x, y⟩ := p
  obtain ⟨x', y'⟩ := q
  unfold stepP at hs
  simp only at h1 h2 hs
  have BA := Lib.hid (below_alloc2 w (.cells #[.int .i64 x, .int .i64 y] 59) (.cells #[.int .i64 x', .int .i64 y'] 59))
  have HC : (x' = x + 1 ∧ y' = y + 1) ∨ (x' = x + 1 ∧ y' = y) ∨ (x' = x ∧ y' = y + 1) := by omega
  have E1 : IntKind.i64.wrap (x + 1) = x + 1 := IntWalk.i64_in _ (by omega)
  have E2 : IntKind.i64.wrap (y + 1) = y + 1 := IntWalk.i64_in _ (by omega)
  have F1 : wrap64 (x + 1) = x + 1 := by rw [← IntWalk.i64_left]; exact E1
  have F2 : wrap64 (y + 1) = y + 1 := by rw [← IntWalk.i64_left]; exact E2
  have hu : undef = Value.tuple #[] := rfl
  clear hs
  rcases HC with ⟨rfl, rfl⟩ | ⟨rfl, rfl⟩ | ⟨rfl, rfl⟩
  · go_enter Try.func63, Try.ntmps63
    go_wp2
    go_ret
    exact ⟨rfl, BA.out⟩
  · have n1 : ¬ y' = y' + 1 := by omega
    go_enter Try.func63, Try.ntmps63
    go_wp2
    go_ret
    exact ⟨rfl, BA.out⟩
  · have n1 : ¬ x' = x' + 1 := by omega
    go_enter Try.func63, Try.ntmps63
    go_wp2
    go_ret
    exact ⟨rfl, BA.out⟩
set_option maxRecDepth 100000 in
set_option maxHeartbeats 2000000 in
theorem leads_no (p q : P2) (h1 : 0 ≤ p.1 ∧ p.1 ≤ 1048576) (h2 : 0 ≤ p.2 ∧ p.2 ≤ 1048576) (hs : ¬ stepP p q) (w : World) : Calls Try.prog 63 #[qv p, qv q] w fun e w' => e = .returned (.bool false) ∧ Below w.heap.size w w' := by
  obtain ⟨x, y⟩ := p
  obtain ⟨x', y'⟩ := q
  unfold stepP at hs
  simp only at h1 h2 hs
  have BA := Lib.hid (below_alloc2 w (.cells #[.int .i64 x, .int .i64 y] 59) (.cells #[.int .i64 x', .int .i64 y'] 59))
  have HC : (x' = x + 1 ∧ ¬ y' = y + 1 ∧ ¬ y' = y) ∨ (x' = x ∧ ¬ y' = y + 1) ∨ (¬ x' = x + 1 ∧ ¬ x' = x) := by omega
  have E1 : IntKind.i64.wrap (x + 1) = x + 1 := IntWalk.i64_in _ (by omega)
  have E2 : IntKind.i64.wrap (y + 1) = y + 1 := IntWalk.i64_in _ (by omega)
  have F1 : wrap64 (x + 1) = x + 1 := by rw [← IntWalk.i64_left]; exact E1
  have F2 : wrap64 (y + 1) = y + 1 := by rw [← IntWalk.i64_left]; exact E2
  have hu : undef = Value.tuple #[] := rfl
  clear hs
  rcases HC with ⟨rfl, n1, n2⟩ | ⟨rfl, n1⟩ | ⟨n1, n2⟩
  · have n3 : ¬ x + 1 = x := by omega
    go_enter Try.func63, Try.ntmps63
    go_wp2
    go_ret
    exact ⟨rfl, BA.out⟩
  · have n3 : ¬ x' = x' + 1 := by omega
    go_enter Try.func63, Try.ntmps63
    go_wp2
    go_ret
    exact ⟨rfl, BA.out⟩
  · go_enter Try.func63, Try.ntmps63
    go_wp2
    go_ret
    exact ⟨rfl, BA.out⟩
end Go.Proofs.Ythpmckfjlbiiiab.path
