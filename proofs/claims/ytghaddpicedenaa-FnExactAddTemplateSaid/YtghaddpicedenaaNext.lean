/-
  Proved: what the program's function that makes the next row of least costs returns.
  Conditions: both lists are sequences, and the band reaches the second one.
-/
import Derived.Test.YtghaddpicedenaaRow0
namespace Go.Proofs.Ytghaddpicedenaa.dp
open Go.ChangeShapes Go.WideShapes Go.ChangeAt Go.RowKit Go.Joins
open Go.Proofs.Ytghaddpicedenaa.core Go.Proofs.Ytghaddpicedenaa.rown Go.Proofs.Ytghaddpicedenaa.stk Go.Proofs.Ytghaddpicedenaa.boxed Go.Proofs.Ytghaddpicedenaa.ft Go.Proofs.Ytghaddpicedenaa.seq Go.Proofs.Ytghaddpicedenaa.tab Go.Proofs.Ytghaddpicedenaa.put3
set_option linter.unusedVariables false
set_option linter.unusedSimpArgs false
/-- A row that is made up to the place J. -/
def part (fa fb : Nat → P3) (bd i : Nat) (r : Nat → Int) (J q : Nat) : Int := if q ≤ J then nxt fa fb (bd : Int) i r q else bar
theorem nxt_off {fa fb : Nat → P3} {bd i : Nat} {r : Nat → Int} {j : Nat} (h : ¬ absv ((i : Int) - (j : Int)) ≤ (bd : Int)) : nxt fa fb (bd : Int) i r (j + 1) = bar := by unfold nxt; rw [if_neg h]
theorem absv_le {i j bd : Nat} : absv ((i : Int) - (j : Int)) ≤ (bd : Int) ↔ i ≤ j + bd ∧ j ≤ i + bd := by unfold absv; split <;> omega
theorem part_start {fa fb : Nat → P3} {bd i : Nat} {r : Nat → Int} (q : Nat) : part fa fb bd i r (i - bd) q = bar := by
  unfold part
  split
  · rename_i h
    cases q with
    | zero => rfl
    | succ j => exact nxt_off (by rw [absv_le]; omega)
  · rfl
theorem part_step {fa fb : Nat → P3} {bd i J : Nat} {r : Nat → Int} (h1 : i ≤ J + bd) (h2 : J ≤ i + bd) (q : Nat) : part fa fb bd i r (J + 1) q = if q = J + 1 then cst (fa i) (fb J) + min (min (r J) (r (J + 1))) (part fa fb bd i r J J) else part fa fb bd i r J q := by
  unfold part
  rw [if_pos (Nat.le_refl J)]
  by_cases e : q = J + 1
  · subst e
    rw [if_pos (Nat.le_refl _), if_pos rfl]
    conv => lhs; unfold nxt
    rw [if_pos (absv_le.2 ⟨h1, h2⟩)]
  · rw [if_neg e]
    by_cases h : q ≤ J
    · rw [if_pos h, if_pos (by omega)]
    · rw [if_neg h, if_neg (by omega)]
theorem part_end {fa fb : Nat → P3} {bd i J nb : Nat} {r : Nat → Int} (h : nb ≤ J ∨ i + bd < J) (q : Nat) (hq : q < nb + 1) : part fa fb bd i r J q = nxt fa fb (bd : Int) i r q := by
  unfold part
  split
  · rfl
  · rename_i hn
    cases q with
    | zero => rfl
    | succ j => rw [nxt_off]; rw [absv_le]; omega
theorem part_in {fa fb : Nat → P3} {bd i nb : Nat} {r : Nat → Int} (ha : inF (fa i) = true) (hb : ∀ j, j < nb → inF (fb j) = true) (hr : ∀ q, q ≤ nb → 0 ≤ r q ∧ r q ≤ 2 * bar) (J q : Nat) (hq : q ≤ nb) : 0 ≤ part fa fb bd i r J q ∧ part fa fb bd i r J q ≤ 2 * bar + 574 := by
  have hbar : bar = 1099511627776 := rfl
  have h := nxt_in (band := (bd : Int)) (i := i) (m := nb) (r := r) (B := 2 * bar) (by omega) ha hb hr q hq
  unfold part
  split <;> omega
theorem one_cast {w : World} {base E n : Nat} {v : Value} {F F' : Nat → Int} (h : w.ownsRow base E 1 v n (rws (one F) n)) (he : ∀ j, j < n → F j = F' j) : w.ownsRow base E 1 v n (rws (one F') n) := by
  rw [← rws_congr (r := one F) (r' := one F') n fun i hi => by unfold one; rw [he i hi]]
  exact h
/-- The row in the making but for the place d. -/
def RO (W : World) (base g n d : Nat) (P : Nat → Int) : Prop := ∃ F, rowO W base g n F ∧ ∀ q, q ≠ d → F q = P q
/-- What the round reads. -/
abbrev NX (base bx g gr n J ga pa gb pb : Nat) (A B : Value) (p q : P3) (R0 R1 X0 : Int) (P : Nat → Int) (w1 W : World) : Prop :=
  W.cell? ⟨bx, 0, none⟩ = some A ∧ W.cell? ⟨bx, 1, none⟩ = some B ∧ W.cell? ⟨ga, pa, none⟩ = some (.int .i64 p.1) ∧ W.cell? ⟨ga, pa + 1, none⟩ = some (.int .i64 p.2.1) ∧ W.cell? ⟨ga, pa + 2, none⟩ = some (.int .i64 p.2.2) ∧
  W.cell? ⟨gb, pb, none⟩ = some (.int .i64 q.1) ∧ W.cell? ⟨gb, pb + 1, none⟩ = some (.int .i64 q.2.1) ∧ W.cell? ⟨gb, pb + 2, none⟩ = some (.int .i64 q.2.2) ∧ W.cell? ⟨gr, J, none⟩ = some (.int .i64 R0) ∧ W.cell? ⟨gr, J + 1, none⟩ = some (.int .i64 R1) ∧
  W.cell? ⟨g, J, none⟩ = some (.int .i64 X0) ∧ (∃ v, W.cell? ⟨g, J + 1, none⟩ = some v) ∧ (∀ i, W.frozen? ⟨g, i, none⟩ = false) ∧ (bx < W.heap.size ∧ ga < W.heap.size ∧ gb < W.heap.size ∧ gr < W.heap.size ∧ g < W.heap.size) ∧ RO W base g n (J + 1) P ∧ Below base w1 W
section

variable {base bx g gr n J ga pa gb pb : Nat} {A B : Value} {p q : P3} {R0 R1 X0 : Int} {P : Nat → Int} {w1 W W' : World}
theorem NX_kept (hb : Below W.heap.size W W') (hz : base ≤ W.heap.size) (h : NX base bx g gr n J ga pa gb pb A B p q R0 R1 X0 P w1 W) : NX base bx g gr n J ga pa gb pb A B p q R0 R1 X0 P w1 W' := by
  obtain ⟨h1, h2, h3, h4, h5, h6, h7, h8, h9, h10, h11, ⟨v, h12⟩, h13, ⟨z1, z2, z3, z4, z5⟩, ⟨F, hF, hP⟩, hB⟩ := h
  have hs := hb.size
  exact ⟨(hb.cell (p := ⟨bx, 0, none⟩) z1).trans h1, (hb.cell (p := ⟨bx, 1, none⟩) z1).trans h2, (hb.cell (p := ⟨ga, pa, none⟩) z2).trans h3, (hb.cell (p := ⟨ga, pa + 1, none⟩) z2).trans h4, (hb.cell (p := ⟨ga, pa + 2, none⟩) z2).trans h5,
    (hb.cell (p := ⟨gb, pb, none⟩) z3).trans h6, (hb.cell (p := ⟨gb, pb + 1, none⟩) z3).trans h7, (hb.cell (p := ⟨gb, pb + 2, none⟩) z3).trans h8, (hb.cell (p := ⟨gr, J, none⟩) z4).trans h9, (hb.cell (p := ⟨gr, J + 1, none⟩) z4).trans h10,
    (hb.cell (p := ⟨g, J, none⟩) z5).trans h11, ⟨v, (hb.cell (p := ⟨g, J + 1, none⟩) z5).trans h12⟩, fun i => (hb.frozen (p := ⟨g, i, none⟩) z5).trans (h13 i), ⟨by omega, by omega, by omega, by omega, by omega⟩, ⟨F, rown.ownsRow_kept hF hb, hP⟩, hB.trans (hb.mono hz)⟩
theorem NX_drew (hz : base ≤ W.heap.size) (h : NX base bx g gr n J ga pa gb pb A B p q R0 R1 X0 P w1 W) : NX base bx g gr n J ga pa gb pb A B p q R0 R1 X0 P w1 W.drew := NX_kept ((Below.refl _ _).drew) hz h
theorem NX_store (T : Int) (hJ : J + 1 < n) (hx : bx ≠ g) (ha : ga ≠ g) (hb : gb ≠ g) (hr : gr ≠ g) (hbg : base ≤ g) (h : NX base bx g gr n J ga pa gb pb A B p q R0 R1 X0 P w1 W) : NX base bx g gr n J ga pa gb pb A B p q R0 R1 X0 P w1 (W.setCell ⟨g, J + 1, none⟩ (.int .i64 T)) := by
  obtain ⟨h1, h2, h3, h4, h5, h6, h7, h8, h9, h10, h11, ⟨v, h12⟩, h13, ⟨z1, z2, z3, z4, z5⟩, ⟨F, hF, hP⟩, hB⟩ := h
  have ek : ∀ k, k ≠ g → (W.setCell ⟨g, J + 1, none⟩ (.int .i64 T)).heap[k]? = W.heap[k]? := fun k hk => Below.heap_setCell _ _ _ _ (by simpa using hk)
  have hF' : rowO (W.setCell ⟨g, J + 1, none⟩ (.int .i64 T)) base g n (fun q => if q = J + 1 then T else F q) := by
    have h' := own_set1 hF (.int .i64 T) (p := J + 1) (by rw [rws_len (one_len _)]; omega)
    rwa [set1 F (fun q => if q = J + 1 then T else F q) n (J + 1) hJ T (fun _ => rfl)] at h'
  have hsz : (W.setCell ⟨g, J + 1, none⟩ (.int .i64 T)).heap.size = W.heap.size := by simp [World.setCell]
  have x0 := one_cell hF' (show J < n by omega)
  have e0 := one_cell hF (show J < n by omega)
  rw [h11] at e0
  have e1 : (fun q => if q = J + 1 then T else F q) J = X0 := by
    show (if J = J + 1 then T else F J) = X0
    rw [if_neg (by omega)]
    injection e0 with e0
    injection e0 with e0 e2
    exact e2.symm
  have x0 : (W.setCell ⟨g, J + 1, none⟩ (.int .i64 T)).cell? ⟨g, J, none⟩ = some (.int .i64 X0) := by rw [x0]; exact congrArg (fun z => some (Value.int .i64 z)) e1
  exact ⟨(World.cell?_of_block (ek bx hx)).trans h1, (World.cell?_of_block (ek bx hx)).trans h2, (World.cell?_of_block (ek ga ha)).trans h3, (World.cell?_of_block (ek ga ha)).trans h4, (World.cell?_of_block (ek ga ha)).trans h5,
    (World.cell?_of_block (ek gb hb)).trans h6, (World.cell?_of_block (ek gb hb)).trans h7, (World.cell?_of_block (ek gb hb)).trans h8, (World.cell?_of_block (ek gr hr)).trans h9, (World.cell?_of_block (ek gr hr)).trans h10,
    x0, ⟨_, one_cell hF' hJ⟩, free_row hF', ⟨by omega, by omega, by omega, by omega, by omega⟩, ⟨_, hF', fun q hq => by show (if q = J + 1 then T else F q) = P q; rw [if_neg hq]; exact hP q hq⟩, hB.setCell hbg _⟩
end
end Go.Proofs.Ytghaddpicedenaa.dp
