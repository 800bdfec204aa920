/-
  Proved: what the program's function that makes the next row of least costs returns.
  Conditions: both lists are sequences, and the band reaches the second one.
-/
import Derived.Test.YtkcfghbkcgommaaRow0
namespace Go.Proofs.Ytkcfghbkcgommaa.dp
open Go.ChangeShapes Go.WideShapes Go.ChangeAt Go.RowKit Go.Joins
open Go.Proofs.Ytkcfghbkcgommaa.core Go.Proofs.Ytkcfghbkcgommaa.rown Go.Proofs.Ytkcfghbkcgommaa.stk Go.Proofs.Ytkcfghbkcgommaa.boxed Go.Proofs.Ytkcfghbkcgommaa.ft Go.Proofs.Ytkcfghbkcgommaa.seq Go.Proofs.Ytkcfghbkcgommaa.tab Go.Proofs.Ytkcfghbkcgommaa.put3
set_option linter.unusedVariables false
set_option linter.unusedSimpArgs false
/-- A row that is made up to the place J. -/
def part (fa fb : Nat → P3) (bd i : Nat) (r : Nat → Int) (J q : Nat) : Int := if q ≤ J then nxt fa fb (bd : Int) i r q else bar
theorem nxt_off {fa fb : Nat → P3} {bd i : Nat} {r : Nat → Int} {j : Nat} (h : ¬ absv ((i : Int) - (j : Int)) ≤ (bd : Int)) : nxt fa fb (bd : Int) i r (j + 1) = bar := by unfold nxt; rw [if_neg h]
theorem absv_le {i j bd : Nat} : absv ((i : Int) - (j : Int)) ≤ (bd : Int) ↔ i ≤ j + bd ∧ j ≤ i + bd := by unfold absv; split <;> omega
theorem part_start {fa fb : Nat → P3} {bd i : Nat} {r : Nat → Int} (q : Nat) : part fa fb bd i r (i - bd) q = bar := by
  unfold part
  split
  · rename_i h
    cases q with
    | zero => rfl
    | succ j => exact nxt_off (by rw [absv_le]; omega)
  · rfl
theorem part_step {fa fb : Nat → P3} {bd i J : Nat} {r : Nat → Int} (h1 : i ≤ J + bd) (h2 : J ≤ i + bd) (q : Nat) : part fa fb bd i r (J + 1) q = if q = J + 1 then cst (fa i) (fb J) + min (min (r J) (r (J + 1))) (part fa fb bd i r J J) else part fa fb bd i r J q := by
  unfold part
  rw [if_pos (Nat.le_refl J)]
  by_cases e : q = J + 1
  · subst e
    rw [if_pos (Nat.le_refl _), if_pos rfl]
    conv => lhs; unfold nxt
    rw [if_pos (absv_le.2 ⟨h1, h2⟩)]
  · rw [if_neg e]
    by_cases h : q ≤ J
    · rw [if_pos h, if_pos (by omega)]
    · rw [if_neg h, if_neg (by omega)]
theorem part_end {fa fb : Nat → P3} {bd i J nb : Nat} {r : Nat → Int} (h : nb ≤ J ∨ i + bd < J) (q : Nat) (hq : q < nb + 1) : part fa fb bd i r J q = nxt fa fb (bd : Int) i r q := by
  unfold part
  split
  · rfl
  · rename_i hn
    cases q with
    | zero => rfl
    | succ j => rw [nxt_off]; rw [absv_le]; omega
theorem part_in {fa fb : Nat → P3} {bd i nb : Nat} {r : Nat → Int} (ha : inF (fa i) = true) (hb : ∀ j, j < nb → inF (fb j) = true) (hr : ∀ q, q ≤ nb → 0 ≤ r q ∧ r q ≤ 2 * bar) (J q : Nat) (hq : q ≤ nb) : 0 ≤ part fa fb bd i r J q ∧ part fa fb bd i r J q ≤ 2 * bar + 574 := by
  have hbar : bar = 1099511627776 := rfl
  have h := nxt_in (band := (bd : Int)) (i := i) (m := nb) (r := r) (B := 2 * bar) (by omega) ha hb hr q hq
  unfold part
  split <;> omega
theorem one_cast {w : World} {base E n : Nat} {v : Value} {F F' : Nat → Int} (h : w.ownsRow base E 1 v n (rws (one F) n)) (he : ∀ j, j < n → F j = F' j) : w.ownsRow base E 1 v n (rws (one F') n) := by
  rw [← rws_congr (r := one F) (r' := one F') n fun i hi => by unfold one; rw [he i hi]]
  exact h
/-- The row in the making but for the place d. -/
def RO (W : World) (base g n d : Nat) (P : Nat → Int) : Prop := ∃ F, rowO W base g n F ∧ ∀ q, q ≠ d → F q = P q
/-- What the round reads. -/
abbrev NX (base bx g gr n J ga pa gb pb : Nat) (A B : Value) (p q : P3) (R0 R1 X0 : Int) (P : Nat → Int) (w1 W : World) : Prop :=
  W.cell? ⟨bx, 0, none⟩ = some A ∧ W.cell? ⟨bx, 1, none⟩ = some B ∧ W.cell? ⟨ga, pa, none⟩ = some (.int .i64 p.1) ∧ W.cell? ⟨ga, pa + 1, none⟩ = some (.int .i64 p.2.1) ∧ W.cell? ⟨ga, pa + 2, none⟩ = some (.int .i64 p.2.2) ∧
  W.cell? ⟨gb, pb, none⟩ = some (.int .i64 q.1) ∧ W.cell? ⟨gb, pb + 1, none⟩ = some (.int .i64 q.2.1) ∧ W.cell? ⟨gb, pb + 2, none⟩ = some (.int .i64 q.2.2) ∧ W.cell? ⟨gr, J, none⟩ = some (.int .i64 R0) ∧ W.cell? ⟨gr, J + 1, none⟩ = some (.int .i64 R1) ∧
  W.cell? ⟨g, J, none⟩ = some (.int .i64 X0) ∧ (∃ v, W.cell? ⟨g, J + 1, none⟩ = some v) ∧ (∀ i, W.frozen? ⟨g, i, none⟩ = false) ∧ (bx < W.heap.size ∧ ga < W.heap.size ∧ gb < W.heap.size ∧ gr < W.heap.size ∧ g < W.heap.size) ∧ RO W base g n (J + 1) P ∧ Below base w1 W
section

variable {base bx g gr n J ga pa gb pb : Nat} {A B : Value} {p q : P3} {R0 R1 X0 : Int} {P : Nat → Int} {w1 W W' : World}
theorem NX_kept (hb : Below W.heap.size W W') (hz : base ≤ W.heap.size) (h : NX base bx g gr n J ga pa gb pb A B p q R0 R1 X0 P w1 W) : NX base bx g gr n J ga pa gb pb A B p q R0 R1 X0 P w1 W' := by
  obtain ⟨h1, h2, h3, h4, h5, h6, h7, h8, h9, h10, h11, ⟨v, h12⟩, h13, ⟨z1, z2, z3, z4, z5⟩, ⟨F, hF, hP⟩, hB⟩ := h
  have hs := hb.size
  exact ⟨(hb.cell (p := ⟨bx, 0, none⟩) z1).trans h1, (hb.cell (p := ⟨bx, 1, none⟩) z1).trans h2, (hb.cell (p := ⟨ga, pa, none⟩) z2).trans h3, (hb.cell (p := ⟨ga, pa + 1, none⟩) z2).trans h4, (hb.cell (p := ⟨ga, pa + 2, none⟩) z2).trans h5,
    (hb.cell (p := ⟨gb, pb, none⟩) z3).trans h6, (hb.cell (p := ⟨gb, pb + 1, none⟩) z3).trans h7, (hb.cell (p := ⟨gb, pb + 2, none⟩) z3).trans h8, (hb.cell (p := ⟨gr, J, none⟩) z4).trans h9, (hb.cell (p := ⟨gr, J + 1, none⟩) z4).trans h10,
    (hb.cell (p := ⟨g, J, none⟩) z5).trans h11, ⟨v, (hb.cell (p := ⟨g, J + 1, none⟩) z5).trans h12⟩, fun i => (hb.frozen (p := ⟨g, i, none⟩) z5).trans (h13 i), ⟨by omega, by omega, by omega, by omega, by omega⟩, ⟨F, rown.ownsRow_kept hF hb, hP⟩, hB.trans (hb.mono hz)⟩
theorem NX_drew (hz : base ≤ W.heap.size) (h : NX base bx g gr n J ga pa gb pb A B p q R0 R1 X0 P w1 W) : NX base bx g gr n J ga pa gb pb A B p q R0 R1 X0 P w1 W.drew := NX_kept ((Below.refl _ _).drew) hz h
theorem NX_store (T : Int) (hJ : J + 1 < n) (hx : bx ≠ g) (ha : ga ≠ g) (hb : gb ≠ g) (hr : gr ≠ g) (hbg : base ≤ g) (h : NX base bx g gr n J ga pa gb pb A B p q R0 R1 X0 P w1 W) : NX base bx g gr n J ga pa gb pb A B p q R0 R1 X0 P w1 (W.setCell ⟨g, J + 1, none⟩ (.int .i64 T)) := by
  obtain ⟨h1, h2, h3, h4, h5, h6, h7, h8, h9, h10, h11, ⟨v, h12⟩, h13, ⟨z1, z2, z3, z4, z5⟩, ⟨F, hF, hP⟩, hB⟩ := h
  have ek : ∀ k, k ≠ g → (W.setCell ⟨g, J + 1, none⟩ (.int .i64 T)).heap[k]? = W.heap[k]? := fun k hk => Below.heap_setCell _ _ _ _ (by simpa using hk)
  have hF' : rowO (W.setCell ⟨g, J + 1, none⟩ (.int .i64 T)) base g n (fun q => if q = J + 1 then T else F q) := by
    have h' := own_set1 hF (.int .i64 T) (p := J + 1) (by rw [rws_len (one_len _)]; omega)
    rwa [set1 F (fun q => if q = J + 1 then T else F q) n (J + 1) hJ T (fun _ => rfl)] at h'
  have hsz : (W.setCell ⟨g, J + 1, none⟩ (.int .i64 T)).heap.size = W.heap.size := by simp [World.setCell]
  have x0 := one_cell hF' (show J < n by omega)
  have e0 := one_cell hF (show J < n by omega)
  rw [h11] at e0
  have e1 : (fun q => if q = J + 1 then T else F q) J = X0 := by
    show (if J = J + 1 then T else F J) = X0
    rw [if_neg (by omega)]
    injection e0 with e0
    injection e0 with e0 e2
    exact e2.symm
  have x0 : (W.setCell ⟨g, J + 1, none⟩ (.int .i64 T)).cell? ⟨g, J, none⟩ = some (.int .i64 X0) := by rw [x0]; exact congrArg (fun z => some (Value.int .i64 z)) e1
  exact ⟨(World.cell?_of_block (ek bx hx)).trans h1, (World.cell?_of_block (ek bx hx)).trans h2, (World.cell?_of_block (ek ga ha)).trans h3, (World.cell?_of_block (ek ga ha)).trans h4, (World.cell?_of_block (ek ga ha)).trans h5,
    (World.cell?_of_block (ek gb hb)).trans h6, (World.cell?_of_block (ek gb hb)).trans h7, (World.cell?_of_block (ek gb hb)).trans h8, (World.cell?_of_block (ek gr hr)).trans h9, (World.cell?_of_block (ek gr hr)).trans h10,
    x0, ⟨_, one_cell hF' hJ⟩, free_row hF', ⟨by omega, by omega, by omega, by omega, by omega⟩, ⟨_, hF', fun q hq => by show (if q = J + 1 then T else F q) = P q; rw [if_neg hq]; exact hP q hq⟩, hB.setCell hbg _⟩
end
set_option maxRecDepth 100000 in
set_option maxHeartbeats 8000000 in
theorem nextI {cr : Nat} (A B : Option Addr) (na nb ca cb bd : Nat) (fa fb : Nat → P3) (i : Nat) (r : Nat → Int) (gr : Nat) (w : World) (hn1 : 1 ≤ nb) (hnb : nb ≤ 72) (hbd : bd ≤ 72) (hna : na ≤ 72) (hi : i < na) (hlo : i < nb + bd) (ha : inF (fa i) = true) (hb : ∀ j, j < nb → inF (fb j) = true)
    (hr : ∀ q, q ≤ nb → 0 ≤ r q ∧ r q ≤ 2 * bar) (pa : PtsAt w A na fa) (pb : PtsAt w B nb fb) (pr : ∀ q, q ≤ nb → w.cell? ⟨gr, q, none⟩ = some (.int .i64 (r q))) :
    Calls Try.prog 142 #[mtv A B na nb ca cb bd, .slice (some ⟨gr, 0, none⟩) (nb + 1) cr, .int .i64 (i : Int)] w fun e w' => ∃ g, e = .returned (.slice (some ⟨g, 0, none⟩) (nb + 1) (nb + 1)) ∧ rowO w' w.heap.size g (nb + 1) (nxt fa fb (bd : Int) i r) ∧ Below w.heap.size w w' := by
  have BA := Lib.hid (below_alloc1 w (mtc A B na nb ca cb bd))
  have K0 := Lib.hid (heap_alloc_new w (mtc A B na nb ca cb bd))
  have HR := Lib.hid (fun W => barI A B na nb ca cb bd W hnb)
  have HPA := Lib.hid pa
  have HPB := Lib.hid pb
  have HPR := Lib.hid (fun q hq => (show w.cell? ⟨gr, q, none⟩ = some (.int .i64 (r q)) ∧ gr < w.heap.size from ⟨pr q hq, World.block_lt_of_cell? w ⟨gr, q, none⟩ (pr q hq)⟩))
  have HIN := Lib.hid (fun J q hq => part_in (bd := bd) ha hb hr J q hq)
  have HRR := Lib.hid hr
  have HFB := Lib.hid hb
  have HFA := Lib.hid ha
  clear pa pb pr hr hb ha
  have E1 : IntKind.i64.wrap ((i : Int) - (bd : Int)) = (i : Int) - (bd : Int) := IntWalk.i64_in _ (by omega)
  have E2 : IntKind.i64.wrap ((i : Int) + (bd : Int)) = (i : Int) + (bd : Int) := IntWalk.i64_in _ (by omega)
  have E3 : IntKind.i64.wrap ((nb : Int) - 1) = (nb : Int) - 1 := IntWalk.i64_in _ (by omega)
  obtain ⟨lo, hlo'⟩ : ∃ lo, i - bd = lo := ⟨_, rfl⟩
  obtain ⟨hh, hhh⟩ : ∃ h, min (i + bd) (nb - 1) = h := ⟨_, rfl⟩
  have hmax : ∀ (W : World), (Builtin.max_ #[3, 3] 3 #[.int .i64 0, .int .i64 ((i : Int) - (bd : Int))]).run Try.prog W = .ok (.int .i64 (lo : Int)) W := fun W => by rw [run_max2, show max 0 ((i : Int) - (bd : Int)) = (lo : Int) by omega]
  have hmin : ∀ (W : World), (Builtin.min_ #[3, 3] 3 #[.int .i64 ((i : Int) + (bd : Int)), .int .i64 ((nb : Int) - 1)]).run Try.prog W = .ok (.int .i64 (hh : Int)) W := fun W => by rw [run_min2, show min ((i : Int) + (bd : Int)) ((nb : Int) - 1) = (hh : Int) by omega]
  have HLO := Lib.hid (show lo ≤ hh ∧ hh < nb ∧ hh ≤ i + bd ∧ i ≤ lo + bd ∧ i - bd = lo ∧ (hh + 1 = nb ∨ hh = i + bd) by omega)
  clear hlo' hhh hlo
  go_enter Try.func142, Try.ntmps142
  go_wp2_with fail
  refine (HR.out _).mono ?_
  rintro e w1 ⟨g, rfl, ho, hb1⟩
  have HO := Lib.hid (show rowO w1 (w.heap.size + 1) g (nb + 1) (part fa fb bd i r lo) from by
    have h := ownsRow_base ho (show w.heap.size + 1 ≤ _ by simp)
    exact one_cast h (fun j hj => by rw [← HLO.out.2.2.2.2.1, part_start]))
  have M := Lib.hid ((hb1.block _ (block_size K0.out)).trans K0.out)
  have HB := Lib.hid (show Below w.heap.size w w1 from BA.out.trans (hb1.mono BA.out.size))
  have HM1 := Lib.hid (show w.heap.size < w1.heap.size from block_size M.out)
  have y0 := block_size M.out
  have y2 : w1.cell? ⟨w.heap.size, 2, none⟩ = some (.int .i64 (bd : Int)) := by rw [cell_of_block M.out]; rfl
  clear ho hb1 HR K0 BA
  go_wp2
  clear y0 y2
  go_loopw [8] (fun j w' => ∃ J : Nat, lo ≤ J ∧ J ≤ hh + 1 ∧ j = .int .i64 (J : Int) ∧ Hid (rowO w' (w.heap.size + 1) g (nb + 1) (part fa fb bd i r J)) ∧ Hid (Below (w.heap.size + 1) w1 w')) (fun j _ => hh + 1 - (intOf j).toNat)
  case atStart => exact ⟨lo, Nat.le_refl _, by have := HLO.out; omega, rfl, HO, Lib.hid (Below.refl _ _)⟩
  case round =>
    obtain ⟨J, hJ1, hJ2, rfl, HO, HBW⟩ := hrel
    have M2 := Lib.hid ((HBW.out.block _ (by omega)).trans M.out)
    have y0 := block_size M2.out
    have y1 : wr.cell? ⟨w.heap.size, 1, none⟩ = some (.slice B nb cb) := by rw [cell_of_block M2.out]; rfl
    have y2 : wr.cell? ⟨w.heap.size, 2, none⟩ = some (.int .i64 (bd : Int)) := by rw [cell_of_block M2.out]; rfl
    by_cases hlt : J ≤ hh
    · have hli : (J : Int) ≤ (hh : Int) := by omega
      have hHL := HLO.out
      have hw : Below w.heap.size w wr := HB.out.trans (HBW.out.mono (by omega))
      obtain ⟨ga, oa, rfl, hga', -⟩ := HPA.out i hi
      obtain ⟨ga2, oa2, e2, hga, a0, a1, a2⟩ := (HPA.out.kept hw) i hi
      injection e2 with e2
      injection e2 with e2 e3
      subst e2 e3
      obtain ⟨gb, ob, rfl, hgb', -⟩ := HPB.out J (by omega)
      obtain ⟨gb2, ob2, e2, hgb, b0, b1, b2⟩ := (HPB.out.kept hw) J (by omega)
      injection e2 with e2
      injection e2 with e2 e3
      subst e2 e3
      obtain ⟨r0', rz⟩ := HPR.out J (by omega)
      obtain ⟨r1', -⟩ := HPR.out (J + 1) (by omega)
      have r0 := (hw.cell (p := ⟨gr, J, none⟩) rz).trans r0'
      have r1 := (hw.cell (p := ⟨gr, J + 1, none⟩) rz).trans r1'
      have rz' := rz
      have rz := Nat.lt_of_lt_of_le rz hw.size
      have x0 := one_cell HO.out (show J < nb + 1 by omega)
      have x1 := one_cell HO.out (show J + 1 < nb + 1 by omega)
      have xf := free_row HO.out
      have xz := rown.row_lt HO.out
      have m0 : wr.cell? ⟨w.heap.size, 0, none⟩ = some (.slice (some ⟨ga, oa, none⟩) na ca) := by rw [cell_of_block M2.out]; rfl
      have hbg := base_le HO.out
      have q1 := HRR.out J (by omega)
      have q2 := HRR.out (J + 1) (by omega)
      have q3 := HIN.out J J (by omega)
      have q4 := cst_in HFA.out (HFB.out J (by omega))
      have HC := Lib.hid (fun W => costI (fa i) (fb J) HFA.out (HFB.out J (by omega)) W)
      have HS := Lib.hid (fun q => part_step (fa := fa) (fb := fb) (r := r) (show i ≤ J + bd by omega) (show J ≤ i + bd by omega) q)
      obtain ⟨p, hp⟩ : ∃ p, fa i = p := ⟨_, rfl⟩
      obtain ⟨q, hq⟩ : ∃ q, fb J = q := ⟨_, rfl⟩
      rw [hp] at a0 a1 a2 HC HS q4
      rw [hq] at b0 b1 b2 HC HS q4
      obtain ⟨C, hC⟩ : ∃ C, cst p q = C := ⟨_, rfl⟩
      rw [hC] at HC HS q4
      obtain ⟨R0, hR0⟩ : ∃ v, r J = v := ⟨_, rfl⟩
      obtain ⟨R1, hR1⟩ : ∃ v, r (J + 1) = v := ⟨_, rfl⟩
      obtain ⟨X0, hX0⟩ : ∃ v, part fa fb bd i r J J = v := ⟨_, rfl⟩
      obtain ⟨X1, hX1⟩ : ∃ v, part fa fb bd i r J (J + 1) = v := ⟨_, rfl⟩
      rw [hR0] at r0 q1 HS
      rw [hR1] at r1 q2 HS
      rw [hX0] at x0 q3 HS
      rw [hX1] at x1
      have hbar : bar = 1099511627776 := rfl
      obtain ⟨MN, hMN⟩ : ∃ v, min (min R0 R1) X0 = v := ⟨_, rfl⟩
      have hmn : ∀ (W : World), (Builtin.min_ #[2, 2, 2] 2 #[.int .i64 R0, .int .i64 R1, .int .i64 X0]).run Try.prog W = .ok (.int .i64 MN) W := fun W => by rw [run_min3, hMN]
      rw [hMN] at HS
      obtain ⟨T, hT⟩ : ∃ v, C + MN = v := ⟨_, rfl⟩
      rw [hT] at HS
      have E4 : IntKind.i64.wrap (C + MN) = T := by rw [hT]; exact IntWalk.i64_in _ (by omega)
      have F4 : wrap64 (C + MN) = T := by rw [← IntWalk.i64_left]; exact E4
      have HROW := Lib.hid (fun (W : World) (h : RO W (w.heap.size + 1) g (nb + 1) (J + 1) (part fa fb bd i r J)) => (show rowO (W.setCell ⟨g, J + 1, none⟩ (.int .i64 T)) (w.heap.size + 1) g (nb + 1) (part fa fb bd i r (J + 1)) from by
        obtain ⟨F, hF, hP⟩ := h
        have h' := own_set1 hF (.int .i64 T) (p := J + 1) (by rw [rws_len (one_len _)]; omega)
        rwa [set1 F (part fa fb bd i r (J + 1)) (nb + 1) (J + 1) (by omega) T (fun j => by
          rw [HS.out j]
          by_cases e : j = J + 1
          · rw [if_pos e, if_pos e]
          · rw [if_neg e, if_neg e, hP j e])] at h'))
      have hJn : J < nb := by omega
      have hJb : (J : Int) < (nb : Int) := by omega
      have hia : (i : Int) < (na : Int) := by omega
      have E5 : IntKind.i64.wrap ((J : Int) + 1) = (J : Int) + 1 := IntWalk.i64_in _ (by omega)
      have hJb0 : (J : Int) < (nb : Int) + 1 := by omega
      have hJp : (0 : Int) ≤ (J : Int) := by omega
      have hJp1 : (0 : Int) ≤ (J : Int) + 1 := by omega
      have hip : (0 : Int) ≤ (i : Int) := by omega
      have hJn1 : J < nb + 1 := by omega
      have hJn2 : J + 1 < nb + 1 := by omega
      have hJb1 : (J : Int) + 1 < (nb : Int) + 1 := by omega
      have HJ := Lib.hid (show J + 1 ≤ hh + 1 ∧ lo ≤ J + 1 ∧ J ≤ hh by omega)
      have HG := Lib.hid hbg
      clear hmax hp hq hC hR0 hR1 hX0 hX1 hMN hT q1 q2 q3 q4 hbar hHL r0' r1' hw hlt HS HIN HRR HFB HFA HPR
      have HNX := Lib.hid (show NX (w.heap.size + 1) w.heap.size g gr (nb + 1) J ga (oa + i * 3) gb (ob + J * 3) (.slice (some ⟨ga, oa, none⟩) na ca) (.slice (some ⟨gb, ob, none⟩) nb cb) p q R0 R1 X0 (part fa fb bd i r J) w1 wr from ⟨m0, y1, a0, a1, a2, b0, b1, b2, r0, r1, x0, ⟨_, x1⟩, xf, ⟨y0, hga, hgb, rz, xz⟩, ⟨_, HO.out, fun _ _ => rfl⟩, HBW.out⟩)
      have HSZ := Lib.hid (show w.heap.size + 1 ≤ wr.heap.size from y0)
      have HNXD := Lib.hid (NX_drew HSZ.out HNX.out)
      have HD := Lib.hid (show w.heap.size ≠ g ∧ ga ≠ g ∧ gb ≠ g ∧ gr ≠ g from ⟨by omega, by omega, by omega, by omega⟩)
      clear hbg
      go_wp2
      go_region_held3 (fun W => W.cell? ⟨w.heap.size, 0, none⟩ = some (.slice (some ⟨ga, oa, none⟩) na ca) ∧ W.cell? ⟨w.heap.size, 1, none⟩ = some (.slice (some ⟨gb, ob, none⟩) nb cb) ∧ W.cell? ⟨ga, oa + i * 3, none⟩ = some (.int .i64 p.1) ∧ W.cell? ⟨ga, oa + i * 3 + 1, none⟩ = some (.int .i64 p.2.1) ∧ W.cell? ⟨ga, oa + i * 3 + 2, none⟩ = some (.int .i64 p.2.2) ∧
          W.cell? ⟨gb, ob + J * 3, none⟩ = some (.int .i64 q.1) ∧ W.cell? ⟨gb, ob + J * 3 + 1, none⟩ = some (.int .i64 q.2.1) ∧ W.cell? ⟨gb, ob + J * 3 + 2, none⟩ = some (.int .i64 q.2.2) ∧ W.cell? ⟨gr, J, none⟩ = some (.int .i64 R0) ∧ W.cell? ⟨gr, J + 1, none⟩ = some (.int .i64 R1) ∧
          W.cell? ⟨g, J, none⟩ = some (.int .i64 X0) ∧ (∃ v, W.cell? ⟨g, J + 1, none⟩ = some v) ∧ (∀ i, W.frozen? ⟨g, i, none⟩ = false) ∧ (w.heap.size < W.heap.size ∧ ga < W.heap.size ∧ gb < W.heap.size ∧ gr < W.heap.size ∧ g < W.heap.size) ∧ RO W (w.heap.size + 1) g (nb + 1) (J + 1) (part fa fb bd i r J) ∧ Below (w.heap.size + 1) w1 W)
        (first | assumption | exact HNXD.out | exact NX_store T (by omega) HD.out.1 HD.out.2.1 HD.out.2.2.1 HD.out.2.2.2 HG.out (by assumption) | go_keep)
        (first | (go_at_call 144; (with_reducible refine (HC.out _).mono ?_); rintro e wc ⟨rfl, hbc⟩; have hkc := NX_kept (W' := wc) hbc (by first | exact HSZ.out | (simp; omega)) (by assumption); obtain ⟨_, _, _, _, _, _, _, _, _, _, _, ⟨xv, hxv⟩, hxf, ⟨_, _, _, _, hxz⟩, _, _⟩ := id hkc))
      all_goals
        rename_i hh
        have HO4 := Lib.hid (HROW.out wc hkc.2.2.2.2.2.2.2.2.2.2.2.2.2.2.1)
        have HB4 := Lib.hid (hkc.2.2.2.2.2.2.2.2.2.2.2.2.2.2.2.setCell (p := ⟨g, J + 1, none⟩) HG.out (.int .i64 T))
        clear hh hkc hxv hxf hxz a0 a1 a2 b0 b1 b2 r0 r1 x0 x1 xf xz m0 y0 y1 y2
        go_wp2
        go_roundw
        case rel => exact ⟨J + 1, HJ.out.2.1, HJ.out.1, by go_num, HO4, HB4⟩
        case measure => (have := HJ.out; simp [intOf]; omega)
    · have hli : ¬ (J : Int) ≤ (hh : Int) := by omega
      have hHL := HLO.out
      have HX := Lib.hid (show J = hh + 1 by omega)
      go_wp2
      go_ret
      refine ⟨g, rfl, ownsRow_base (one_cast HO.out fun q hq => part_end (by have := HX.out; omega) q hq) (by omega), HB.out.trans (HBW.out.mono (by omega))⟩
end Go.Proofs.Ytkcfghbkcgommaa.dp
