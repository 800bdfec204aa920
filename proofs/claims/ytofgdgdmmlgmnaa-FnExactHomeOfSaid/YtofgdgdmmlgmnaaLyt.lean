/-
  Proved: the boxes of a layout's strokes are found once; the box of one of them.
  Conditions: the strokes are valid and not many.
-/
import Derived.Test.YtofgdgdmmlgmnaaBxI
import Derived.Test.YtofgdgdmmlgmnaaInkV
import Derived.Test.YtofgdgdmmlgmnaaOnce
import Derived.Test.YtofgdgdmmlgmnaaRnU
import Derived.Test.YtofgdgdmmlgmnaaRowN
namespace Go.Proofs.Ytofgdgdmmlgmnaa.lyt
open Go.ChangeShapes Go.WideShapes Go.ChangeAt Go.RowKit Go.Joins
open Go.Proofs.Ytofgdgdmmlgmnaa.core Go.Proofs.Ytofgdgdmmlgmnaa.rown Go.Proofs.Ytofgdgdmmlgmnaa.stk Go.Proofs.Ytofgdgdmmlgmnaa.boxed Go.Proofs.Ytofgdgdmmlgmnaa.box Go.Proofs.Ytofgdgdmmlgmnaa.bxs Go.Proofs.Ytofgdgdmmlgmnaa.ink
set_option linter.unusedVariables false
set_option linter.unusedSimpArgs false
theorem infoB : (Try.prog.info? 90).map (fun i => (i.zero, i.size, i.bytes)) = some (some (.agg #[.int .i64 0, .int .i64 0, .int .i64 0, .int .i64 0]), 4, 32) := by kernel_rfl
theorem new_at {w : World} {l : List Value} {E H : Nat} (h : w.heap.size = H) : ∀ j u, l[j]? = some u → (w.alloc (.cells l.toArray E)).cell? ((⟨H, 0, none⟩ : Addr).add j) = some u := by
  subst h; exact new_cells
/-- The row of a stroke's box. -/
def bw (ns : Nat → Nat) (ps : Nat → Nat → P3) (i : Nat) : List Value := [.int .i64 (bX1 (ns i) (ps i)), .int .i64 (bY1 (ns i) (ps i)), .int .i64 (bX2 (ns i) (ps i)), .int .i64 (bY2 (ns i) (ps i))]
theorem bw_len (ns : Nat → Nat) (ps : Nat → Nat → P3) : ∀ i, (bw ns ps i).length = 4 := fun _ => rfl
theorem row_far {w : World} {base b size n : Nat} {e : TypeId} {v : Value} {xs : List Value} (h : w.ownsRow base e size v n xs) (hb : b < base) (i : Nat) (u : Value) : (w.setCell ⟨b, i, none⟩ u).ownsRow base e size v n xs := by
  obtain ⟨hl, h⟩ := h
  refine ⟨hl, ?_⟩
  rcases h with h | ⟨g, cap, cur, rfl, h1, h2, h3⟩
  · exact .inl h
  · exact .inr ⟨g, cap, cur, rfl, h1, (Below.heap_setCell _ _ _ _ (by intro e; simp at e; omega)).trans h2, h3⟩
/-- The block of a box. -/
theorem box_cells {V : World} {q : Nat} {a b c d : Value} {E : TypeId} (h : V.heap[q]? = some (.cells #[a, b, c, d] E (0, 0))) : V.cell? ⟨q, 0, none⟩ = some a ∧ V.cell? ⟨q, 1, none⟩ = some b ∧ V.cell? ⟨q, 2, none⟩ = some c ∧ V.cell? ⟨q, 3, none⟩ = some d :=
  ⟨by rw [cell_of_block h]; rfl, by rw [cell_of_block h]; rfl, by rw [cell_of_block h]; rfl, by rw [cell_of_block h]; rfl⟩
theorem sz_set (W : World) (a : Addr) (u : Value) : (W.setCell a u).heap.size = W.heap.size := by simp [World.setCell]
/-- A layout in its block, k boxes found; its list lies behind L. -/
structure LyB (L b n : Nat) (A : Option Addr) (C : Nat) (d s : Int) (D : Option Addr) (k c : Nat) (row : Nat → List Value) (W : World) : Prop where
  lt : b < L
  sz : L ≤ W.heap.size
  blk : W.heap[b]? = some (.cells #[.slice A n C, .int .u32 d, .int .i32 s, .int .u32 0, .slice D k c] 145 (0, 0))
  own : W.ownsRow L 90 4 (.slice D k c) k (rws row k)
/-- Nothing below L is turned but the block b. -/
structure But (b L : Nat) (w w' : World) : Prop where
  below : Below b w w'
  rest : ∀ j, j < L → j ≠ b → w'.heap[j]? = w.heap[j]?
theorem But.refl (b L : Nat) (w : World) : But b L w w := ⟨Below.refl _ _, fun _ _ _ => rfl⟩
theorem But.trans {b L : Nat} {w w1 w2 : World} (h : But b L w w1) (k : But b L w1 w2) : But b L w w2 := ⟨h.below.trans k.below, fun j hj hn => (k.rest j hj hn).trans (h.rest j hj hn)⟩
theorem But.step {b L i : Nat} {w w1 w2 : World} (h : But b L w w1) (hB : Below L w1 w2) (hb : b < L) (u : Value) : But b L w (w2.setCell ⟨b, i, none⟩ u) :=
  ⟨h.below.trans ((hB.mono (Nat.le_of_lt hb)).setCell (p := ⟨b, i, none⟩) (Nat.le_refl _) u), fun j hj hn => by
    rw [Below.heap_setCell _ _ _ _ (by intro e; simp at e; omega), hB.block j hj]
    exact h.rest j hj hn⟩
section
variable {L b n C k c : Nat} {A D : Option Addr} {d s : Int} {row : Nat → List Value} {W V V2 : World}
theorem LyB.ltW (h : LyB L b n A C d s D k c row W) : b < W.heap.size := block_size h.blk
theorem LyB.kept (h : LyB L b n A C d s D k c row W) (hb : Below W.heap.size W V) : LyB L b n A C d s D k c row V := ⟨h.lt, Nat.le_trans h.sz hb.size, (hb.block b h.ltW).trans h.blk, rown.ownsRow_kept h.own hb⟩
theorem LyB.seen (h : LyB L b n A C d s D k c row W) (hb : Below (b + 1) W V) : V.cell? ⟨b, 0, none⟩ = some (.slice A n C) ∧ V.cell? ⟨b, 4, none⟩ = some (.slice D k c) ∧ V.frozen? ⟨b, 4, none⟩ = false := by
  have e := (hb.block b (by omega)).trans h.blk
  exact ⟨by rw [cell_of_block e]; rfl, by rw [cell_of_block e]; rfl, unfrozen_of_block e 4⟩
theorem LyB.cells (h : LyB L b n A C d s D k c row W) : W.cell? ⟨b, 1, none⟩ = some (.int .u32 d) ∧ W.cell? ⟨b, 2, none⟩ = some (.int .i32 s) ∧ W.frozen? ⟨b, 1, none⟩ = false ∧ W.frozen? ⟨b, 2, none⟩ = false :=
  ⟨by rw [cell_of_block h.blk]; rfl, by rw [cell_of_block h.blk]; rfl, unfrozen_of_block h.blk 1, unfrozen_of_block h.blk 2⟩
/-- A store to another block below L. -/
theorem LyB.far (h : LyB L b n A C d s D k c row W) {q : Nat} (hq : q < L) (hn : b ≠ q) (i : Nat) (u : Value) : LyB L b n A C d s D k c row (W.setCell ⟨q, i, none⟩ u) :=
  ⟨h.lt, by simpa [World.setCell] using h.sz, by rw [Below.heap_setCell _ _ _ _ (by intro e; simp at e; omega)]; exact h.blk, row_far h.own hq _ _⟩
/-- The Once has been done. -/
theorem LyB.done (h : LyB L b n A C 0 1 D k c row W) : LyB L b n A C 1 0 D k c row ((W.drew.setCell ⟨b, 1, none⟩ (.int .u32 1)).setCell ⟨b, 1 + 1, none⟩ (.int .i32 0)) := by
  have e : W.drew.heap[b]? = some (.cells #[.slice A n C, .int .u32 0, .int .i32 1, .int .u32 0, .slice D k c] 145 (0, 0)) := h.blk
  have e1 := block_setCell (i := 1) e (.int .u32 1)
  have e2 := block_setCell (i := 1 + 1) e1 (.int .i32 0)
  have o1 : W.drew.ownsRow L 90 4 (.slice D k c) k (rws row k) := rown.ownsRow_kept h.own (Below.refl _ _).drew
  exact ⟨h.lt, by rw [sz_set, sz_set]; exact h.sz, e2, row_far (row_far o1 h.lt _ _) h.lt _ _⟩
/-- One box more. -/
theorem LyB.next {o : Obj} {g2 c2 : Nat} (h : LyB L b n A C d s D k c row W) (hV : Below W.heap.size W V) (hgr : (V.alloc o).grownBy V2 (Value.slice D k c).ownBlock)
    (hown : V2.ownsRow L 90 4 (.slice (some ⟨g2, 0, none⟩) (k + 1) c2) (k + 1) (rws row k ++ row k)) :
    LyB L b n A C d s (some ⟨g2, 0, none⟩) (k + 1) c2 row (V2.setCell ⟨b, 4, none⟩ (.slice (some ⟨g2, 0, none⟩) (k + 1) c2)) ∧ Below L W V2 := by
  have hlt := h.lt
  have hsz := h.sz
  have hT := h.kept hV
  have h2 : Below L V V2 := rown.under hT.own hT.sz hgr
  have h3 : Below L W V2 := (hV.mono hsz).trans h2
  have e := (h3.block b hlt).trans h.blk
  have e5 := block_setCell (i := 4) e (.slice (some ⟨g2, 0, none⟩) (k + 1) c2)
  exact ⟨⟨hlt, by have := h3.size; simpa [World.setCell] using Nat.le_trans hsz this, e5, row_far hown hlt _ _⟩, h3⟩
/-- Another new block is as it was, too. -/
theorem LyB.beside {o : Obj} {q : Nat} {x : Obj} (h : LyB L b n A C d s D k c row W) (hV : Below W.heap.size W V) (hgr : (V.alloc o).grownBy V2 (Value.slice D k c).ownBlock) (hq : W.heap.size ≤ q) (hx : V.heap[q]? = some x) (u : Value) :
    V2.heap[q]? = some x ∧ (V2.setCell ⟨b, 4, none⟩ u).heap[q]? = some x := by
  have hlt := h.ltW
  have hqV := (Array.getElem?_eq_some_iff.1 hx).1
  have e : V2.heap[q]? = some x := by
    rw [hgr.block q (by simp; omega) ?_, Below.heap_alloc _ _ _ hqV, hx]
    intro e
    obtain ⟨_, cur, hc⟩ := rown.ownsRow_block h.own e.symm
    have := (Array.getElem?_eq_some_iff.1 hc).1
    omega
  exact ⟨e, by rw [Below.heap_setCell _ _ _ _ (by intro e; simp at e; omega)]; exact e⟩
end
set_option maxRecDepth 100000 in
set_option maxHeartbeats 8000000 in
theorem findB (L b n C : Nat) (A : Option Addr) (ns : Nat → Nat) (ps : Nat → Nat → P3) (w0 w : World) (h16 : n ≤ 16) (hle : w0.heap.size ≤ b) (h0 : Below w0.heap.size w0 w) (hI : InkAt w0 A n ns ps) (hv : ∀ i, i < n → vS (ns i) (ps i) = true)
    (hL : LyB L b n A C 0 1 none 0 0 (bw ns ps) w) :
    Calls Try.prog 112 #[.pointer (some ⟨b, 0, none⟩)] w fun e w' => e = .returned (.tuple #[]) ∧ (∃ D c, LyB L b n A C 0 1 D n c (bw ns ps) w') ∧ But b L w w' := by
  obtain ⟨j0, hj0, jz0, jz1, jz2⟩ := rown.info_get infoB
  have HL0 := Lib.hid hL
  have HV := Lib.hid (fun i (hi : i < n) W (B : Option Addr) (cc : Nat) (hp : PtsAt W B (ns i) (ps i)) => boxI_yes (c := cc) B (ns i) (ps i) W (by have := (vS_of (hv i hi)).2.1; omega) hp (hv i hi))
  have HI := Lib.hid (fun W (hb : Below b w W) => hI.kept (h0.trans (hb.mono hle)))
  obtain ⟨q0, q4, qf⟩ := hL.seen (Below.refl (b + 1) w)
  clear hv hI h0 hle hL
  go_enter Try.func112, Try.ntmps112
  go_wp2
  clear q0 q4 qf
  go_loopw [11] (fun i w' => ∃ (k : Nat) (D : Option Addr) (c : Nat), k ≤ n ∧ i = .int .i64 (k : Int) ∧ Hid (LyB L b n A C 0 1 D k c (bw ns ps) w') ∧ Hid (But b L w w')) (fun i _ => n - (intOf i).toNat)
  case atStart => exact ⟨0, none, 0, Nat.zero_le _, rfl, HL0, Lib.hid (But.refl _ _ _)⟩
  case round =>
    obtain ⟨k, D, c, hk, rfl, HL, HB⟩ := hrel
    by_cases hlt : k < n
    · have hli : (k : Int) < (n : Int) := by omega
      have hk1 : k + 1 ≤ n := by omega
      have hms : n - (k + 1) < n - k := by omega
      have Z5 := Lib.hid (show k + 1 ≤ maxLen by simp only [maxLen]; omega)
      have Z6 := Lib.hid (show (k + 1) * 32 ≤ 140737488355328 by omega)
      obtain ⟨g, o, rfl, hg, B, cc, p0, hp⟩ := (HI.out wr HB.out.below) k hlt
      have BA := Lib.hid (below_alloc1 wr (.cells #[.slice B (ns k) cc] 57))
      have H1 := Lib.hid (HV.out k hlt _ B cc (hp.kept BA.out))
      have HRW := Lib.hid (show bw ns ps k = [.int .i64 (bX1 (ns k) (ps k)), .int .i64 (bY1 (ns k) (ps k)), .int .i64 (bX2 (ns k) (ps k)), .int .i64 (bY2 (ns k) (ps k))] from rfl)
      unfold bx at H1
      have hLb := HL.out.ltW
      have hbL := HL.out.lt
      have hLs := HL.out.sz
      clear hp hlt
      generalize bX1 (ns k) (ps k) = x1 at *
      generalize bY1 (ns k) (ps k) = y1 at *
      generalize bX2 (ns k) (ps k) = x2 at *
      generalize bY2 (ns k) (ps k) = y2 at *
      generalize ns k = q at *
      go_wp2_with fail
      refine H1.out.mono ?_
      rintro e w1 ⟨rfl, hb⟩
      have hb1 : Below wr.heap.size wr w1 := BA.out.trans (hb.mono BA.out.size)
      have BW := Lib.hid (show Below wr.heap.size wr (w1.alloc (.cells #[.int .i64 x1, .int .i64 y1, .int .i64 x2, .int .i64 y2] 90)) from hb1.trans ((below_alloc1 _ _).mono hb1.size))
      obtain ⟨W2, hW2⟩ : ∃ W2, W2 = (w1.alloc (.cells #[.int .i64 x1, .int .i64 y1, .int .i64 x2, .int .i64 y2] 90)).drew := ⟨_, rfl⟩
      have hq2 : W2.heap[w1.heap.size]? = some (.cells #[.int .i64 x1, .int .i64 y1, .int .i64 x2, .int .i64 y2] 90 (0, 0)) := by rw [hW2]; exact heap_alloc_new w1 _
      have hB2 : Below wr.heap.size wr W2 := by rw [hW2]; exact BW.out.drew
      have BW2 := Lib.hid hB2
      have HQ2 := Lib.hid hq2
      have hwq : wr.heap.size ≤ w1.heap.size := hb1.size
      have hWq : w1.heap.size < W2.heap.size := block_size hq2
      have hA6 : Below wr.heap.size wr (W2.alloc (.cells #[.int .i64 x1, .int .i64 y1, .int .i64 x2, .int .i64 y2] 90)) := hB2.trans ((below_alloc1 _ _).mono hB2.size)
      have hq6 : (W2.alloc (.cells #[.int .i64 x1, .int .i64 y1, .int .i64 x2, .int .i64 y2] 90)).heap[w1.heap.size]? = some (.cells #[.int .i64 x1, .int .i64 y1, .int .i64 x2, .int .i64 y2] 90 (0, 0)) := by rw [Below.heap_alloc _ _ _ hWq]; exact hq2
      have k2 := HL.out.seen (hB2.mono hLb)
      have c2 := box_cells hq2
      have k6 := HL.out.seen (hA6.mono hLb)
      have c6 := box_cells hq6
      have hkd : (W2.frozen? ⟨b, 4, none⟩ = false ∧ W2.cell? ⟨w1.heap.size, 0, none⟩ = some (.int .i64 x1) ∧ W2.cell? ⟨w1.heap.size, 1, none⟩ = some (.int .i64 y1) ∧ W2.cell? ⟨w1.heap.size, 2, none⟩ = some (.int .i64 x2) ∧ W2.cell? ⟨w1.heap.size, 3, none⟩ = some (.int .i64 y2)) ∧ W2.cell? ⟨b, 4, none⟩ = some (.slice D k c) := ⟨⟨k2.2.2, c2⟩, k2.2.1⟩
      have hke := (show _ ∧ _ from ⟨(show _ ∧ _ from ⟨k6.2.2, c6⟩), k6.2.1⟩)
      have TE := Lib.hid ((HL.out.kept hA6).own)
      have Z7 := Lib.hid (show L ≤ (W2.alloc (.cells #[.int .i64 x1, .int .i64 y1, .int .i64 x2, .int .i64 y2] 90)).heap.size from Nat.le_trans hLs hA6.size)
      clear hb hb1 BA H1 p0 hg k2 c2 k6 c6 hq2 hq6 hA6
      go_wp2_with fail
      refine rnd.wp_regionU (fun V => V.frozen? ⟨b, 4, none⟩ = false ∧ V.cell? ⟨w1.heap.size, 0, none⟩ = some (.int .i64 x1) ∧ V.cell? ⟨w1.heap.size, 1, none⟩ = some (.int .i64 y1) ∧ V.cell? ⟨w1.heap.size, 2, none⟩ = some (.int .i64 x2) ∧ V.cell? ⟨w1.heap.size, 3, none⟩ = some (.int .i64 y2)) (fun V => V.cell? ⟨b, 4, none⟩ = some (.slice D k c)) 10 (by kernel_rfl) (by rw [← hW2]; exact hkd) (fun hH => ?_)
      rw [← hW2] at hH ⊢
      clear hW2
      refine rnd.wpAnyU_take (i := 0) (oi := { dst := some 20, op := Op.move (Operand.tmp 0), type := 102, pos := "l14_segments.go:152", after := #[], guard := none }) (v := ?_) rfl (by kernel_rfl) (by kernel_rfl) (by kernel_rfl) (by kernel_rfl) (fun _ _ _ h => h) (Or.inl ⟨by rfl, ?_⟩) hH ?_
      rotate_left
      · intro V hSw
        obtain ⟨⟨s1, b0, b1, b2, b3⟩, s0⟩ := hSw
        go_simp
        try with_reducible rfl
      simp only [Act.put, List.setIfInBounds_toArray, List.set_cons_zero, List.set_cons_succ]
      refine rnd.wpAnyU_take (i := 1) (oi := { dst := some 21, op := Op.move (Operand.tmp 0), type := 102, pos := "l14_segments.go:152", after := #[], guard := none }) (v := ?_) rfl (by kernel_rfl) (by kernel_rfl) (by kernel_rfl) (by kernel_rfl) (fun _ _ _ h => h) (Or.inl ⟨by rfl, ?_⟩) hH ?_
      rotate_left
      · intro V hSw
        obtain ⟨⟨s1, b0, b1, b2, b3⟩, s0⟩ := hSw
        go_simp
        try with_reducible rfl
      simp only [Act.put, List.setIfInBounds_toArray, List.set_cons_zero, List.set_cons_succ]
      refine rnd.wpAnyU_take (i := 2) (oi := { dst := some 22, op := Op.nilCheck (Operand.tmp 21), type := 0, pos := "l14_segments.go:152", after := #[{ on := 1, ground := Ground.data }], guard := none }) (v := ?_) rfl (by kernel_rfl) (by kernel_rfl) (by kernel_rfl) (by kernel_rfl) (fun _ _ _ h => h) (Or.inl ⟨by rfl, ?_⟩) hH ?_
      rotate_left
      · intro V hSw
        obtain ⟨⟨s1, b0, b1, b2, b3⟩, s0⟩ := hSw
        go_simp
        try with_reducible rfl
      simp only [Act.put, List.setIfInBounds_toArray, List.set_cons_zero, List.set_cons_succ]
      refine rnd.wpAnyU_take (i := 3) (oi := { dst := some 23, op := Op.fieldAddr 145 (Operand.tmp 22) 2, type := 0, pos := "l14_segments.go:152", after := #[{ on := 2, ground := Ground.data }], guard := none }) (v := ?_) rfl (by kernel_rfl) (by kernel_rfl) (by kernel_rfl) (by kernel_rfl) (fun _ _ _ h => h) (Or.inl ⟨by rfl, ?_⟩) hH ?_
      rotate_left
      · intro V hSw
        obtain ⟨⟨s1, b0, b1, b2, b3⟩, s0⟩ := hSw
        go_simp
        try with_reducible rfl
      simp only [Act.put, List.setIfInBounds_toArray, List.set_cons_zero, List.set_cons_succ]
      refine rnd.wpAnyU_take (i := 4) (oi := { dst := some 24, op := Op.load 143 (Operand.tmp 23), type := 143, pos := "l14_segments.go:152", after := #[{ on := 3, ground := Ground.data }], guard := none }) (v := ?_) rfl (by kernel_rfl) (by kernel_rfl) (by kernel_rfl) (by kernel_rfl) (fun _ _ _ h => h) (Or.inl ⟨by rfl, ?_⟩) hH ?_
      rotate_left
      · intro V hSw
        obtain ⟨⟨s1, b0, b1, b2, b3⟩, s0⟩ := hSw
        go_simp
        try with_reducible rfl
      simp only [Act.put, List.setIfInBounds_toArray, List.set_cons_zero, List.set_cons_succ]
      refine rnd.wpAnyU_take (i := 5) (oi := { dst := some 25, op := Op.load 90 (Operand.tmp 4), type := 90, pos := "l14_segments.go:152", after := #[], guard := none }) (v := ?_) rfl (by kernel_rfl) (by kernel_rfl) (by kernel_rfl) (by kernel_rfl) (fun _ _ _ h => h) (Or.inl ⟨by rfl, ?_⟩) hH ?_
      rotate_left
      · intro V hSw
        obtain ⟨⟨s1, b0, b1, b2, b3⟩, s0⟩ := hSw
        go_simp
        try with_reducible rfl
      simp only [Act.put, List.setIfInBounds_toArray, List.set_cons_zero, List.set_cons_succ]
      clear hH
      refine rnd.wpAnyU_one (i := 6) (by kernel_rfl) rfl (fun K' hK' => ?_)
      go_simp
      refine hK'.out _ _ hke.1 (fun _ => hke.2) ?_
      clear hK'
      refine rnd.wpAnyU_one (i := 7) (by kernel_rfl) rfl (fun K' hK' => ?_)
      refine step_append_lies _ (by rfl) (.tmp 24) (.tmp 26) _ (by rfl) L 90 j0 _ 4 32 Try.underlying143 hj0 jz0 jz1 jz2 rfl (by decide) (.slice D k c) k _ (by rfl) TE.out ⟨W2.heap.size, 0, none⟩ 1 1 [.int .i64 x1, .int .i64 y1, .int .i64 x2, .int .i64 y2] (by rfl) rfl (new_at rfl) (by simp [Value.oneCell']) (by decide) Z5.out Z6.out Z7.out _ rfl ?_
      intro g2 C2 V2 hown2 hgr2 hat2 hlt2
      rw [← HRW.out] at hown2
      obtain ⟨hNX, hB3⟩ := HL.out.next BW2.out hgr2 hown2
      obtain ⟨e2, e3⟩ := HL.out.beside BW2.out hgr2 hwq HQ2.out (.slice (some ⟨g2, 0, none⟩) (k + 1) C2)
      have HNX := Lib.hid hNX
      have k3 := HL.out.seen (hB3.mono hbL)
      have hk2 := (show _ ∧ _ from ⟨(show _ ∧ _ from ⟨k3.2.2, box_cells e2⟩), k3.2.1⟩)
      have hk3 := (show _ ∧ _ from ⟨unfrozen_of_block hNX.blk 4, box_cells e3⟩)
      have HB3 := Lib.hid (HB.out.step (i := 4) hB3 hbL (.slice (some ⟨g2, 0, none⟩) (k + 1) C2))
      clear hown2 hgr2 hat2 hNX hB3 e2 e3 k3
      simp only [Act.put, List.setIfInBounds_toArray, List.set_cons_zero, List.set_cons_succ]
      refine hK'.out _ _ hk2.1 (fun _ => hk2.2) ?_
      clear hK'
      refine rnd.wpAnyU_one (i := 8) (by kernel_rfl) rfl (fun K' hK' => ?_)
      go_simp
      refine hK'.out _ _ hk2.1 (fun _ => hk2.2) ?_
      clear hK'
      refine rnd.wpAnyU_one (i := 9) (by kernel_rfl) rfl (fun K' hK' => ?_)
      go_simp
      refine hK'.out _ _ hk2.1 (fun _ => hk2.2) ?_
      clear hK'
      refine rnd.wpAnyU_one (i := 10) (by kernel_rfl) rfl (fun K' hK' => ?_)
      go_simp
      refine hK'.out _ _ hk3 (fun h => absurd rfl h) ?_
      clear hK'
      refine rnd.wpAnyU_done (by kernel_rfl) ?_ _
      clear hkd hke hk2 hk3 TE
      go_wp2
      go_roundw
      case rel => exact ⟨k + 1, some ⟨g2, 0, none⟩, C2, hk1, by go_num, HNX, HB3⟩
      case measure => simp [intOf]; omega
    · obtain rfl : k = n := by omega
      have hli : ¬ (k : Int) < (k : Int) := by omega
      clear hlt
      go_wp2
      go_end0
      exact ⟨rfl, ⟨D, c, HL.out⟩, HB.out⟩
end Go.Proofs.Ytofgdgdmmlgmnaa.lyt
