/-
  Proved: a list in a box of its own that is grown by append and stored back (plain lemmas).
  Conditions: none.
-/
import Derived.Test.YtofgdgdmmlgmnaaRowN
import Derived.Test.YtofgdgdmmlgmnaaPts
namespace Go.Proofs.Ytofgdgdmmlgmnaa.boxed
open Go.ChangeShapes Go.WideShapes Go.ChangeAt Go.RowKit Go.Joins
open Go.Proofs.Ytofgdgdmmlgmnaa.core Go.Proofs.Ytofgdgdmmlgmnaa.rown Go.Proofs.Ytofgdgdmmlgmnaa.stk
set_option linter.unusedVariables false
set_option linter.unusedSimpArgs false
theorem block_size {w : World} {b : Nat} {o : Obj} (h : w.heap[b]? = some o) : b < w.heap.size := (Array.getElem?_eq_some_iff.1 h).1
/-- Block b is a box of type B that holds the list; the list's rows are memory of one's own, of element type E. -/
structure BX (W0 W : World) (b B base E k : Nat) (v : Value) (n : Nat) (xs : List Value) : Prop where
  blk : W.heap[b]? = some (.cells #[v] B (0, 0))
  own : W.ownsRow base E k v n xs
  below : Below W0.heap.size W0 W
  hb : W0.heap.size ≤ b
  hbase : W0.heap.size ≤ base
  hbs : base ≤ W.heap.size
  ne : B ≠ E
section

variable {W0 W W' W3 : World} {b B base E k n n3 : Nat} {v v3 : Value} {xs xs3 : List Value} {o : Obj}
theorem BX.lt (h : BX W0 W b B base E k v n xs) : b < W.heap.size := block_size h.blk
theorem BX.kept (h : BX W0 W b B base E k v n xs) (hb : Below W.heap.size W W') : BX W0 W' b B base E k v n xs :=
  ⟨(hb.block _ h.lt).trans h.blk, ownsRow_kept h.own hb, h.below.trans (hb.mono h.below.size), h.hb, h.hbase, Nat.le_trans h.hbs hb.size, h.ne⟩
theorem BX.cell (h : BX W0 W b B base E k v n xs) : W.cell? ⟨b, 0, none⟩ = some v := by rw [cell_of_block h.blk]; rfl
theorem BX.free (h : BX W0 W b B base E k v n xs) : ∀ j, W.frozen? ⟨b, j, none⟩ = false := unfrozen_of_block h.blk
theorem BX.more (h : BX W0 W b B base E k v n xs) (hgr : (W.alloc o).grownBy W3 v.ownBlock) (hown : W3.ownsRow base E k v3 n3 xs3) :
    W3.cell? ⟨b, 0, none⟩ = some v ∧ (∀ j, W3.frozen? ⟨b, j, none⟩ = false) ∧ b < W3.heap.size ∧ Below W0.heap.size W0 W3 ∧ BX W0 (W3.setCell ⟨b, 0, none⟩ v3) b B base E k v3 n3 xs3 := by
  have hz := hgr.size
  simp at hz
  have hlt := h.lt
  have hk : W3.heap[b]? = some (.cells #[v] B (0, 0)) := by
    rw [hgr.block b (by simp; omega) ?_, Below.heap_alloc _ _ _ hlt]
    · exact h.blk
    · intro e
      obtain ⟨_, cur, hc⟩ := ownsRow_block h.own e.symm
      rw [h.blk] at hc
      injection hc with hc
      injection hc with h1 h2 h3
      exact h.ne h2
  have hbl : Below W0.heap.size W0 W3 := by
    have := under (o := o) h.own h.hbs hgr
    exact h.below.trans (this.mono h.hbase)
  refine ⟨by rw [cell_of_block hk]; rfl, unfrozen_of_block hk, block_size hk, hbl, ?_, ?_, hbl.setCell h.hb _, h.hb, h.hbase, ?_, h.ne⟩
  · have := block_setCell (i := 0) hk v3
    simpa using this
  · refine ownsRow_same hown fun g hg => ?_
    refine Below.heap_setCell _ _ _ _ ?_
    intro e
    simp only at e
    subst e
    obtain ⟨_, cur, hc⟩ := ownsRow_block hown hg
    rw [hk] at hc
    injection hc with hc
    injection hc with h1 h2 h3
    exact h.ne h2
  · have := h.hbs
    simp [World.setCell]
    omega
/-- A block of another type stays as it is, behind the append and behind the store. -/
theorem grown_block {cs : Array Value} {b' B' : Nat} {fr : Nat × Nat} (hown : W.ownsRow base E k v n xs) (hgr : (W.alloc o).grownBy W3 v.ownBlock) (hb' : W.heap[b']? = some (.cells cs B' fr)) (hne : B' ≠ E) : W3.heap[b']? = some (.cells cs B' fr) := by
  have hlt := block_size hb'
  rw [hgr.block b' (by simp; omega) ?_, Below.heap_alloc _ _ _ hlt]
  · exact hb'
  · intro e
    obtain ⟨_, cur, hc⟩ := ownsRow_block hown e.symm
    rw [hb'] at hc
    injection hc with hc
    injection hc with h1 h2 h3
    exact hne h2
theorem BX.other {cs : Array Value} {b' B' : Nat} {fr : Nat × Nat} (h : BX W0 W b B base E k v n xs) (hgr : (W.alloc o).grownBy W3 v.ownBlock) (hb' : W.heap[b']? = some (.cells cs B' fr)) (hne : B' ≠ E) (hbb : b' ≠ b) : (W3.setCell ⟨b, 0, none⟩ v3).heap[b']? = some (.cells cs B' fr) := by
  rw [Below.heap_setCell _ _ _ _ (by intro e; simp only at e; exact hbb e)]
  exact grown_block h.own hgr hb' hne
theorem BX.start (hb : Below W0.heap.size W0 W) (hown : W.ownsRow base E k v n xs) (hbase : W0.heap.size ≤ base) (hbs : base ≤ W.heap.size) (hne : B ≠ E) : BX W0 (W.alloc (.cells #[v] B)) W.heap.size B base E k v n xs :=
  ⟨heap_alloc_new _ _, ownsRow_kept hown (below_alloc1 _ _), hb.trans ((below_alloc1 _ _).mono hb.size), hb.size, hbase, Nat.le_trans hbs (by simp), hne⟩
end
/-- A list of points, with one more at its end. -/

def c3 (p : P3) : List Value := [.int .i64 p.1, .int .i64 p.2.1, .int .i64 p.2.2]
def row3 (f : Nat → P3) (i : Nat) : List Value := c3 (f i)
def push (f : Nat → P3) (m : Nat) (p : P3) : Nat → P3 := fun j => if j = m then p else f j
theorem rws_congr {r r' : Nat → List Value} : ∀ n, (∀ i, i < n → r i = r' i) → rws r n = rws r' n
  | 0, _ => rfl
  | n + 1, h => by rw [rws_succ, rws_succ, rws_congr n (fun i hi => h i (by omega)), h n (by omega)]
theorem rws_push (f : Nat → P3) (m : Nat) (p : P3) : rws (row3 (push f m p)) (m + 1) = rws (row3 f) m ++ c3 p := by
  rw [rws_succ]
  congr 1
  · exact rws_congr m fun i hi => by unfold row3 push; rw [if_neg (by omega)]
  · unfold row3 push; rw [if_pos rfl]
def fi3 (f : Nat → P3) (i j : Nat) : Int := if j = 0 then (f i).1 else if j = 1 then (f i).2.1 else (f i).2.2
theorem row3_len (f : Nat → P3) : ∀ i, (row3 f i).length = 3 := fun i => rfl
theorem row3_get (f : Nat → P3) : ∀ i j, j < 3 → (row3 f i)[j]? = some (.int .i64 (fi3 f i j)) := fun i j hj => by
  rcases (by omega : j = 0 ∨ j = 1 ∨ j = 2) with rfl | rfl | rfl <;> rfl
theorem three_new {w : World} {a b c : Value} {E H : Nat} (h : w.heap.size = H) : ∀ j u, [a, b, c][j]? = some u → (w.alloc (.cells #[a, b, c] E)).cell? ((⟨H, 0, none⟩ : Addr).add j) = some u := by
  subst h
  exact new_cells (l := [a, b, c])
theorem block_row (w : World) (E : Nat) (p : P3) : (w.alloc (.cells #[.int .i64 p.1, .int .i64 p.2.1, .int .i64 p.2.2] E)).ownsRow w.heap.size E 3 (.slice (some ⟨w.heap.size, 0, none⟩) 1 1) 1 (rws (row3 fun _ => p) 1) :=
  ⟨by simp [rws, row3, c3], .inr ⟨w.heap.size, 1, #[.int .i64 p.1, .int .i64 p.2.1, .int .i64 p.2.2], rfl, Nat.le_refl _, heap_alloc_new _ _, Nat.le_refl _, by simp [maxLen], by simp, by simp [rws, row3, c3]⟩⟩
theorem infoPoint : (Try.prog.info? 122).map (fun i => (i.zero, i.size, i.bytes)) = some (some (.agg #[.int .i64 0, .int .i64 0, .int .i64 0]), 3, 24) := by kernel_rfl
end Go.Proofs.Ytofgdgdmmlgmnaa.boxed
