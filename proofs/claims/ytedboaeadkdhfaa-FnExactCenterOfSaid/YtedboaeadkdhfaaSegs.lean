/-
  Proved: what the functions that make and walk a stroke's list of segments return.
  Conditions: the points are in their range, and no more than 60.
-/
import Derived.Test.YtedboaeadkdhfaaLenS
namespace Go.Proofs.Ytedboaeadkdhfaa.segs
open Go.ChangeShapes Go.WideShapes Go.ChangeAt Go.RowKit Go.Joins
open Go.Proofs.Ytedboaeadkdhfaa.core Go.Proofs.Ytedboaeadkdhfaa.geoM Go.Proofs.Ytedboaeadkdhfaa.stk Go.Proofs.Ytedboaeadkdhfaa.seg Go.Proofs.Ytedboaeadkdhfaa.side Go.Proofs.Ytedboaeadkdhfaa.all Go.Proofs.Ytedboaeadkdhfaa.lenS
set_option linter.unusedVariables false
set_option linter.unusedSimpArgs false

theorem info_get {t : TypeId} {z : Value} {s b : Nat} (h : (Try.prog.info? t).map (fun i => (i.zero, i.size, i.bytes)) = some (some z, s, b)) : ∃ i, Try.prog.info? t = some i ∧ i.zero = some z ∧ i.size = s ∧ i.bytes = b := by
  cases hi : Try.prog.info? t with
  | none => rw [hi] at h; cases h
  | some i =>
    rw [hi] at h
    simp only [Option.map_some, Option.some.injEq, Prod.mk.injEq] at h
    exact ⟨i, rfl, h.1, h.2.1, h.2.2⟩
theorem add_at (g j : Nat) : (⟨g, 0, none⟩ : Addr).add j = ⟨g, j, none⟩ := by unfold Addr.add; split <;> simp_all
theorem ownsRow_block {w : World} {base : Nat} {e : TypeId} {size : Nat} {v : Value} {n : Nat} {xs : List Value} (h : w.ownsRow base e size v n xs) {g : Nat} (hg : v.ownBlock = some g) : base ≤ g ∧ ∃ cur, w.heap[g]? = some (.cells cur e (0, 0)) := by
  obtain ⟨hl, h⟩ := h
  rcases h with ⟨rfl, _⟩ | ⟨g', cap, cur, rfl, h1, h2, h3⟩
  · cases hg
  · injection hg with hg
    subst hg
    exact ⟨h1, cur, h2⟩
theorem ownsRow_same {w w' : World} {base : Nat} {e : TypeId} {size : Nat} {v : Value} {n : Nat} {xs : List Value} (h : w.ownsRow base e size v n xs) (hb : ∀ g, v.ownBlock = some g → w'.heap[g]? = w.heap[g]?) : w'.ownsRow base e size v n xs := by
  obtain ⟨hl, h⟩ := h
  refine ⟨hl, ?_⟩
  rcases h with h | ⟨g, cap, cur, rfl, h1, h2, h3⟩
  · exact .inl h
  · exact .inr ⟨g, cap, cur, rfl, h1, (hb g rfl).trans h2, h3⟩
theorem ownsRow_kept {w w' : World} {base : Nat} {e : TypeId} {size : Nat} {v : Value} {n : Nat} {xs : List Value} (h : w.ownsRow base e size v n xs) (hb : Below w.heap.size w w') : w'.ownsRow base e size v n xs :=
  ownsRow_same h fun g hg => by
    obtain ⟨_, cur, hc⟩ := ownsRow_block h hg
    exact hb.block _ (Array.getElem?_eq_some_iff.1 hc).1
theorem under {W W' : World} {base n size : Nat} {o : Obj} {v : Value} {xs : List Value} {E : TypeId} (hown : W.ownsRow base E size v n xs) (hbz : base ≤ W.heap.size) (hgr : (W.alloc o).grownBy W' v.ownBlock) : Below base W W' := by
  have hz := hgr.size
  simp at hz
  refine ⟨hgr.os, hgr.tape, hgr.output, by omega, fun j hj => ?_⟩
  rw [hgr.block j (by simp; omega) ?_, Below.heap_alloc _ _ _ (by omega)]
  intro e
  have := (ownsRow_block hown e.symm).1
  omega

def seg6 (a b : P3) : List Value := [.int .i64 a.1, .int .i64 a.2.1, .int .i64 a.2.2, .int .i64 b.1, .int .i64 b.2.1, .int .i64 b.2.2]
def cellsS (pts : Nat → P3) : Nat → List Value
  | 0 => []
  | k + 1 => cellsS pts k ++ seg6 (pts k) (pts (k + 1))
theorem cellsS_len (pts : Nat → P3) : ∀ k, (cellsS pts k).length = k * 6
  | 0 => rfl
  | k + 1 => by
    have e : (seg6 (pts k) (pts (k + 1))).length = 6 := rfl
    rw [cellsS, List.length_append, cellsS_len pts k, e]
    omega
theorem cellsS_get (pts : Nat → P3) (i q : Nat) (hq : q < 6) : ∀ m, i < m → (cellsS pts m)[i * 6 + q]? = (seg6 (pts i) (pts (i + 1)))[q]? := by
  intro m
  induction m with
  | zero => intro h; omega
  | succ m ih =>
    intro h
    rw [cellsS]
    rcases Nat.lt_or_ge i m with g | g
    · rw [List.getElem?_append_left (by rw [cellsS_len]; omega)]
      exact ih g
    · obtain rfl : i = m := by omega
      rw [List.getElem?_append_right (by rw [cellsS_len]; omega), cellsS_len]
      congr 1
      omega
theorem six_new {w : World} {a b : P3} {E : TypeId} : ∀ j u, (seg6 a b)[j]? = some u → (w.alloc (.cells #[.int .i64 a.1, .int .i64 a.2.1, .int .i64 a.2.2, .int .i64 b.1, .int .i64 b.2.1, .int .i64 b.2.2] E)).cell? ((⟨w.heap.size, 0, none⟩ : Addr).add j) = some u := by
  intro j u hu
  rw [add_at, cell_of_block (heap_alloc_new w _)]
  unfold seg6 at hu
  rw [← hu]
  simp
theorem seg6_one (a b : P3) : ∀ u ∈ seg6 a b, u.oneCell' = true := by
  intro u hu
  unfold seg6 at hu
  simp at hu
  rcases hu with rfl | rfl | rfl | rfl | rfl | rfl <;> rfl
/-- The list's cells hold the segments. -/
def SegsAt (w : World) (A : Option Addr) (m : Nat) (pts : Nat → P3) : Prop :=
  ∀ i, i < m → ∃ b : Nat, A = some ⟨b, 0, none⟩ ∧ b < w.heap.size ∧ w.cell? ⟨b, i * 6, none⟩ = some (.int .i64 (pts i).1) ∧ w.cell? ⟨b, i * 6 + 1, none⟩ = some (.int .i64 (pts i).2.1) ∧ w.cell? ⟨b, i * 6 + 2, none⟩ = some (.int .i64 (pts i).2.2) ∧ w.cell? ⟨b, i * 6 + 3, none⟩ = some (.int .i64 (pts (i + 1)).1) ∧ w.cell? ⟨b, i * 6 + 4, none⟩ = some (.int .i64 (pts (i + 1)).2.1) ∧ w.cell? ⟨b, i * 6 + 5, none⟩ = some (.int .i64 (pts (i + 1)).2.2)
theorem SegsAt.kept {w w' : World} {A : Option Addr} {m : Nat} {pts : Nat → P3} (h : SegsAt w A m pts) (hb : Below w.heap.size w w') : SegsAt w' A m pts := fun i hi => by
  obtain ⟨b, e, h1, c0, c1, c2, c3, c4, c5⟩ := h i hi
  exact ⟨b, e, Nat.lt_of_lt_of_le h1 hb.size, (hb.cell (p := ⟨b, _, none⟩) h1).trans c0, (hb.cell (p := ⟨b, _, none⟩) h1).trans c1, (hb.cell (p := ⟨b, _, none⟩) h1).trans c2, (hb.cell (p := ⟨b, _, none⟩) h1).trans c3, (hb.cell (p := ⟨b, _, none⟩) h1).trans c4, (hb.cell (p := ⟨b, _, none⟩) h1).trans c5⟩
theorem row_down {w : World} {b b' : Nat} {e : TypeId} {size : Nat} {v : Value} {n : Nat} {xs : List Value} (h : w.ownsRow b e size v n xs) (hb : b' ≤ b) : w.ownsRow b' e size v n xs := by
  obtain ⟨hl, h⟩ := h
  refine ⟨hl, ?_⟩
  rcases h with h | ⟨g, cap, cur, rfl, h1, h2⟩
  · exact .inl h
  · exact .inr ⟨g, cap, cur, rfl, Nat.le_trans hb h1, h2⟩
/-- A list of another type of elements stays as it is. -/
theorem own_other {W W' : World} {base base2 n n2 size size2 : Nat} {o : Obj} {v v2 : Value} {xs xs2 : List Value} {E E2 : TypeId} (hE : E ≠ E2) (hown : W.ownsRow base E size v n xs) (h2 : W.ownsRow base2 E2 size2 v2 n2 xs2) (hgr : (W.alloc o).grownBy W' v.ownBlock) : W'.ownsRow base2 E2 size2 v2 n2 xs2 :=
  ownsRow_same h2 fun g hg => by
    obtain ⟨_, cur2, hc2⟩ := ownsRow_block h2 hg
    have hlt := (Array.getElem?_eq_some_iff.1 hc2).1
    rw [hgr.block g (by simp; omega) ?_, Below.heap_alloc _ _ _ hlt]
    intro e
    obtain ⟨_, cur, hc⟩ := ownsRow_block hown e.symm
    rw [hc] at hc2
    injection hc2 with hc2
    injection hc2 with h1 h2 h3
    exact hE h2
end Go.Proofs.Ytedboaeadkdhfaa.segs
