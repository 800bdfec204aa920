/-
  Proved: a list of rows of numbers that is grown by append is memory of one's own (plain lemmas).
  Conditions: none.
-/
import Derived.Test.YtofgdgdmmlgmnaaRec
import Derived.Test.YtofgdgdmmlgmnaaView
import Derived.Deep.AppendLies
import Derived.Deep.RegionHeld3
namespace Go.Proofs.Ytofgdgdmmlgmnaa.rown
open Go.ChangeShapes Go.WideShapes Go.ChangeAt Go.RowKit Go.Joins
open Go.Proofs.Ytofgdgdmmlgmnaa.core
set_option linter.unusedVariables false
set_option linter.unusedSimpArgs false
theorem info_get {t : TypeId} {z : Value} {s b : Nat} (h : (Try.prog.info? t).map (fun i => (i.zero, i.size, i.bytes)) = some (some z, s, b)) : ∃ i, Try.prog.info? t = some i ∧ i.zero = some z ∧ i.size = s ∧ i.bytes = b := by
  cases hi : Try.prog.info? t with
  | none => rw [hi] at h; cases h
  | some i =>
    rw [hi] at h
    simp only [Option.map_some, Option.some.injEq, Prod.mk.injEq] at h
    exact ⟨i, rfl, h.1, h.2.1, h.2.2⟩
theorem add_at (g j : Nat) : (⟨g, 0, none⟩ : Addr).add j = ⟨g, j, none⟩ := by unfold Addr.add; split <;> simp_all
theorem ownsRow_block {w : World} {base : Nat} {e : TypeId} {size : Nat} {v : Value} {n : Nat} {xs : List Value} (h : w.ownsRow base e size v n xs) {g : Nat} (hg : v.ownBlock = some g) : base ≤ g ∧ ∃ cur, w.heap[g]? = some (.cells cur e (0, 0)) := by
  obtain ⟨hl, h⟩ := h
  rcases h with ⟨rfl, _⟩ | ⟨g', cap, cur, rfl, h1, h2, h3⟩
  · cases hg
  · injection hg with hg
    subst hg
    exact ⟨h1, cur, h2⟩
theorem ownsRow_same {w w' : World} {base : Nat} {e : TypeId} {size : Nat} {v : Value} {n : Nat} {xs : List Value} (h : w.ownsRow base e size v n xs) (hb : ∀ g, v.ownBlock = some g → w'.heap[g]? = w.heap[g]?) : w'.ownsRow base e size v n xs := by
  obtain ⟨hl, h⟩ := h
  refine ⟨hl, ?_⟩
  rcases h with h | ⟨g, cap, cur, rfl, h1, h2, h3⟩
  · exact .inl h
  · exact .inr ⟨g, cap, cur, rfl, h1, (hb g rfl).trans h2, h3⟩
theorem ownsRow_kept {w w' : World} {base : Nat} {e : TypeId} {size : Nat} {v : Value} {n : Nat} {xs : List Value} (h : w.ownsRow base e size v n xs) (hb : Below w.heap.size w w') : w'.ownsRow base e size v n xs :=
  ownsRow_same h fun g hg => by
    obtain ⟨_, cur, hc⟩ := ownsRow_block h hg
    exact hb.block _ (Array.getElem?_eq_some_iff.1 hc).1
theorem under {W W' : World} {base n size : Nat} {o : Obj} {v : Value} {xs : List Value} {E : TypeId} (hown : W.ownsRow base E size v n xs) (hbz : base ≤ W.heap.size) (hgr : (W.alloc o).grownBy W' v.ownBlock) : Below base W W' := by
  have hz := hgr.size
  simp at hz
  refine ⟨hgr.os, hgr.tape, hgr.output, by omega, fun j hj => ?_⟩
  rw [hgr.block j (by simp; omega) ?_, Below.heap_alloc _ _ _ (by omega)]
  intro e
  have := (ownsRow_block hown e.symm).1
  omega
/-- The rows of the first n places, one behind the other. -/
def rws (row : Nat → List Value) : Nat → List Value
  | 0 => []
  | n + 1 => rws row n ++ row n
theorem rws_succ (row : Nat → List Value) (n : Nat) : rws row (n + 1) = rws row n ++ row n := rfl
theorem rws_len {row : Nat → List Value} {k : Nat} (hk : ∀ i, (row i).length = k) : ∀ n, (rws row n).length = n * k
  | 0 => by simp [rws]
  | n + 1 => by rw [rws, List.length_append, rws_len hk n, hk, Nat.succ_mul]
theorem rws_get {row : Nat → List Value} {k : Nat} (hk : ∀ i, (row i).length = k) (i q : Nat) (hq : q < k) : ∀ m, i < m → (rws row m)[i * k + q]? = (row i)[q]? := by
  intro m
  induction m with
  | zero => intro h; omega
  | succ m ih =>
    intro h
    rw [rws]
    rcases Nat.lt_or_ge i m with g | g
    · have : i * k + k ≤ m * k := by rw [← Nat.succ_mul]; exact Nat.mul_le_mul_right _ g
      rw [List.getElem?_append_left (by rw [rws_len hk]; omega)]
      exact ih g
    · obtain rfl : i = m := by omega
      rw [List.getElem?_append_right (by rw [rws_len hk]; omega), rws_len hk]
      congr 1
      omega
theorem own_rws {w : World} {base n k E : Nat} {v : Value} {row : Nat → List Value} {f : Nat → Nat → Int} (h : w.ownsRow base E k v n (rws row n)) (hk : ∀ i, (row i).length = k)
    (hrow : ∀ i j, j < k → (row i)[j]? = some (.int .i64 (f i j))) (hf : ∀ i j, i < n → j < k → inI64 (f i j)) :
    Own w v (.sl n k fun i j => .int (f i j)) (iv base w.heap.size) := by
  obtain ⟨hn, h⟩ := h
  rcases h with ⟨rfl, rfl⟩ | ⟨g, cap, cur, rfl, h1, h2, h3, h4, h5, h6⟩
  · exact .nil _ _ _ _ _
  · have hlt := (Array.getElem?_eq_some_iff.1 h2).1
    refine .sl g n cap k E _ (fun i j => .int .i64 (f i j)) (fun _ _ _ => False) cur _ h2 ⟨h1, hlt⟩ ⟨Nat.le_trans h3 h4, h3⟩ ?_ ?_ (fun _ _ _ _ _ hx => hx.elim) (fun _ _ _ _ _ _ _ _ _ hx => hx.elim)
    · intro i j hi hj
      have e := rws_get hk i j hj n hi
      have hik : i * k + k ≤ n * k := by rw [← Nat.succ_mul]; exact Nat.mul_le_mul_right _ hi
      rw [hrow i j hj, ← h6, List.getElem?_take, if_pos (by omega)] at e
      simpa using e
    · intro i j hi hj
      exact .int _ _ (hf i j hi hj)
theorem ownRec_one {w : World} {v : Value} {g : Nat → Dat} {lo hi : Nat} (h : Own w v (g 0) (iv lo hi)) (hhi : hi ≤ w.heap.size) : OwnRec w 1 (fun _ => v) g (iv lo hi) :=
  ⟨fun _ => iv lo hi, fun j hj => by obtain rfl : j = 0 := by omega
                                     exact h, fun _ x _ hx => ⟨hx, Nat.lt_of_lt_of_le hx.2 hhi⟩, fun i j x hi hj _ _ => by omega⟩
/-- A datum of rows of numbers. -/
def datRows (n k : Nat) (f : Nat → Nat → Int) : Nat → Dat := fun _ => .sl n k fun i j => .int (f i j)
theorem datRows_cnt (n k : Nat) (f : Nat → Nat → Int) : cntRec 1 (datRows n k f) ≤ n * k := by
  simp only [cntRec, sumTo, datRows, cntS, cnt]
  rw [sumTo_const, sumTo_const]
  simp
theorem row_cell {w : World} {base n k E g c : Nat} {row : Nat → List Value} (h : w.ownsRow base E k (.slice (some ⟨g, 0, none⟩) n c) n (rws row n)) (hk : ∀ i, (row i).length = k) {i j : Nat} {v : Value} (hi : i < n) (hj : j < k) (hv : (row i)[j]? = some v) : w.cell? ⟨g, i * k + j, none⟩ = some v := by
  have hc := h.cells (g := g) rfl (i * k + j) v (by rw [rws_get hk i j hj n hi]; exact hv)
  rwa [add_at] at hc
theorem row_lt {w : World} {base n k E g c : Nat} {xs : List Value} (h : w.ownsRow base E k (.slice (some ⟨g, 0, none⟩) n c) n xs) : g < w.heap.size := by
  obtain ⟨_, cur, hb⟩ := ownsRow_block h (g := g) rfl
  exact (Array.getElem?_eq_some_iff.1 hb).1
theorem new_cells {w : World} {l : List Value} {E : Nat} : ∀ j u, l[j]? = some u → (w.alloc (.cells l.toArray E)).cell? ((⟨w.heap.size, 0, none⟩ : Addr).add j) = some u := by
  intro j u hu
  rw [add_at, cell_of_block (heap_alloc_new w _)]
  simpa using hu
theorem row_low {w : World} {b b' : Nat} {e : TypeId} {size : Nat} {v : Value} {n : Nat} {xs : List Value} (h : w.ownsRow b e size v n xs) (hb : b' ≤ b) : w.ownsRow b' e size v n xs := by
  obtain ⟨hl, h⟩ := h
  refine ⟨hl, ?_⟩
  rcases h with h | ⟨g, cap, cur, rfl, h1, h2⟩
  · exact .inl h
  · exact .inr ⟨g, cap, cur, rfl, Nat.le_trans hb h1, h2⟩
theorem empty_row (w : World) (E k : Nat) : (w.alloc (.cells #[] E)).ownsRow w.heap.size E k (.slice (some ⟨w.heap.size, 0, none⟩) 0 0) 0 [] :=
  ⟨by simp, .inr ⟨w.heap.size, 0, #[], rfl, Nat.le_refl _, heap_alloc_new _ _, Nat.le_refl _, by simp [maxLen], by simp, by simp⟩⟩
/-- The end of a function that returns such a list. -/
theorem fin {K : FuncId} {args : Array Value} {W : World} {k E n : Nat} {row : Nat → List Value} {f : Nat → Nat → Int} {T : Value → Value}
    (hk : ∀ i, (row i).length = k) (hrow : ∀ i j, j < k → (row i)[j]? = some (.int .i64 (f i j))) (hf : ∀ i j, i < n → j < k → inI64 (f i j))
    (h : Calls Try.prog K args W fun e w' => ∃ v, e = .returned (T v) ∧ w'.ownsRow W.heap.size E k v n (rws row n) ∧ Below W.heap.size W w') :
    Calls Try.prog K args W fun e w' => ∃ xs : Nat → Value, e = .returned (T (xs 0)) ∧ OwnRec w' 1 xs (datRows n k f) (iv W.heap.size w'.heap.size) ∧ Below W.heap.size W w' :=
  h.mono fun e w' ⟨v, he, ho, hb⟩ => ⟨fun _ => v, he, ownRec_one (g := datRows n k f) (own_rws ho hk hrow hf) (Nat.le_refl _), hb⟩
end Go.Proofs.Ytofgdgdmmlgmnaa.rown
