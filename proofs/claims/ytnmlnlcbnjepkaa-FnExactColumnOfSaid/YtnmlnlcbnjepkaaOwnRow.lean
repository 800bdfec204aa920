/-
  Proved: a list grown by append is memory of one's own (plain lemmas).
  Conditions: none.
-/
import Derived.Test.YtnmlnlcbnjepkaaView
import Derived.Deep.AppendLies
import Derived.OwnWalk
import Derived.Maps.AppendAt
namespace Go.Proofs.Ytnmlnlcbnjepkaa.ownRow
open Go.ChangeShapes Go.WideShapes Go.ChangeAt Go.RowKit Go.Joins
open Go.Proofs.Ytnmlnlcbnjepkaa.core
set_option linter.unusedVariables false
set_option linter.unusedSimpArgs false

theorem infoString : (Try.prog.info? 9).map (fun i => (i.zero, i.size, i.bytes)) = some (some (.string ⟨#[]⟩), 1, 16) := by kernel_rfl
theorem infoInt : (Try.prog.info? 2).map (fun i => (i.zero, i.size, i.bytes)) = some (some (.int .i64 0), 1, 8) := by kernel_rfl
theorem info_get {t : TypeId} {z : Value} {s b : Nat} (h : (Try.prog.info? t).map (fun i => (i.zero, i.size, i.bytes)) = some (some z, s, b)) : ∃ i, Try.prog.info? t = some i ∧ i.zero = some z ∧ i.size = s ∧ i.bytes = b := by
  cases hi : Try.prog.info? t with
  | none => rw [hi] at h; cases h
  | some i =>
    rw [hi] at h
    simp only [Option.map_some, Option.some.injEq, Prod.mk.injEq] at h
    exact ⟨i, rfl, h.1, h.2.1, h.2.2⟩
theorem add_at (g j : Nat) : (⟨g, 0, none⟩ : Addr).add j = ⟨g, j, none⟩ := by unfold Addr.add; split <;> simp_all
theorem one_new {w : World} {v : Value} {E : Nat} : ∀ j u, [v][j]? = some u → (w.alloc (.cells #[v] E)).cell? ((⟨w.heap.size, 0, none⟩ : Addr).add j) = some u := by
  intro j u hu
  rw [add_at]
  match j, hu with
  | 0, hu => simp at hu; subst hu; simp
theorem one_newH {w : World} {v : Value} {E H : Nat} (h : w.heap.size = H) : ∀ j u, [v][j]? = some u → (w.alloc (.cells #[v] E)).cell? ((⟨H, 0, none⟩ : Addr).add j) = some u := by
  subst h
  exact one_new
theorem empty_row (w : World) (E : Nat) : (w.alloc (.cells #[] E)).ownsRow w.heap.size E 1 (.slice (some ⟨w.heap.size, 0, none⟩) 0 0) 0 [] :=
  ⟨by simp, .inr ⟨w.heap.size, 0, #[], rfl, Nat.le_refl _, heap_alloc_new _ _, Nat.le_refl _, by simp [maxLen], by simp, by simp⟩⟩
theorem ownsRow_block {w : World} {base : Nat} {e : TypeId} {size : Nat} {v : Value} {n : Nat} {xs : List Value} (h : w.ownsRow base e size v n xs) {g : Nat} (hg : v.ownBlock = some g) : base ≤ g ∧ ∃ cur, w.heap[g]? = some (.cells cur e (0, 0)) := by
  obtain ⟨hl, h⟩ := h
  rcases h with ⟨rfl, _⟩ | ⟨g', cap, cur, rfl, h1, h2, h3⟩
  · cases hg
  · injection hg with hg
    subst hg
    exact ⟨h1, cur, h2⟩
theorem ownsRow_same {w w' : World} {base : Nat} {e : TypeId} {size : Nat} {v : Value} {n : Nat} {xs : List Value} (h : w.ownsRow base e size v n xs) (hb : ∀ g, v.ownBlock = some g → w'.heap[g]? = w.heap[g]?) : w'.ownsRow base e size v n xs := by
  obtain ⟨hl, h⟩ := h
  refine ⟨hl, ?_⟩
  rcases h with h | ⟨g, cap, cur, hv, h1, h2, h3⟩
  · exact .inl h
  · exact .inr ⟨g, cap, cur, hv, h1, (hb g (by rw [hv]; rfl)).trans h2, h3⟩
theorem ownsRow_kept {w w' : World} {base : Nat} {e : TypeId} {size : Nat} {v : Value} {n : Nat} {xs : List Value} (h : w.ownsRow base e size v n xs) (hb : Below w.heap.size w w') : w'.ownsRow base e size v n xs :=
  ownsRow_same h fun g hg => by
    obtain ⟨_, cur, hc⟩ := ownsRow_block h hg
    exact hb.block _ (Array.getElem?_eq_some_iff.1 hc).1
theorem under {W W' : World} {base n : Nat} {o : Obj} {v : Value} {xs : List Value} {E : TypeId} (hown : W.ownsRow base E 1 v n xs) (hbz : base ≤ W.heap.size) (hgr : (W.alloc o).grownBy W' v.ownBlock) : Below base W W' := by
  have hz := hgr.size
  simp at hz
  refine ⟨hgr.os, hgr.tape, hgr.output, by omega, fun j hj => ?_⟩
  rw [hgr.block j (by simp; omega) ?_, Below.heap_alloc _ _ _ (by omega)]
  intro e
  have := (ownsRow_block hown e.symm).1
  omega
/-- A list of texts grown by append owns its memory. -/
theorem own_texts {w : World} {base n : Nat} {v : Value} {E : TypeId} {l : List ByteArray} (h : w.ownsRow base E 1 v n (l.map Value.string)) (hl : ∀ s ∈ l, s.size ≤ maxLen) :
    Own w v (.sl n 1 fun i _ => .str (l[i]?.getD ByteArray.empty)) (iv base w.heap.size) := by
  obtain ⟨hn, h⟩ := h
  rcases h with ⟨rfl, rfl⟩ | ⟨g, cap, cur, rfl, h1, h2, h3, h4, h5, h6⟩
  · exact .nil _ _ _ _ _
  · have hlt := (Array.getElem?_eq_some_iff.1 h2).1
    have hn' : l.length = n := by simpa using hn
    refine .sl g n cap 1 E _ (fun i _ => .string (l[i]?.getD ByteArray.empty)) (fun _ _ _ => False) cur _ h2 ⟨h1, hlt⟩ (Nat.le_trans h3 h4) ?_ ?_ (fun _ _ _ _ _ hx => hx.elim) (fun _ _ _ _ _ _ _ _ _ hx => hx.elim)
    · intro i j hi hj
      obtain rfl : j = 0 := by omega
      have hi' : i < l.length := by omega
      have e : (l.map Value.string)[i]? = some (.string (l[i]?.getD ByteArray.empty)) := by simp [hi']
      rw [← h6, List.getElem?_take, if_pos (by omega)] at e
      simpa using e
    · intro i j hi hj
      have hi' : i < l.length := by omega
      refine .str _ _ (hl _ ?_)
      rw [List.getElem?_eq_getElem hi', Option.getD_some]
      exact List.getElem_mem hi'
theorem ownRec_one {w : World} {v : Value} {d : Dat} {lo hi : Nat} (h : Own w v d (iv lo hi)) (hhi : hi ≤ w.heap.size) : OwnRec w 1 (fun _ => v) (fun _ => d) (iv lo hi) :=
  ⟨fun _ => iv lo hi, fun _ _ => h, fun _ x _ hx => ⟨hx, Nat.lt_of_lt_of_le hx.2 hhi⟩, fun i j x hi hj _ _ => by omega⟩
end Go.Proofs.Ytnmlnlcbnjepkaa.ownRow
