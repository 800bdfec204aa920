/-
  Proved: a list of bytes or numbers grown by append, and what it reads as (plain lemmas).
  Conditions: none.
-/
import Derived.Test.YthpmckfjlbiiiabCore
import Derived.Deep.AppendLies
import Derived.OwnWalk
import Derived.Maps.AppendAt
import Derived.Lib.VarintMem
import Derived.Laws.IdiomStrings
namespace Go.Proofs.Ythpmckfjlbiiiab.rows
open Go.ChangeShapes Go.WideShapes Go.ChangeAt Go.RowKit Go.Joins
open Go.Proofs.Ythpmckfjlbiiiab.core
set_option linter.unusedVariables false
set_option linter.unusedSimpArgs false

theorem infoByte : (Try.prog.info? 5).map (fun i => (i.zero, i.size, i.bytes)) = some (some (.int .u8 0), 1, 1) := by kernel_rfl
theorem infoInt : (Try.prog.info? 2).map (fun i => (i.zero, i.size, i.bytes)) = some (some (.int .i64 0), 1, 8) := by kernel_rfl
theorem info_get {t : TypeId} {z : Value} {s b : Nat} (h : (Try.prog.info? t).map (fun i => (i.zero, i.size, i.bytes)) = some (some z, s, b)) : ∃ i, Try.prog.info? t = some i ∧ i.zero = some z ∧ i.size = s ∧ i.bytes = b := by
  cases hi : Try.prog.info? t with
  | none => rw [hi] at h; cases h
  | some i =>
    rw [hi] at h
    simp only [Option.map_some, Option.some.injEq, Prod.mk.injEq] at h
    exact ⟨i, rfl, h.1, h.2.1, h.2.2⟩
theorem add_at (g j : Nat) : (⟨g, 0, none⟩ : Addr).add j = ⟨g, j, none⟩ := by unfold Addr.add; split <;> simp_all
theorem one_new {w : World} {v : Value} {E : Nat} : ∀ j u, [v][j]? = some u → (w.alloc (.cells #[v] E)).cell? ((⟨w.heap.size, 0, none⟩ : Addr).add j) = some u := by
  intro j u hu
  rw [add_at]
  match j, hu with
  | 0, hu => simp at hu; subst hu; simp
theorem empty_row (w : World) (E : Nat) : (w.alloc (.cells #[] E)).ownsRow w.heap.size E 1 (.slice (some ⟨w.heap.size, 0, none⟩) 0 0) 0 [] :=
  ⟨by simp, .inr ⟨w.heap.size, 0, #[], rfl, Nat.le_refl _, heap_alloc_new _ _, Nat.le_refl _, by simp [maxLen], by simp, by simp⟩⟩
theorem ownsRow_block {w : World} {base : Nat} {e : TypeId} {size : Nat} {v : Value} {n : Nat} {xs : List Value} (h : w.ownsRow base e size v n xs) {g : Nat} (hg : v.ownBlock = some g) : base ≤ g ∧ ∃ cur, w.heap[g]? = some (.cells cur e (0, 0)) := by
  obtain ⟨hl, h⟩ := h
  rcases h with ⟨rfl, _⟩ | ⟨g', cap, cur, rfl, h1, h2, h3⟩
  · cases hg
  · injection hg with hg
    subst hg
    exact ⟨h1, cur, h2⟩
theorem ownsRow_same {w w' : World} {base : Nat} {e : TypeId} {size : Nat} {v : Value} {n : Nat} {xs : List Value} (h : w.ownsRow base e size v n xs) (hb : ∀ g, v.ownBlock = some g → w'.heap[g]? = w.heap[g]?) : w'.ownsRow base e size v n xs := by
  obtain ⟨hl, h⟩ := h
  refine ⟨hl, ?_⟩
  rcases h with h | ⟨g, cap, cur, hv, h1, h2, h3⟩
  · exact .inl h
  · exact .inr ⟨g, cap, cur, hv, h1, (hb g (by rw [hv]; rfl)).trans h2, h3⟩
theorem ownsRow_kept {w w' : World} {base : Nat} {e : TypeId} {size : Nat} {v : Value} {n : Nat} {xs : List Value} (h : w.ownsRow base e size v n xs) (hb : Below w.heap.size w w') : w'.ownsRow base e size v n xs :=
  ownsRow_same h fun g hg => by
    obtain ⟨_, cur, hc⟩ := ownsRow_block h hg
    exact hb.block _ (Array.getElem?_eq_some_iff.1 hc).1
theorem under {W W' : World} {base n : Nat} {o : Obj} {v : Value} {xs : List Value} {E : TypeId} (hown : W.ownsRow base E 1 v n xs) (hbz : base ≤ W.heap.size) (hgr : (W.alloc o).grownBy W' v.ownBlock) : Below base W W' := by
  have hz := hgr.size
  simp at hz
  refine ⟨hgr.os, hgr.tape, hgr.output, by omega, fun j hj => ?_⟩
  rw [hgr.block j (by simp; omega) ?_, Below.heap_alloc _ _ _ (by omega)]
  intro e
  have := (ownsRow_block hown e.symm).1
  omega
/-- 'string(b)' of bytes that a row holds. -/
theorem row_string {w : World} {base g m c : Nat} {l : List UInt8} (h : w.ownsRow base 5 1 (.slice (some ⟨g, 0, none⟩) m c) m (Lib.byteCells l)) (hm : l.length = m) :
    (convert 22 9 (.slice (some ⟨g, 0, none⟩) m c)).run Try.prog w = .ok (.string ⟨l.toArray⟩) w := by
  subst hm
  refine run_convert_bytes_back w _ _ _ ⟨g, 0, none⟩ c l Try.underlying22 Try.underlying5 Try.underlying9 fun j hj => ?_
  exact h.cells (g := g) rfl j _ (by simp [Lib.byteCells, hj])
/-- A row of bytes that an append of one byte has left. -/
theorem row_snoc {w : World} {base g m c : Nat} {l : List UInt8} {a : Nat} (ha : a < 256) (h : w.ownsRow base 5 1 (.slice (some ⟨g, 0, none⟩) (m + 1) c) (m + 1) (Lib.byteCells l ++ [.int .u8 (a : Int)])) : w.ownsRow base 5 1 (.slice (some ⟨g, 0, none⟩) (m + 1) c) (m + 1) (Lib.byteCells (l ++ [a.toUInt8])) := by
  rw [Lib.byteCells_snoc l ha]
  exact h
theorem ownRec_nil : True := trivial
theorem ret_str {l l' : List UInt8} (h : l = l') : Ending.returned (.string ⟨l.toArray⟩) = .returned (.string ⟨l'.toArray⟩) := by rw [h]
theorem ret_int {k : IntKind} {a b : Int} (h : a = b) : Ending.returned (.int k a) = .returned (.int k b) := by rw [h]
end Go.Proofs.Ythpmckfjlbiiiab.rows
