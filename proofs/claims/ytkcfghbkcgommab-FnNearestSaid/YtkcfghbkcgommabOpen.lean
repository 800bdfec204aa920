/-
  Proved: an argument that is read is a record of numbers, texts and lists in memory.
  Conditions: none.
-/
import Derived.Test.YtkcfghbkcgommabRec
namespace Go.Proofs.Ytkcfghbkcgommab.core
open Go.ChangeShapes Go.WideShapes Go.ChangeAt Go.RowKit Go.Joins
set_option linter.unusedVariables false
set_option linter.unusedSimpArgs false

theorem cell_some {w : World} {a : Addr} {v : Value} (h : w.cell? a = some v) : a.spot = none ∧ a.block < w.heap.size := by
  unfold World.cell? at h
  split at h
  · rename_i c e f hb
    refine ⟨?_, (Array.getElem?_eq_some_iff.1 hb).1⟩
    cases hs : a.spot with
    | none => rfl
    | some _ => simp [hs] at h
  · simp at h
theorem add_none {a : Addr} (h : a.spot = none) (n : Nat) : a.add n = ⟨a.block, a.off + n, none⟩ := by
  unfold Addr.add
  split
  · rename_i e; subst e; cases a; simp_all
  · rfl
section
variable {H : Type} {enc : TypeId × Value → H} {W : World}
/-- A value of the type that is read has k cells, and they read as data of this shape. -/
def Opens {H : Type} (enc : TypeId × Value → H) (W : World) (t : TypeId) (k : Nat) (row : (Nat → Dat) → Prop) : Prop :=
  ∀ (fuel : Nat) (cs : List Value) (x : DataW H × List MemPlace), DataW.trod enc Try.prog W 0 (fun _ => true) true fuel t cs = some x → cs.length = k ∧ ∃ g : Nat → Dat, row g ∧ ∀ j u, cs[j]? = some u → Reads W u (g j)
theorem one_at {v u : Value} {j : Nat} (h : [v][j]? = some u) : u = v := by
  match j, h with
  | 0, h => simpa using h.symm
theorem wf_i64' {n : Int} (h : (Lit.int .i64 n).wf = true) : inI64 n := bounds_i64 h
theorem opens_int {t : TypeId} (ht : Try.prog.underlying t = some (.int .i64)) : Opens enc W t 1 (fun g => tyInt (g 0)) := by
  intro fuel cs x h
  obtain ⟨n, rfl, _, hw⟩ := DataW.trod_int ht h
  refine ⟨rfl, fun _ => .int n, ⟨n, rfl⟩, fun j u hj => ?_⟩
  rw [one_at hj]
  exact .int n (wf_i64' hw)
theorem opens_str {t : TypeId} (ht : Try.prog.underlying t = some .string) : Opens enc W t 1 (fun g => tyStr (g 0)) := by
  intro fuel cs x h
  obtain ⟨s, rfl, _, hs⟩ := DataW.trod_string ht h
  refine ⟨rfl, fun _ => .str s, ⟨s, rfl⟩, fun j u hj => ?_⟩
  rw [one_at hj]
  exact .str s hs
theorem opens_slice {t e : TypeId} {k : Nat} {row : (Nat → Dat) → Prop} (ht : Try.prog.underlying t = some (.slice e)) (hc : Try.prog.cellsOf e = k) (hk : 0 < k) (he : Opens enc W e k row) :
    Opens enc W t 1 (fun g => ∃ n f, g 0 = .sl n k f ∧ ∀ i, i < n → row (f i)) := by
  intro fuel cs x h
  rcases Deep.open_slice ht h with ⟨rfl, _⟩ | ⟨a, len, cap, m, n', D, Pl, rfl, hb, hl, hm, hmm, hx, hi⟩
  · refine ⟨rfl, fun _ => .sl 0 k (fun _ _ => .int 0), ⟨0, _, rfl, fun i hi => absurd hi (by omega)⟩, fun j u hj => ?_⟩
    rw [one_at hj]
    exact .nil _ _ _ _
  · have key : ∀ i, i < len → ∃ g : Nat → Dat, row g ∧ ∀ j, j < k → ∃ u, W.cell? ((a.add (i * k)).add j) = some u ∧ Reads W u (g j) := by
      intro i hil
      obtain ⟨cs', hc', ht'⟩ := hi i (by simp at hmm; omega)
      rw [hc] at hc'
      obtain ⟨hl', g, hg, hr⟩ := he _ _ _ ht'
      obtain ⟨_, hcl', hcell⟩ := World.cells?_some hc'
      exact ⟨g, hg, fun j hj => ⟨cs'[j]'(by omega), (hcell j hj).trans (List.getElem?_eq_getElem _), hr j _ (List.getElem?_eq_getElem _)⟩⟩
    by_cases h0 : len = 0
    · subst h0
      refine ⟨rfl, fun _ => .sl 0 k (fun _ _ => .int 0), ⟨0, _, rfl, fun i hi => absurd hi (by omega)⟩, fun j u hj => ?_⟩
      rw [one_at hj]
      exact .nil _ _ _ _
    · obtain ⟨g0, _, hg0⟩ := key 0 (by omega)
      obtain ⟨u0, hu0, _⟩ := hg0 0 hk
      have hsp : a.spot = none := by
        have := (cell_some hu0).1
        simp [Addr.add] at this
        simpa using this
      have hadd : ∀ i j, (a.add i).add j = ⟨a.block, a.off + i + j, none⟩ := fun i j => by rw [add_none hsp i, add_none rfl j]
      have hbl : a.block < W.heap.size := by
        have := (cell_some hu0).2
        rw [hadd] at this
        exact this
      have ha : a = ⟨a.block, a.off, none⟩ := by rw [← hsp]
      let f : Nat → Nat → Dat := fun i => if h : i < len then Classical.choose (key i h) else fun _ => .int 0
      have hf : ∀ i (h : i < len), row (f i) ∧ ∀ j, j < k → ∃ u, W.cell? ((a.add (i * k)).add j) = some u ∧ Reads W u (f i j) := fun i h => by
        have e : f i = Classical.choose (key i h) := dif_pos h
        rw [e]
        exact Classical.choose_spec (key i h)
      refine ⟨rfl, fun _ => .sl len k f, ⟨len, f, rfl, fun i hi => (hf i hi).1⟩, fun j u hj => ?_⟩
      rw [one_at hj, ha]
      refine Reads.mk (by omega) (by omega) fun i hi => ⟨a.block, a.off, rfl, hbl, fun j hj => ?_⟩
      obtain ⟨u, hu, hr⟩ := (hf i hi).2 j hj
      rw [hadd] at hu
      exact ⟨u, hu, hr⟩
theorem opens_int64 : Opens enc W 2 1 (fun g => tyInt (g 0)) := opens_int Try.underlying2
theorem opens_string : Opens enc W 9 1 (fun g => tyStr (g 0)) := opens_str Try.underlying9
end

end Go.Proofs.Ytkcfghbkcgommab.core
