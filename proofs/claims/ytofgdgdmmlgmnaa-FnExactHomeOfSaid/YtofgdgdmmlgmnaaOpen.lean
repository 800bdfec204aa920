/-
  Proved: an argument that is read is a record of numbers, texts and lists in memory.
  Conditions: none.
-/
import Derived.Test.YtofgdgdmmlgmnaaRec
namespace Go.Proofs.Ytofgdgdmmlgmnaa.core
open Go.ChangeShapes Go.WideShapes Go.ChangeAt Go.RowKit Go.Joins
set_option linter.unusedVariables false
set_option linter.unusedSimpArgs false

theorem cell_some {w : World} {a : Addr} {v : Value} (h : w.cell? a = some v) : a.spot = none ∧ a.block < w.heap.size := by
  unfold World.cell? at h
  split at h
  · rename_i c e f hb
    refine ⟨?_, (Array.getElem?_eq_some_iff.1 hb).1⟩
    cases hs : a.spot with
    | none => rfl
    | some _ => simp [hs] at h
  · simp at h
theorem add_none {a : Addr} (h : a.spot = none) (n : Nat) : a.add n = ⟨a.block, a.off + n, none⟩ := by
  unfold Addr.add
  split
  · rename_i e; subst e; cases a; simp_all
  · rfl
section
variable {H : Type} {enc : TypeId × Value → H} {W : World}
/-- A value of the type that is read has k cells, and they read as data of this shape. -/
def Opens {H : Type} (enc : TypeId × Value → H) (W : World) (t : TypeId) (k : Nat) (row : (Nat → Dat) → Prop) : Prop :=
  ∀ (fuel : Nat) (cs : List Value) (x : DataW H × List MemPlace), DataW.trod enc Try.prog W 0 (fun _ => true) true fuel t cs = some x → cs.length = k ∧ ∃ g : Nat → Dat, row g ∧ ∀ j u, cs[j]? = some u → Reads W u (g j)
theorem one_at {v u : Value} {j : Nat} (h : [v][j]? = some u) : u = v := by
  match j, h with
  | 0, h => simpa using h.symm
theorem wf_i64' {n : Int} (h : (Lit.int .i64 n).wf = true) : inI64 n := bounds_i64 h
theorem opens_int {t : TypeId} (ht : Try.prog.underlying t = some (.int .i64)) : Opens enc W t 1 (fun g => tyInt (g 0)) := by
  intro fuel cs x h
  obtain ⟨n, rfl, _, hw⟩ := DataW.trod_int ht h
  refine ⟨rfl, fun _ => .int n, ⟨n, rfl⟩, fun j u hj => ?_⟩
  rw [one_at hj]
  exact .int n (wf_i64' hw)
theorem opens_str {t : TypeId} (ht : Try.prog.underlying t = some .string) : Opens enc W t 1 (fun g => tyStr (g 0)) := by
  intro fuel cs x h
  obtain ⟨s, rfl, _, hs⟩ := DataW.trod_string ht h
  refine ⟨rfl, fun _ => .str s, ⟨s, rfl⟩, fun j u hj => ?_⟩
  rw [one_at hj]
  exact .str s hs
theorem opens_slice {t e : TypeId} {k : Nat} {row : (Nat → Dat) → Prop} (ht : Try.prog.underlying t = some (.slice e)) (hc : Try.prog.cellsOf e = k) (hk : 0 < k) (he : Opens enc W e k row) :
    Opens enc W t 1 (fun g => ∃ n f, g 0 = .sl n k f ∧ ∀ i, i < n → row (f i)) := by
  intro fuel cs x h
  rcases Deep.open_slice ht h with ⟨rfl, _⟩ | ⟨a, len, cap, m, n', D, Pl, rfl, hb, hl, hm, hmm, hx, hi⟩
  · refine ⟨rfl, fun _ => .sl 0 k (fun _ _ => .int 0), ⟨0, _, rfl, fun i hi => absurd hi (by omega)⟩, fun j u hj => ?_⟩
    rw [one_at hj]
    exact .nil _ _ _ _
  · have key : ∀ i, i < len → ∃ g : Nat → Dat, row g ∧ ∀ j, j < k → ∃ u, W.cell? ((a.add (i * k)).add j) = some u ∧ Reads W u (g j) := by
      intro i hil
      obtain ⟨cs', hc', ht'⟩ := hi i (by simp at hmm; omega)
      rw [hc] at hc'
      obtain ⟨hl', g, hg, hr⟩ := he _ _ _ ht'
      obtain ⟨_, hcl', hcell⟩ := World.cells?_some hc'
      exact ⟨g, hg, fun j hj => ⟨cs'[j]'(by omega), (hcell j hj).trans (List.getElem?_eq_getElem _), hr j _ (List.getElem?_eq_getElem _)⟩⟩
    by_cases h0 : len = 0
    · subst h0
      refine ⟨rfl, fun _ => .sl 0 k (fun _ _ => .int 0), ⟨0, _, rfl, fun i hi => absurd hi (by omega)⟩, fun j u hj => ?_⟩
      rw [one_at hj]
      exact .nil _ _ _ _
    · obtain ⟨g0, _, hg0⟩ := key 0 (by omega)
      obtain ⟨u0, hu0, _⟩ := hg0 0 hk
      have hsp : a.spot = none := by
        have := (cell_some hu0).1
        simp [Addr.add] at this
        simpa using this
      have hadd : ∀ i j, (a.add i).add j = ⟨a.block, a.off + i + j, none⟩ := fun i j => by rw [add_none hsp i, add_none rfl j]
      have hbl : a.block < W.heap.size := by
        have := (cell_some hu0).2
        rw [hadd] at this
        exact this
      have ha : a = ⟨a.block, a.off, none⟩ := by rw [← hsp]
      let f : Nat → Nat → Dat := fun i => if h : i < len then Classical.choose (key i h) else fun _ => .int 0
      have hf : ∀ i (h : i < len), row (f i) ∧ ∀ j, j < k → ∃ u, W.cell? ((a.add (i * k)).add j) = some u ∧ Reads W u (f i j) := fun i h => by
        have e : f i = Classical.choose (key i h) := dif_pos h
        rw [e]
        exact Classical.choose_spec (key i h)
      refine ⟨rfl, fun _ => .sl len k f, ⟨len, f, rfl, fun i hi => (hf i hi).1⟩, fun j u hj => ?_⟩
      rw [one_at hj, ha]
      refine Reads.mk (by omega) (by omega) fun i hi => ⟨a.block, a.off, rfl, hbl, fun j hj => ?_⟩
      obtain ⟨u, hu, hr⟩ := (hf i hi).2 j hj
      rw [hadd] at hu
      exact ⟨u, hu, hr⟩
theorem opens_int64 : Opens enc W 2 1 (fun g => tyInt (g 0)) := opens_int Try.underlying2
theorem opens_string : Opens enc W 9 1 (fun g => tyStr (g 0)) := opens_str Try.underlying9
theorem opens_Point : Opens enc W 125 3 (fun g => tyInt (g 0) ∧ tyInt (g 1) ∧ tyInt (g 2)) := by
  intro fuel cs x h
  obtain ⟨xs, n, _, _, hcl, hxl, hat⟩ := DataW.trod_struct Try.underlying125 h
  have hxl' : xs.length = 3 := hxl
  have hcl' : cs.length = 3 := hcl.trans (by kernel_rfl)
  have f0 : DataW.trod enc Try.prog W 0 (fun _ => true) true n 2 ((cs.drop 0).take (Try.prog.cellsOf 2)) = xs[0]? := hat 0 _ rfl
  rw [show Try.prog.cellsOf 2 = 1 by kernel_rfl, List.getElem?_eq_getElem (by omega)] at f0
  obtain ⟨_, g0, w0, a0⟩ := opens_int64 _ _ _ f0
  have f1 : DataW.trod enc Try.prog W 0 (fun _ => true) true n 2 ((cs.drop 1).take (Try.prog.cellsOf 2)) = xs[1]? := hat 1 _ rfl
  rw [show Try.prog.cellsOf 2 = 1 by kernel_rfl, List.getElem?_eq_getElem (by omega)] at f1
  obtain ⟨_, g1, w1, a1⟩ := opens_int64 _ _ _ f1
  have f2 : DataW.trod enc Try.prog W 0 (fun _ => true) true n 2 ((cs.drop 2).take (Try.prog.cellsOf 2)) = xs[2]? := hat 2 _ rfl
  rw [show Try.prog.cellsOf 2 = 1 by kernel_rfl, List.getElem?_eq_getElem (by omega)] at f2
  obtain ⟨_, g2, w2, a2⟩ := opens_int64 _ _ _ f2
  refine ⟨hcl', fun j => if j < 1 then g0 (j - 0) else if j < 2 then g1 (j - 1) else if j < 3 then g2 (j - 2) else .int 0, ⟨?_, ?_, ?_⟩, fun j u hj => ?_⟩
  · simpa using w0
  · simpa using w1
  · simpa using w2
  · have hjk : j < cs.length := (List.getElem?_eq_some_iff.1 hj).1
    by_cases h0 : j < 1
    · have := a0 (j - 0) u (by rw [List.getElem?_take, if_pos (by omega), List.getElem?_drop, show 0 + (j - 0) = j by omega]; exact hj)
      simp only [h0, if_true, if_false]
      exact this
    by_cases h1 : j < 2
    · have := a1 (j - 1) u (by rw [List.getElem?_take, if_pos (by omega), List.getElem?_drop, show 1 + (j - 1) = j by omega]; exact hj)
      simp only [h0, h1, if_true, if_false]
      exact this
    by_cases h2 : j < 3
    · have := a2 (j - 2) u (by rw [List.getElem?_take, if_pos (by omega), List.getElem?_drop, show 2 + (j - 2) = j by omega]; exact hj)
      simp only [h0, h1, h2, if_true, if_false]
      exact this
    · omega
theorem opens_PointS : Opens enc W 50 1 (fun g => tyPointS (g 0)) := opens_slice Try.underlying50 (by kernel_rfl) (by omega) opens_Point
theorem opens_Stroke : Opens enc W 52 1 (fun g => tyPointS (g 0)) := by
  intro fuel cs x h
  obtain ⟨xs, n, _, _, hcl, hxl, hat⟩ := DataW.trod_struct Try.underlying52 h
  have hxl' : xs.length = 1 := hxl
  have hcl' : cs.length = 1 := hcl.trans (by kernel_rfl)
  have f0 : DataW.trod enc Try.prog W 0 (fun _ => true) true n 50 ((cs.drop 0).take (Try.prog.cellsOf 50)) = xs[0]? := hat 0 _ rfl
  rw [show Try.prog.cellsOf 50 = 1 by kernel_rfl, List.getElem?_eq_getElem (by omega)] at f0
  obtain ⟨_, g0, w0, a0⟩ := opens_PointS _ _ _ f0
  refine ⟨hcl', fun j => if j < 1 then g0 (j - 0) else .int 0, ?_, fun j u hj => ?_⟩
  · simpa using w0
  · have hjk : j < cs.length := (List.getElem?_eq_some_iff.1 hj).1
    by_cases h0 : j < 1
    · have := a0 (j - 0) u (by rw [List.getElem?_take, if_pos (by omega), List.getElem?_drop, show 0 + (j - 0) = j by omega]; exact hj)
      simp only [h0, if_true, if_false]
      exact this
    · omega
theorem opens_StrokeS : Opens enc W 61 1 (fun g => tyStrokeS (g 0)) := opens_slice Try.underlying61 (by kernel_rfl) (by omega) opens_Stroke
theorem opens_Ink : Opens enc W 63 1 (fun g => tyStrokeS (g 0)) := by
  intro fuel cs x h
  obtain ⟨xs, n, _, _, hcl, hxl, hat⟩ := DataW.trod_struct Try.underlying63 h
  have hxl' : xs.length = 1 := hxl
  have hcl' : cs.length = 1 := hcl.trans (by kernel_rfl)
  have f0 : DataW.trod enc Try.prog W 0 (fun _ => true) true n 61 ((cs.drop 0).take (Try.prog.cellsOf 61)) = xs[0]? := hat 0 _ rfl
  rw [show Try.prog.cellsOf 61 = 1 by kernel_rfl, List.getElem?_eq_getElem (by omega)] at f0
  obtain ⟨_, g0, w0, a0⟩ := opens_StrokeS _ _ _ f0
  refine ⟨hcl', fun j => if j < 1 then g0 (j - 0) else .int 0, ?_, fun j u hj => ?_⟩
  · simpa using w0
  · have hjk : j < cs.length := (List.getElem?_eq_some_iff.1 hj).1
    by_cases h0 : j < 1
    · have := a0 (j - 0) u (by rw [List.getElem?_take, if_pos (by omega), List.getElem?_drop, show 0 + (j - 0) = j by omega]; exact hj)
      simp only [h0, if_true, if_false]
      exact this
    · omega
theorem opens_Setting : Opens enc W 23 3 (fun g => tyInt (g 0) ∧ tyInt (g 1) ∧ tyInt (g 2)) := by
  intro fuel cs x h
  obtain ⟨xs, n, _, _, hcl, hxl, hat⟩ := DataW.trod_struct Try.underlying23 h
  have hxl' : xs.length = 3 := hxl
  have hcl' : cs.length = 3 := hcl.trans (by kernel_rfl)
  have f0 : DataW.trod enc Try.prog W 0 (fun _ => true) true n 2 ((cs.drop 0).take (Try.prog.cellsOf 2)) = xs[0]? := hat 0 _ rfl
  rw [show Try.prog.cellsOf 2 = 1 by kernel_rfl, List.getElem?_eq_getElem (by omega)] at f0
  obtain ⟨_, g0, w0, a0⟩ := opens_int64 _ _ _ f0
  have f1 : DataW.trod enc Try.prog W 0 (fun _ => true) true n 2 ((cs.drop 1).take (Try.prog.cellsOf 2)) = xs[1]? := hat 1 _ rfl
  rw [show Try.prog.cellsOf 2 = 1 by kernel_rfl, List.getElem?_eq_getElem (by omega)] at f1
  obtain ⟨_, g1, w1, a1⟩ := opens_int64 _ _ _ f1
  have f2 : DataW.trod enc Try.prog W 0 (fun _ => true) true n 2 ((cs.drop 2).take (Try.prog.cellsOf 2)) = xs[2]? := hat 2 _ rfl
  rw [show Try.prog.cellsOf 2 = 1 by kernel_rfl, List.getElem?_eq_getElem (by omega)] at f2
  obtain ⟨_, g2, w2, a2⟩ := opens_int64 _ _ _ f2
  refine ⟨hcl', fun j => if j < 1 then g0 (j - 0) else if j < 2 then g1 (j - 1) else if j < 3 then g2 (j - 2) else .int 0, ⟨?_, ?_, ?_⟩, fun j u hj => ?_⟩
  · simpa using w0
  · simpa using w1
  · simpa using w2
  · have hjk : j < cs.length := (List.getElem?_eq_some_iff.1 hj).1
    by_cases h0 : j < 1
    · have := a0 (j - 0) u (by rw [List.getElem?_take, if_pos (by omega), List.getElem?_drop, show 0 + (j - 0) = j by omega]; exact hj)
      simp only [h0, if_true, if_false]
      exact this
    by_cases h1 : j < 2
    · have := a1 (j - 1) u (by rw [List.getElem?_take, if_pos (by omega), List.getElem?_drop, show 1 + (j - 1) = j by omega]; exact hj)
      simp only [h0, h1, if_true, if_false]
      exact this
    by_cases h2 : j < 3
    · have := a2 (j - 2) u (by rw [List.getElem?_take, if_pos (by omega), List.getElem?_drop, show 2 + (j - 2) = j by omega]; exact hj)
      simp only [h0, h1, h2, if_true, if_false]
      exact this
    · omega
theorem opens_Hyp : Opens enc W 76 2 (fun g => tyStr (g 0) ∧ tyInt (g 1)) := by
  intro fuel cs x h
  obtain ⟨xs, n, _, _, hcl, hxl, hat⟩ := DataW.trod_struct Try.underlying76 h
  have hxl' : xs.length = 2 := hxl
  have hcl' : cs.length = 2 := hcl.trans (by kernel_rfl)
  have f0 : DataW.trod enc Try.prog W 0 (fun _ => true) true n 9 ((cs.drop 0).take (Try.prog.cellsOf 9)) = xs[0]? := hat 0 _ rfl
  rw [show Try.prog.cellsOf 9 = 1 by kernel_rfl, List.getElem?_eq_getElem (by omega)] at f0
  obtain ⟨_, g0, w0, a0⟩ := opens_string _ _ _ f0
  have f1 : DataW.trod enc Try.prog W 0 (fun _ => true) true n 2 ((cs.drop 1).take (Try.prog.cellsOf 2)) = xs[1]? := hat 1 _ rfl
  rw [show Try.prog.cellsOf 2 = 1 by kernel_rfl, List.getElem?_eq_getElem (by omega)] at f1
  obtain ⟨_, g1, w1, a1⟩ := opens_int64 _ _ _ f1
  refine ⟨hcl', fun j => if j < 1 then g0 (j - 0) else if j < 2 then g1 (j - 1) else .int 0, ⟨?_, ?_⟩, fun j u hj => ?_⟩
  · simpa using w0
  · simpa using w1
  · have hjk : j < cs.length := (List.getElem?_eq_some_iff.1 hj).1
    by_cases h0 : j < 1
    · have := a0 (j - 0) u (by rw [List.getElem?_take, if_pos (by omega), List.getElem?_drop, show 0 + (j - 0) = j by omega]; exact hj)
      simp only [h0, if_true, if_false]
      exact this
    by_cases h1 : j < 2
    · have := a1 (j - 1) u (by rw [List.getElem?_take, if_pos (by omega), List.getElem?_drop, show 1 + (j - 1) = j by omega]; exact hj)
      simp only [h0, h1, if_true, if_false]
      exact this
    · omega
theorem opens_HypS : Opens enc W 28 1 (fun g => tyHypS (g 0)) := opens_slice Try.underlying28 (by kernel_rfl) (by omega) opens_Hyp
end
set_option maxRecDepth 100000 in
theorem open_Point {H : Type} {enc : TypeId × Value → H} {W : World} {r : Reach} {b0 : Nat} {v : Value} {d : DataW H} {p : List MemPlace} (hv : Value.okWide Try.prog W r b0 125 v) (h : DataW.Trod enc Try.prog W 0 (fun _ => true) true 125 v d p) :
    ∃ (vs : Nat → Value) (g : Nat → Dat), v = .agg #[vs 0, vs 1, vs 2] ∧ ReadsRec W 3 vs g ∧ tyrPoint g := by
  obtain ⟨cs, rfl, hsz⟩ := okWide_struct Try.underlying125 hv
  rw [show Try.prog.cellsOf 125 = 3 by kernel_rfl] at hsz
  obtain ⟨l⟩ := cs
  match l, hsz with
  | [c0, c1, c2], _ =>
    obtain ⟨fuel, hf⟩ := h
    obtain ⟨_, g, hg, ha⟩ := opens_Point _ _ _ hf
    refine ⟨fun j => if j = 0 then c0 else if j = 1 then c1 else if j = 2 then c2 else .bool false, g, rfl, fun j hj => ?_, hg⟩
    rcases (by omega : j = 0 ∨ j = 1 ∨ j = 2) with rfl | rfl | rfl
    · exact ha 0 _ rfl
    · exact ha 1 _ rfl
    · exact ha 2 _ rfl
set_option maxRecDepth 100000 in
theorem open_PointS {H : Type} {enc : TypeId × Value → H} {W : World} {r : Reach} {b0 : Nat} {v : Value} {d : DataW H} {p : List MemPlace} (hv : Value.okWide Try.prog W r b0 50 v) (h : DataW.Trod enc Try.prog W 0 (fun _ => true) true 50 v d p) :
    ∃ (vs : Nat → Value) (g : Nat → Dat), v = vs 0 ∧ ReadsRec W 1 vs g ∧ tyrPointS g := by
  obtain ⟨A, n, c, rfl⟩ := okWide_slice Try.underlying50 hv
  obtain ⟨fuel, hf⟩ := h
  obtain ⟨_, g, hg, ha⟩ := opens_PointS _ _ _ hf
  refine ⟨fun _ => .slice A n c, g, rfl, fun j hj => ?_, hg⟩
  obtain rfl : j = 0 := by omega
  exact ha 0 _ rfl
set_option maxRecDepth 100000 in
theorem open_Stroke {H : Type} {enc : TypeId × Value → H} {W : World} {r : Reach} {b0 : Nat} {v : Value} {d : DataW H} {p : List MemPlace} (hv : Value.okWide Try.prog W r b0 52 v) (h : DataW.Trod enc Try.prog W 0 (fun _ => true) true 52 v d p) :
    ∃ (vs : Nat → Value) (g : Nat → Dat), v = .agg #[vs 0] ∧ ReadsRec W 1 vs g ∧ tyrStroke g := by
  obtain ⟨cs, rfl, hsz⟩ := okWide_struct Try.underlying52 hv
  rw [show Try.prog.cellsOf 52 = 1 by kernel_rfl] at hsz
  obtain ⟨l⟩ := cs
  match l, hsz with
  | [c0], _ =>
    obtain ⟨fuel, hf⟩ := h
    obtain ⟨_, g, hg, ha⟩ := opens_Stroke _ _ _ hf
    refine ⟨fun j => if j = 0 then c0 else .bool false, g, rfl, fun j hj => ?_, hg⟩
    obtain rfl : j = 0 := by omega
    exact ha 0 _ rfl
set_option maxRecDepth 100000 in
theorem open_StrokeS {H : Type} {enc : TypeId × Value → H} {W : World} {r : Reach} {b0 : Nat} {v : Value} {d : DataW H} {p : List MemPlace} (hv : Value.okWide Try.prog W r b0 61 v) (h : DataW.Trod enc Try.prog W 0 (fun _ => true) true 61 v d p) :
    ∃ (vs : Nat → Value) (g : Nat → Dat), v = vs 0 ∧ ReadsRec W 1 vs g ∧ tyrStrokeS g := by
  obtain ⟨A, n, c, rfl⟩ := okWide_slice Try.underlying61 hv
  obtain ⟨fuel, hf⟩ := h
  obtain ⟨_, g, hg, ha⟩ := opens_StrokeS _ _ _ hf
  refine ⟨fun _ => .slice A n c, g, rfl, fun j hj => ?_, hg⟩
  obtain rfl : j = 0 := by omega
  exact ha 0 _ rfl
set_option maxRecDepth 100000 in
theorem open_Ink {H : Type} {enc : TypeId × Value → H} {W : World} {r : Reach} {b0 : Nat} {v : Value} {d : DataW H} {p : List MemPlace} (hv : Value.okWide Try.prog W r b0 63 v) (h : DataW.Trod enc Try.prog W 0 (fun _ => true) true 63 v d p) :
    ∃ (vs : Nat → Value) (g : Nat → Dat), v = .agg #[vs 0] ∧ ReadsRec W 1 vs g ∧ tyrInk g := by
  obtain ⟨cs, rfl, hsz⟩ := okWide_struct Try.underlying63 hv
  rw [show Try.prog.cellsOf 63 = 1 by kernel_rfl] at hsz
  obtain ⟨l⟩ := cs
  match l, hsz with
  | [c0], _ =>
    obtain ⟨fuel, hf⟩ := h
    obtain ⟨_, g, hg, ha⟩ := opens_Ink _ _ _ hf
    refine ⟨fun j => if j = 0 then c0 else .bool false, g, rfl, fun j hj => ?_, hg⟩
    obtain rfl : j = 0 := by omega
    exact ha 0 _ rfl
set_option maxRecDepth 100000 in
theorem open_Setting {H : Type} {enc : TypeId × Value → H} {W : World} {r : Reach} {b0 : Nat} {v : Value} {d : DataW H} {p : List MemPlace} (hv : Value.okWide Try.prog W r b0 23 v) (h : DataW.Trod enc Try.prog W 0 (fun _ => true) true 23 v d p) :
    ∃ (vs : Nat → Value) (g : Nat → Dat), v = .agg #[vs 0, vs 1, vs 2] ∧ ReadsRec W 3 vs g ∧ tyrSetting g := by
  obtain ⟨cs, rfl, hsz⟩ := okWide_struct Try.underlying23 hv
  rw [show Try.prog.cellsOf 23 = 3 by kernel_rfl] at hsz
  obtain ⟨l⟩ := cs
  match l, hsz with
  | [c0, c1, c2], _ =>
    obtain ⟨fuel, hf⟩ := h
    obtain ⟨_, g, hg, ha⟩ := opens_Setting _ _ _ hf
    refine ⟨fun j => if j = 0 then c0 else if j = 1 then c1 else if j = 2 then c2 else .bool false, g, rfl, fun j hj => ?_, hg⟩
    rcases (by omega : j = 0 ∨ j = 1 ∨ j = 2) with rfl | rfl | rfl
    · exact ha 0 _ rfl
    · exact ha 1 _ rfl
    · exact ha 2 _ rfl
set_option maxRecDepth 100000 in
theorem open_Hyp {H : Type} {enc : TypeId × Value → H} {W : World} {r : Reach} {b0 : Nat} {v : Value} {d : DataW H} {p : List MemPlace} (hv : Value.okWide Try.prog W r b0 76 v) (h : DataW.Trod enc Try.prog W 0 (fun _ => true) true 76 v d p) :
    ∃ (vs : Nat → Value) (g : Nat → Dat), v = .agg #[vs 0, vs 1] ∧ ReadsRec W 2 vs g ∧ tyrHyp g := by
  obtain ⟨cs, rfl, hsz⟩ := okWide_struct Try.underlying76 hv
  rw [show Try.prog.cellsOf 76 = 2 by kernel_rfl] at hsz
  obtain ⟨l⟩ := cs
  match l, hsz with
  | [c0, c1], _ =>
    obtain ⟨fuel, hf⟩ := h
    obtain ⟨_, g, hg, ha⟩ := opens_Hyp _ _ _ hf
    refine ⟨fun j => if j = 0 then c0 else if j = 1 then c1 else .bool false, g, rfl, fun j hj => ?_, hg⟩
    rcases (by omega : j = 0 ∨ j = 1) with rfl | rfl
    · exact ha 0 _ rfl
    · exact ha 1 _ rfl
set_option maxRecDepth 100000 in
theorem open_HypS {H : Type} {enc : TypeId × Value → H} {W : World} {r : Reach} {b0 : Nat} {v : Value} {d : DataW H} {p : List MemPlace} (hv : Value.okWide Try.prog W r b0 28 v) (h : DataW.Trod enc Try.prog W 0 (fun _ => true) true 28 v d p) :
    ∃ (vs : Nat → Value) (g : Nat → Dat), v = vs 0 ∧ ReadsRec W 1 vs g ∧ tyrHypS g := by
  obtain ⟨A, n, c, rfl⟩ := okWide_slice Try.underlying28 hv
  obtain ⟨fuel, hf⟩ := h
  obtain ⟨_, g, hg, ha⟩ := opens_HypS _ _ _ hf
  refine ⟨fun _ => .slice A n c, g, rfl, fun j hj => ?_, hg⟩
  obtain rfl : j = 0 := by omega
  exact ha 0 _ rfl

end Go.Proofs.Ytofgdgdmmlgmnaa.core
