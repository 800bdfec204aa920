/-
  Proved: an ink that is read is strokes in memory; what the laws on ink keep beside the cells that they load.
  Conditions: none.
-/
import Derived.Test.YtklfmlbokedbdaaInkOk
import Derived.Test.YtklfmlbokedbdaaValidStroke
namespace Go.Proofs.Ytklfmlbokedbdaa.inkLaw
open Go.ChangeShapes Go.WideShapes Go.ChangeAt Go.RowKit Go.Joins
open Go.Proofs.Ytklfmlbokedbdaa.join Go.Proofs.Ytklfmlbokedbdaa.strokes Go.Proofs.Ytklfmlbokedbdaa.inks
open Go.Proofs.Ytklfmlbokedbdaa.fnExactValidStroke (open_points cell_some add_none cells24)
set_option linter.unusedVariables false

structure Inv (w : World) (A : Option Addr) (ink : List (List P3)) (G k : Nat) (W : World) : Prop where
  below : Below w.heap.size w W
  z : w.heap.size < W.heap.size
  kz : k < W.heap.size
  gz : G < W.heap.size
  row : RowsFrom 0 W G ink
  arg : ArgRows W A ink
theorem Inv.kept {w : World} {A : Option Addr} {ink : List (List P3)} {G k : Nat} {W w' : World} (h : Inv w A ink G k W) (hb : Below W.heap.size W w') : Inv w A ink G k w' :=
  ⟨h.below.trans (hb.mono h.below.size), Nat.lt_of_lt_of_le h.z hb.size, Nat.lt_of_lt_of_le h.kz hb.size, Nat.lt_of_lt_of_le h.gz hb.size, h.row.below hb h.gz, h.arg.below hb⟩
theorem keepS {w : World} {A : Option Addr} {ink : List (List P3)} {G k n cap : Nat} {W w' : World} (hb : Below W.heap.size W w') (h : W.cell? ⟨k, 0, none⟩ = some (.slice (some ⟨G, 0, none⟩) n n) ∧ W.cell? ⟨w.heap.size, 0, none⟩ = some (.slice A n cap) ∧ Inv w A ink G k W) :
    w'.cell? ⟨k, 0, none⟩ = some (.slice (some ⟨G, 0, none⟩) n n) ∧ w'.cell? ⟨w.heap.size, 0, none⟩ = some (.slice A n cap) ∧ Inv w A ink G k w' :=
  ⟨(hb.cell (p := ⟨k, 0, none⟩) h.2.2.kz).trans h.1, (hb.cell (p := ⟨w.heap.size, 0, none⟩) h.2.2.z).trans h.2.1, h.2.2.kept hb⟩
theorem drewS {w : World} {A : Option Addr} {ink : List (List P3)} {G k n cap : Nat} {W : World} (h : W.cell? ⟨k, 0, none⟩ = some (.slice (some ⟨G, 0, none⟩) n n) ∧ W.cell? ⟨w.heap.size, 0, none⟩ = some (.slice A n cap) ∧ Inv w A ink G k W) :
    W.drew.cell? ⟨k, 0, none⟩ = some (.slice (some ⟨G, 0, none⟩) n n) ∧ W.drew.cell? ⟨w.heap.size, 0, none⟩ = some (.slice A n cap) ∧ Inv w A ink G k W.drew :=
  ⟨h.1, h.2.1, ⟨h.2.2.below.drew, h.2.2.z, h.2.2.kz, h.2.2.gz, h.2.2.row, h.2.2.arg⟩⟩
section
variable {w : World} {A : Option Addr} {ink : List (List P3)} {G k n cap : Nat} {W : World}
theorem keepArg (h : W.cell? ⟨k, 0, none⟩ = some (.slice (some ⟨G, 0, none⟩) n n) ∧ W.cell? ⟨w.heap.size, 0, none⟩ = some (.slice A n cap) ∧ Inv w A ink G k W) : ArgRows W A ink := h.2.2.arg
theorem keepGz (h : W.cell? ⟨k, 0, none⟩ = some (.slice (some ⟨G, 0, none⟩) n n) ∧ W.cell? ⟨w.heap.size, 0, none⟩ = some (.slice A n cap) ∧ Inv w A ink G k W) : G < W.heap.size := h.2.2.gz
theorem keepRow (h : W.cell? ⟨k, 0, none⟩ = some (.slice (some ⟨G, 0, none⟩) n n) ∧ W.cell? ⟨w.heap.size, 0, none⟩ = some (.slice A n cap) ∧ Inv w A ink G k W) : RowsFrom 0 W G ink := h.2.2.row
theorem keepBelow (h : W.cell? ⟨k, 0, none⟩ = some (.slice (some ⟨G, 0, none⟩) n n) ∧ W.cell? ⟨w.heap.size, 0, none⟩ = some (.slice A n cap) ∧ Inv w A ink G k W) : Below w.heap.size w W := h.2.2.below
end

set_option maxRecDepth 100000 in
/-- A slice of strokes that is read: its length, and its strokes. -/
theorem open_rows {H : Type} {enc : TypeId × Value → H} {W : World} {fuel : Nat} {v : Value} {x : DataW H × List MemPlace} (h : DataW.trod enc Try.prog W 0 (fun _ => true) true fuel 33 [v] = some x) :
    ∃ (A : Option Addr) (n cap : Nat) (ink : List (List P3)), v = .slice A n cap ∧ ink.length = n ∧ n ≤ maxLen ∧ ArgRows W A ink := by
  rcases Deep.open_slice Try.underlying33 h with ⟨hcs, _⟩ | ⟨a, len, cap, m, n', D, Pl, hcs, hb, hl, hm, hmm, hx, hi⟩
  · simp only [List.cons.injEq, and_true] at hcs
    exact ⟨none, 0, 0, [], hcs, rfl, Nat.zero_le _, fun i p hi => by simp at hi⟩
  · simp only [List.cons.injEq, and_true] at hcs
    have key : ∀ i, i < len → ∃ (pts : List P3) (B : Option Addr) (c : Nat), W.cell? (a.add i) = some (.slice B pts.length c) ∧ pts.length ≤ maxLen ∧ ArgPts W B pts := by
      intro i hil
      obtain ⟨cs', hc, ht⟩ := hi i (by simp at hmm; omega)
      rw [cells24] at hc
      obtain ⟨xs, k, _, _, hcl, hxl, hat⟩ := DataW.trod_struct Try.underlying24 ht
      obtain ⟨_, hcl', hcell⟩ := World.cells?_some hc
      have hxl' : xs.length = 1 := hxl
      have f0 := hat 0 _ rfl
      rw [List.getElem?_eq_getElem (by omega)] at f0
      match cs', hcl' with
      | [c0], _ =>
        have f1 : DataW.trod enc Try.prog W 0 (fun _ => true) true k 22 [c0] = some xs[0] := by
          have e : Try.prog.cellsOf 22 = 1 := by kernel_rfl
          simpa [e] using f0
        obtain ⟨B, m', c, pts, rfl, h1, h2, h3⟩ := open_points f1
        subst h1
        refine ⟨pts, B, c, ?_, h2, h3⟩
        have := hcell 0 (by omega)
        simpa [Addr.add] using this
    let f : Nat → List P3 := fun i => if h : i < len then Classical.choose (key i h) else []
    refine ⟨some a, len, cap, (List.range len).map f, hcs, by simp, by omega, ?_⟩
    intro i p hip
    rw [List.getElem?_map] at hip
    obtain ⟨i', hi', rfl⟩ := Option.map_eq_some_iff.1 hip
    have hil : i < len := by
      have := (List.getElem?_eq_some_iff.1 hi').1
      simpa using this
    obtain rfl : i = i' := by
      rw [List.getElem?_range hil] at hi'
      injection hi'
    have hf : f i = Classical.choose (key i hil) := dif_pos hil
    obtain ⟨B, c, h0, h1, h2⟩ := Classical.choose_spec (key i hil)
    rw [← hf] at h0 h1 h2
    obtain ⟨_, _, _, hq, _, _⟩ := key 0 (by omega)
    have hsp : a.spot = none := by
      have := (cell_some hq).1
      simpa [Addr.add] using this
    have ha : a = ⟨a.block, a.off, none⟩ := by rw [← hsp]
    have hbl := (cell_some h0).2
    have e0 := add_none hsp i
    rw [e0] at h0 hbl
    exact ⟨a.block, a.off, B, c, congrArg some ha, hbl, h0, h1, h2⟩

theorem cells35 : Try.prog.cellsOf 35 = 1 := by kernel_rfl
set_option maxRecDepth 100000 in
/-- An ink that is read. -/
theorem open_ink {H : Type} {enc : TypeId × Value → H} {W : World} {r : Reach} {b0 : Nat} {v : Value} {d : DataW H} {p : List MemPlace} (hv : Value.okWide Try.prog W r b0 35 v) (h : DataW.Trod enc Try.prog W 0 (fun _ => true) true 35 v d p) :
    ∃ (A : Option Addr) (n cap : Nat) (ink : List (List P3)), v = .agg #[.slice A n cap] ∧ ink.length = n ∧ n ≤ maxLen ∧ ArgRows W A ink := by
  obtain ⟨cs, rfl, hsz⟩ := okWide_struct Try.underlying35 hv
  rw [cells35] at hsz
  obtain ⟨l⟩ := cs
  match l, hsz with
  | [c0], _ =>
    obtain ⟨fuel, hf⟩ := h
    obtain ⟨xs, k, _, _, _, hxl, hat⟩ := DataW.trod_struct Try.underlying35 hf
    have hxl' : xs.length = 1 := hxl
    have f0 := hat 0 _ rfl
    rw [List.getElem?_eq_getElem (by omega)] at f0
    have f1 : DataW.trod enc Try.prog W 0 (fun _ => true) true k 33 [c0] = some xs[0] := by
      have e : Try.prog.cellsOf 33 = 1 := by kernel_rfl
      simpa [Value.cells, e] using f0
    obtain ⟨A, n, cap, ink, rfl, h1, h2, h3⟩ := open_rows f1
    exact ⟨A, n, cap, ink, rfl, h1, h2, h3⟩
end Go.Proofs.Ytklfmlbokedbdaa.inkLaw
