/-
  Proved: slices.Clone of texts; a perceptron that is built up in a box (plain lemmas).
  Conditions: those of each theorem.
-/
import Derived.Test.YtimkochgnjggdaaWts
import Derived.Test.YtimkochgnjggdaaInp
import Derived.Test.YtimkochgnjggdaaPer
import Derived.Laws.Cover3
namespace Go.Proofs.Ytimkochgnjggdaa.new
open Go.ChangeShapes Go.WideShapes Go.ChangeAt Go.RowKit Go.Joins
open Go.Proofs.Ytimkochgnjggdaa.core Go.Proofs.Ytimkochgnjggdaa.rown Go.Proofs.Ytimkochgnjggdaa.stk Go.Proofs.Ytimkochgnjggdaa.boxed Go.Proofs.Ytimkochgnjggdaa.ft Go.Proofs.Ytimkochgnjggdaa.one1 Go.Proofs.Ytimkochgnjggdaa.wts Go.Proofs.Ytimkochgnjggdaa.inp
set_option linter.unusedVariables false
set_option linter.unusedSimpArgs false
theorem add_off (b o j : Nat) : (⟨b, o, none⟩ : Addr).add j = ⟨b, o + j, none⟩ := by unfold Addr.add; split <;> simp_all
theorem ss_news {w : World} {b o n : Nat} {s : Nat → ByteArray} (hp : SsAt w (some ⟨b, o, none⟩) n s) : ∀ j u, (rws (srow s) n)[j]? = some u → w.cell? ((⟨b, o, none⟩ : Addr).add j) = some u := by
  intro j u hu
  have hl : j < n := by
    have := (List.getElem?_eq_some_iff.1 hu).1
    rw [rws_len (srow_len s)] at this
    omega
  have h2 := rws_get (srow_len s) j 0 (by omega) n hl
  rw [Nat.mul_one, Nat.add_zero] at h2
  rw [h2] at hu
  obtain ⟨b', o', e, hb, c0⟩ := hp j hl
  injection e with e
  injection e with e1 e2
  subst e1 e2
  rw [add_off, c0, ← hu]
  rfl
theorem ss_one (s : Nat → ByteArray) (n : Nat) : ∀ u ∈ rws (srow s) n, u.oneCell' = true := by
  induction n with
  | zero => intro u hu; cases hu
  | succ n ih =>
    intro u hu
    rw [rws_succ, List.mem_append] at hu
    rcases hu with hu | hu
    · exact ih u hu
    · unfold srow at hu
      simp at hu
      rw [hu]
      rfl
theorem some_not_nil (a : Addr) (n c : Nat) (w : World) : (binOp .eql 34 (.slice (some a) n c) (.slice none 0 0)).run Try.prog w = .ok (.bool false) w := by
  show ((do pure (.bool (← Op.equal 34 (.slice (some a) n c) (.slice none 0 0))) : Sem Value)).run Try.prog w = _
  simp [run_equal_slice_nil w 34 9 (some a) n c Try.underlying34]
set_option maxRecDepth 100000 in
set_option maxHeartbeats 2000000 in
theorem cloneS {c : Nat} (A : Option Addr) (n : Nat) (s : Nat → ByteArray) (w : World) (h1 : 1 ≤ n) (h12 : n ≤ 12) (hp : SsAt w A n s) :
    Calls Try.prog 65 #[.slice A n c] w fun e w' => ∃ g d, e = .returned (.slice (some ⟨g, 0, none⟩) n d) ∧ w'.ownsRow w.heap.size 9 1 (.slice (some ⟨g, 0, none⟩) n d) n (rws (srow s) n) ∧ Below w.heap.size w w' := by
  obtain ⟨i0, hi0, hz0, hz1, hz2⟩ := rown.info_get infoS
  obtain ⟨g0, o0, rfl, hg0, -⟩ := hp 0 (by omega)
  have B0 := Lib.hid (below_alloc1 w (.cells #[] 9))
  have HP := Lib.hid (hp.kept B0.out)
  have HO := Lib.hid (empty_row w 9 1)
  have hnil := fun W => some_not_nil ⟨g0, o0, none⟩ n c W
  clear hp hg0
  go_enter Try.func65, Try.ntmps65
  go_wp2_with (first
    | (at_builtin
       have z1 : ∀ u ∈ rws (srow s) n, u.oneCell' = true := ss_one s n
       have z2 : 0 + n ≤ maxLen := (by simp only [maxLen]; omega)
       have z3 : (0 + n) * 16 ≤ 140737488355328 := (by omega)
       have z4 : w.heap.size ≤ (w.alloc (.cells #[] 9)).heap.size := B0.out.size
       refine wpList_append_lies (w.alloc (.cells #[] 9)) rfl _ _ 34 rfl w.heap.size 9 i0 _ 1 16 Try.underlying34 hi0 hz0 hz1 hz2 rfl (by decide) (.slice (some ⟨w.heap.size, 0, none⟩) 0 0) 0 [] rfl HO.out ⟨g0, o0, none⟩ n c (rws (srow s) n) rfl (rws_len (srow_len s) n) (ss_news HP.out) z1 (by omega) z2 z3 z4 _ rfl ?_
       intro g3 cap3 w4 hown hgr hat hlt3
       have HO4 := Lib.hid hown
       have HB4 := Lib.hid (B0.out.grown hgr B0.out.size (fun kk hkk => (by simp [Value.ownBlock] at hkk; omega)))
       clear hown hgr hat z1 z2 z3 z4)
)
  go_ret
  exact ⟨g3, cap3, by simp, by simpa using HO4.out, HB4.out⟩
/-- A perceptron in its box, behind the world w2; its labels lie before it. -/
structure NS (w2 : World) (v : Value) (D : Option Addr) (k C : Nat) (gi ln ci : Nat → Nat) (lf : Nat → Nat → Int) (W : World) : Prop where
  below : Below w2.heap.size w2 W
  box : W.heap[w2.heap.size]? = some (.cells #[v, .slice D k C] 38 (0, 0))
  wd : WD W (w2.heap.size + 1) D k C gi ln ci lf
section
variable {w2 W V : World} {v : Value} {D : Option Addr} {k C : Nat} {gi ln ci : Nat → Nat} {lf : Nat → Nat → Int}
theorem NS.start (w2 : World) (v : Value) (gi ln ci : Nat → Nat) (lf : Nat → Nat → Int) : NS w2 v none 0 0 gi ln ci lf (w2.alloc (.cells #[v, .slice none 0 0] 38)) :=
  ⟨below_alloc1 _ _, heap_alloc_new _ _, WD.nil _ _ _ _ _ _⟩
theorem NS.lt (h : NS w2 v D k C gi ln ci lf W) : w2.heap.size + 1 ≤ W.heap.size := block_size h.box
theorem NS.cells (h : NS w2 v D k C gi ln ci lf W) : W.cell? ⟨w2.heap.size, 0, none⟩ = some v ∧ W.cell? ⟨w2.heap.size, 1, none⟩ = some (.slice D k C) := ⟨by rw [cell_of_block h.box]; rfl, by rw [cell_of_block h.box]; rfl⟩
theorem NS.seen (h : NS w2 v D k C gi ln ci lf W) (hB : Below (w2.heap.size + 1) W V) : V.cell? ⟨w2.heap.size, 1, none⟩ = some (.slice D k C) ∧ V.frozen? ⟨w2.heap.size, 1, none⟩ = false := by
  have e := (hB.block w2.heap.size (by omega)).trans h.box
  exact ⟨by rw [cell_of_block e]; rfl, unfrozen_of_block e 1⟩
/-- One row more. -/
theorem NS.next {V2 : World} {o : Obj} {gb Cb g2 C2 : Nat} (h : NS w2 v D k C gi ln ci lf W) (hV : Below W.heap.size W V) (hr : V.ownsRow W.heap.size 2 1 (.slice (some ⟨gb, 0, none⟩) (ln k) Cb) (ln k) (rws (one (lf k)) (ln k)))
    (hgr : (V.alloc o).grownBy V2 (Value.slice D k C).ownBlock) (hown : V2.ownsRow (w2.heap.size + 1) 24 1 (.slice (some ⟨g2, 0, none⟩) (k + 1) C2) (k + 1) (rws (wrow gi ln ci) k ++ [.slice (some ⟨gb, 0, none⟩) (ln k) Cb])) :
    NS w2 v (some ⟨g2, 0, none⟩) (k + 1) C2 (fun i => if i = k then gb else gi i) ln (fun i => if i = k then Cb else ci i) lf (V2.setCell ⟨w2.heap.size, 1, none⟩ (.slice (some ⟨g2, 0, none⟩) (k + 1) C2)) ∧ Below (w2.heap.size + 1) W V2 := by
  have hlt := h.lt
  have hT := h.wd.kept hV
  have hgb : W.heap.size ≤ gb := (rown.ownsRow_block hr (g := gb) rfl).1
  have h2 : Below (w2.heap.size + 1) V V2 := rown.under hT.row (Nat.le_trans hlt hV.size) hgr
  have h3 : Below (w2.heap.size + 1) W V2 := (hV.mono hlt).trans h2
  have e := (h3.block w2.heap.size (by omega)).trans h.box
  have hp := hT.push (row_low hr hlt) (fun i hi => by have := (h.wd.lt hi).2; omega) hgr hown
  exact ⟨⟨(h.below.trans (h3.mono (by omega))).setCell (Nat.le_refl _) _, block_setCell e _, hp.far (by omega) _⟩, h3⟩
end
end Go.Proofs.Ytimkochgnjggdaa.new
