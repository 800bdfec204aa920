/-
  Proved: what the library returns that collects the values of a map from labels to hypotheses.
  Conditions: the map holds the least hypothesis of each label, and not many.
-/
import Derived.Test.YtofgdgdmmlgmnaaHyM
namespace Go.Proofs.Ytofgdgdmmlgmnaa.hyp
open Go.ChangeShapes Go.WideShapes Go.ChangeAt Go.RowKit Go.Joins Go.Shelf
open Go.Proofs.Ytofgdgdmmlgmnaa.core Go.Proofs.Ytofgdgdmmlgmnaa.rown Go.Proofs.Ytofgdgdmmlgmnaa.stk Go.Proofs.Ytofgdgdmmlgmnaa.boxed Go.Proofs.Ytofgdgdmmlgmnaa.ft Go.Proofs.Ytofgdgdmmlgmnaa.lab
set_option linter.unusedVariables false
set_option linter.unusedSimpArgs false
attribute [local go_sem] Oper.semAt_some
theorem map_alloc {w : World} {P : Program} {k b n : Nat} {R : Value → Option (DataW Unit × List MemPlace)} {D : DataW Unit} (h : w.ownsMap P k R b n D) (o : Obj) : (w.alloc o).ownsMap P k R b n D := map_below h ((Below.refl _ w).alloc (Nat.le_refl _) _)
set_option maxRecDepth 100000 in
set_option maxHeartbeats 4000000 in
theorem seqM {Bm b nn : Nat} (D : DataW Unit) (xs : List Hy) (w : World) (hN : nn ≤ 1000000) (hBm : Bm < w.heap.size) (c0 : w.cell? ⟨Bm, 0, none⟩ = some (.map (some b))) (hm : MapIs D xs) (hown : w.ownsMap Try.prog 9 hyElem b nn D) :
    Calls Try.prog 102 #[.slice none 0 0, .func (.func 103) #[] #[.pointer (some ⟨Bm, 0, none⟩)]] w fun e w' => ∃ v hs, e = .returned v ∧ AllH D xs hs ∧ w'.ownsRow w.heap.size 40 2 v hs.length (rws (hyR (atH hs)) hs.length) ∧ Below w.heap.size w w' := by
  have hsD := size_le hown
  refine (callsIn_wide (n := 6)).1 ?_
  refine callsIn_of_wp_marks Try.func102 rfl trivial ?_ rfl
  simp only [Try.ntmps102, List.size_toArray, List.length_cons, List.length_nil, Nat.reduceAdd, Nat.reduceSub, Array.replicate_succ, Array.replicate_zero, List.push_toArray, List.append_toArray, List.nil_append, List.cons_append]
  gi_wp2
  have hbk0 := Boxed.new w 31 (.slice none 0 0)
  have hB0 : Below w.heap.size w (w.alloc (.cells #[.slice none 0 0] 31)) := (Below.refl _ w).alloc (Nat.le_refl _) _
  have hsz : (w.alloc (.cells #[.slice none 0 0] 31)).heap.size = w.heap.size + 1 := by simp
  have hown0 := map_alloc hown (.cells #[.slice none 0 0] 31)
  obtain ⟨W0, hW0⟩ : ∃ W0, w.alloc (.cells #[.slice none 0 0] 31) = W0 := ⟨_, rfl⟩
  rw [hW0] at hbk0 hB0 hsz hown0 ⊢
  clear hW0
  obtain ⟨i0, hi0, hz0, hz1, hz2'⟩ := rown.info_get infoH
  refine wpIn_rangeFunc_ownH rfl (by omega) (gf := 103) (lb := #[.pointer (some ⟨Bm, 0, none⟩)]) rfl trivial (enters_of Try.func103 (by kernel_rfl) rfl)
    (valsM_stops Fence.wide _ trivial rfl (by omega) Bm b nn D xs hm W0 (by omega) ((hB0.cell (p := ⟨Bm, 0, none⟩) hBm).trans c0) hown0) walksK_t walksK_b (Below.refl _ _) (fun _ => rfl)
    (fun pre W => (∃ v, Boxed W w.heap.size 31 v ∧ W.ownsRow w.heap.size 40 2 v pre.length (rws (hyR (atH pre)) pre.length) ∧ True) ∧ Below w.heap.size w W)
    (fun _ _ _ => False)
    (OwnFrom.and (Own.from (holdsRow_own _ _ _ _ _ (fun pre : List Hy => pre.length) (fun pre => rws (hyR (atH pre)) pre.length) (fun pre v => True)) _) (ownFrom_below (Nat.le_refl _) (by omega)))
    (fun _ _ _ _ _ hs _ _ => hs)
    ⟨⟨_, hbk0, World.ownsRow_nil _ _ _ _, trivial⟩, hB0⟩
    (fun x a' W => ∃ Bx, w.heap.size < Bx ∧ W.heap[Bx]? = some (.cells #[.string x.1, .int .i64 x.2] 40) ∧ a' = { tmps := #[.slice none 0 0, .func (.func 103) #[] #[.pointer (some ⟨Bm, 0, none⟩)], .pointer (some ⟨w.heap.size, 0, none⟩), .tuple #[], .slice none 0 0, .pointer (some ⟨Bx, 0, none⟩), .func (.func 103) #[] #[.pointer (some ⟨Bm, 0, none⟩)], .agg #[.string x.1, .int .i64 x.2], .tuple #[], .tuple #[], .tuple #[], .tuple #[], .tuple #[]], defers := [] })
    (fun x a' s A B row hs hg hr => by
      obtain ⟨Bx, h1, h2, h3⟩ := hs
      refine ⟨Bx, h1, (hg.block Bx (Array.getElem?_eq_some_iff.1 h2).1 ?_).trans h2, h3⟩
      intro e
      obtain ⟨-, o, ho, hc⟩ := hr Bx e.symm
      rw [h2] at ho
      cases ho
      cases hc)
    ?assign ?body ?done ?stop
  case assign =>
    rintro l pre x W Kk ⟨⟨v, hv, hrow, -⟩, hB⟩ hK
    unfold mkV
    gi_wp2
    exact hK _ _ ((KeepsOthers.alloc _ _).from _) (KeepsWalks.alloc _ _) ⟨⟨v, hv.alloc _, hrow.alloc _, trivial⟩, hB.alloc hB.size _⟩ ⟨W.heap.size, hv.lt, heap_alloc_new _ _, rfl⟩
  case body =>
    rintro l pre x a' W hl ⟨r, hr⟩ ⟨⟨v, hv, hrow, -⟩, hB⟩ ⟨Bx, hBx, hblk, rfl⟩ hlt
    have hz := hB.size
    have hzl := hv.lt
    have cB := hv.cell
    have p0 : W.cell? ⟨Bx, 0, none⟩ = some (.string x.1) := by rw [cell_of_block hblk]; rfl
    have p1 : W.cell? ⟨Bx, 1, none⟩ = some (.int .i64 x.2) := by rw [cell_of_block hblk]; rfl
    have h3 : pre.length + 1 ≤ maxLen := by simp only [maxLen]; omega
    have h4 : (pre.length + 1) * 24 ≤ 140737488355328 := by omega
    gi_wp2_with (first
      | (gi_at_builtin; refine wpListIn_append_own _ rfl _ _ 31 rfl w.heap.size 40 i0 _ 2 24 Try.underlying31 hi0 hz0 hz1 hz2' rfl (by decide) _ _ _ rfl (hrow.alloc _) ⟨W.heap.size, 0, none⟩ 1 1 [.string x.1, .int .i64 x.2] rfl rfl (two_new rfl) (by simp [Value.oneCell']) h3 h4 (by simp; omega) ?_; intro v' w1 hown' hgrow _; obtain ⟨g', cap', rfl⟩ := ownsRow_succ hown'; obtain ⟨hv1, hv2, hr2, hk2, hb2⟩ := hv.appended (by decide) hrow hz (by omega) hown' hgrow; have hc1 := hv1.cell; have hf1 := hv1.frozen)
      | gi_in)
    rw [← atH_app] at hr2
    have hln : (pre ++ [x]).length = pre.length + 1 := by simp
    exact ⟨hk2.from _, hk2.walks, ⟨_, hv2, by rw [hln]; exact hr2, trivial⟩, hB.trans hb2⟩
  case done =>
    rintro D' ys W hD hA ⟨⟨v, hv, hrow, -⟩, hB⟩ hK
    have cB := hv.cell
    gi_wp2
    refine ⟨by simp, .inl ⟨_, _, rfl, run_takeDeferred hK, ?_⟩⟩
    exact ⟨_, results_tmp rfl _ _ _, v, ys, rfl, hA, ownsRow_putObj hrow _ hK rfl, hB.trans (belowK_b (w := w) (Nat.le_refl _) W D' _ _ (by omega) hK rfl rfl)⟩
  case stop =>
    rintro D c pre W _ _ h _
    exact h.elim
theorem collectM {Bm b nn : Nat} (D : DataW Unit) (xs : List Hy) (w : World) (hN : nn ≤ 1000000) (hBm : Bm < w.heap.size) (c0 : w.cell? ⟨Bm, 0, none⟩ = some (.map (some b))) (hm : MapIs D xs) (hown : w.ownsMap Try.prog 9 hyElem b nn D) :
    Calls Try.prog 78 #[.func (.func 103) #[] #[.pointer (some ⟨Bm, 0, none⟩)]] w fun e w' => ∃ v hs, e = .returned v ∧ AllH D xs hs ∧ w'.ownsRow w.heap.size 40 2 v hs.length (rws (hyR (atH hs)) hs.length) ∧ Below w.heap.size w w' := by
  have HS := Lib.hid (seqM D xs w hN hBm c0 hm hown)
  clear c0 hm hown
  go_enter Try.func78, Try.ntmps78
  go_wp2_with fail
  refine HS.out.mono ?_
  rintro e w1 ⟨v, hs, rfl, hA, hrow, hbl⟩
  go_wp2
  go_ret
  exact ⟨v, hs, rfl, hA, hrow, hbl⟩
end Go.Proofs.Ytofgdgdmmlgmnaa.hyp
