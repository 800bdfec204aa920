/-
  Proved: the library's sorting leaves a list of labels with costs in order, in the memory where it was.
  Conditions: the list is memory of one's own, and not long.
-/
import Derived.Test.YtofgdgdmmlgmnaaHyC
import Derived.Test.YtofgdgdmmlgmnaaLayF
import Derived.Sort.OwnSorted
namespace Go.Proofs.Ytofgdgdmmlgmnaa.hyp
open Go.ChangeShapes Go.WideShapes Go.ChangeAt Go.RowKit Go.Joins Go.Sort
open Go.Proofs.Ytofgdgdmmlgmnaa.core Go.Proofs.Ytofgdgdmmlgmnaa.rown Go.Proofs.Ytofgdgdmmlgmnaa.stk Go.Proofs.Ytofgdgdmmlgmnaa.boxed Go.Proofs.Ytofgdgdmmlgmnaa.ft Go.Proofs.Ytofgdgdmmlgmnaa.lab Go.Proofs.Ytofgdgdmmlgmnaa.lay
set_option linter.unusedVariables false
set_option linter.unusedSimpArgs false
def encH (p : Hy) : List Value := [.string p.1, .int .i64 p.2]
def atH (l : List Hy) (i : Nat) : Hy := l.getD i default
theorem rws_ext {f g : Nat → Hy} {n : Nat} (h : ∀ i, i < n → f i = g i) : rws (hyR f) n = rws (hyR g) n := by
  induction n with
  | zero => rfl
  | succ n ih => rw [rws, rws, ih fun i hi => h i (by omega)]; unfold hyR; rw [h n (by omega)]
theorem atH_app (l : List Hy) (p : Hy) : rws (hyR (atH (l ++ [p]))) (l.length + 1) = rws (hyR (atH l)) l.length ++ [.string p.1, .int .i64 p.2] := by
  rw [rws]
  congr 1
  · refine rws_ext fun i hi => ?_
    unfold atH
    rw [List.getD_eq_getElem?_getD, List.getD_eq_getElem?_getD, List.getElem?_append_left hi]
  · unfold hyR atH
    rw [List.getD_eq_getElem?_getD, List.getElem?_append_right (Nat.le_refl _), Nat.sub_self]
    rfl
theorem flat_rws (l : List Hy) : (flatK encH 2 l.toArray).toList = rws (hyR (atH l)) l.length := by
  apply List.ext_getElem?
  intro j
  have hl := rws_len (hyR_len (atH l)) l.length
  have hs : (flatK encH 2 l.toArray).size = l.length * 2 := by simp
  rcases Nat.lt_or_ge j (l.length * 2) with h | h
  · have h2 := rws_get (hyR_len (atH l)) (j / 2) (j % 2) (by omega) l.length (by omega)
    rw [show j / 2 * 2 + j % 2 = j by omega] at h2
    rw [h2, Array.getElem?_toList, Array.getElem?_eq_getElem (by omega), ← getElem!_pos (flatK encH 2 l.toArray) j (by omega), get_flatK encH 2 l.toArray j (by simpa using h)]
    have h3 : l.toArray[j / 2]! = atH l (j / 2) := by
      have : j / 2 < l.length := by omega
      simp [atH, this, List.getD_eq_getElem?_getD]
    rw [h3]
    rcases (by omega : j % 2 = 0 ∨ j % 2 = 1) with e | e <;> rw [e] <;> rfl
  · rw [List.getElem?_eq_none (by rw [Array.length_toList]; omega), List.getElem?_eq_none (by omega)]
theorem holds_of_blk {w : World} {g : Nat} {cur : Array Value} {e : TypeId} {F : Array Value} (hb : w.heap[g]? = some (.cells cur e (0, 0))) (ht : cur.toList.take F.size = F.toList) : Holds id w g 0 F := by
  intro j hj
  refine ⟨?_, by simp [World.frozen?, hb]⟩
  have h1 : (cur.toList.take F.size)[j]? = F.toList[j]? := by rw [ht]
  rw [List.getElem?_take_of_lt hj] at h1
  simp only [World.cell?, hb, Nat.zero_add]
  simp only [Option.isSome_none, Bool.false_eq_true, if_false]
  rw [← Array.getElem?_toList, h1]
  simp [hj]
theorem heap_put {w : World} {g n : Nat} {os : Array Obj} {cur : Array Value} {e : TypeId} {fr : Nat × Nat} (d : Array Value) (hb : w.heap[g]? = some (.cells cur e fr)) :
    (grow (putRow id (Sort.ahead w n) g 0 d) os).heap[g]? = some (.cells (putCells id 0 d cur) e fr) := by
  have hg : g < w.heap.size := (Array.getElem?_eq_some_iff.1 hb).1
  rw [heap_grow_old _ _ (by simpa using hg)]
  simp [putRow, mapBlock, Sort.ahead, Array.getElem?_modify, hb, onCells]
theorem grownBy_put {w : World} {g n : Nat} {os : Array Obj} (d : Array Value) : w.grownBy (grow (putRow id (Sort.ahead w n) g 0 d) os) (some g) := by
  refine ⟨rfl, rfl, rfl, by simp, fun k hk hne => ?_⟩
  rw [heap_grow_old _ _ (by simpa using hk)]
  have : g ≠ k := fun e => hne (by rw [e])
  simp [putRow, mapBlock, Sort.ahead, Array.getElem?_modify, this]
theorem take_put (cur F : Array Value) (h : F.size ≤ cur.size) : (putCells id 0 F cur).toList.take F.size = F.toList := by
  apply List.ext_getElem?
  intro j
  by_cases hj : j < F.size
  · rw [List.getElem?_take_of_lt hj, Array.getElem?_toList]
    simp [putCells, hj, show j < cur.size by omega]
  · rw [List.getElem?_take_eq_none (by omega), List.getElem?_eq_none (by simp; omega)]
/-- The list in its order. -/
def srtH (l : List Hy) : List Hy := l.mergeSort fun x y => !bef y x
theorem srt_len (l : List Hy) : (srtH l).length = l.length := by unfold srtH; simp
theorem srt_mem {l : List Hy} {p : Hy} : p ∈ srtH l ↔ p ∈ l := (List.mergeSort_perm l _).mem_iff
theorem srt_sorted {l : List Hy} (h : l.Nodup) : (srtH l).Pairwise fun p q => bef p q = true := by
  have h1 : (srtH l).Pairwise fun p q => (!bef q p) = true := by
    refine List.pairwise_mergeSort (le := fun x y => !bef y x) (fun a b c h1 h2 => ?_) (fun a b => ?_) l
    · simp only [Bool.not_eq_true'] at *
      exact cf_swo_n h1 h2
    · cases h1 : bef b a with
      | false => rfl
      | true => rw [bef_asym h1]; rfl
  have h2 : (srtH l).Nodup := (List.mergeSort_perm l _).nodup_iff.2 h
  exact (h1.and h2).imp (fun {p q} hh => by
    cases h3 : bef p q with
    | true => rfl
    | false =>
      have h4 : bef q p = false := by simpa using hh.1
      exact absurd (bef_tot h3 h4) hh.2)
/-- Sorted, they are the least ones. -/
theorem srt_least {xs hs : List Hy} (hn : hs.Nodup) (hm : ∀ p, p ∈ hs ↔ MinL xs p) : Least xs (srtH hs) := ⟨srt_sorted hn, fun p => srt_mem.trans (hm p)⟩
set_option maxRecDepth 100000 in
set_option maxHeartbeats 2000000 in
theorem sortHI {base g cap : Nat} (l : List Hy) (W : World) (hn : l.length ≤ 1000000) (h : W.ownsRow base 40 2 (.slice (some ⟨g, 0, none⟩) l.length cap) l.length (rws (hyR (atH l)) l.length)) (hB : base ≤ W.heap.size) :
    Calls Try.prog 80 #[.slice (some ⟨g, 0, none⟩) l.length cap, .func (.func 81) #[] #[]] W fun e w' => e = .returned (.tuple #[]) ∧ w'.ownsRow base 40 2 (.slice (some ⟨g, 0, none⟩) l.length cap) l.length (rws (hyR (atH (srtH l))) l.length) ∧ ∀ w0, Below base w0 W → Below base w0 w' := by
  rcases h.2 with ⟨he, -⟩ | ⟨gb, cap', cur, he, hbase, hgb, r1, r2, r3, r4⟩
  · cases he
  injection he with he1 he2 he3
  injection he1 with he1
  injection he1 with he1
  subst he1 he3
  have hs : (flatK encH 2 l.toArray).size = l.length * 2 := by simp
  have hH : HoldsK encH 2 W g 0 l.toArray := holds_of_blk hgb (by rw [hs, flat_rws]; exact r4)
  have hgl : g < W.heap.size := (Array.getElem?_eq_some_iff.1 hgb).1
  have eg : ∀ args w, (callFunc 81 args).run Try.prog w = .ok (.enter 81 args) w := enters_of Try.func81 (by kernel_rfl) rfl
  have cS := AnyQ.slices_SortFunc_total laySf 2 Try.isAgg40 Try.sizeOf40 encH (fun _ => rfl) (fun x v hv => by simp [encH] at hv; rcases hv with rfl | rfl <;> rfl) cfH cf_swo 81 #[] g 0 cap l.toArray W eg (fun _ _ _ _ x y => compareI x y _) hH hgl (by simp; omega) (fun x y h1 h2 => by rw [cf_lt] at h1 h2; exact bef_tot h1 h2)
  have e1 : (l.toArray.toList.mergeSort fun x y => !(Go.Proofs.ltOf cfH) y x) = srtH l := by
    have : (fun x y => !(Go.Proofs.ltOf cfH) y x) = fun x y => !bef y x := by funext x y; rw [cf_lt]
    rw [this]
    rfl
  rw [e1] at cS
  have cS' : Calls Try.prog 80 #[.slice (some ⟨g, 0, none⟩) l.length cap, .func (.func 81) #[] #[]] W _ := cS
  refine cS'.mono ?_
  rintro e w' ⟨rfl, nn, os, rfl⟩
  have hs2 : (flatK encH 2 (srtH l).toArray).size = l.length * 2 := by simp [srt_len]
  refine ⟨rfl, ⟨by rw [rws_len (hyR_len _)], .inr ⟨g, cap, _, rfl, hbase, heap_put (flatK encH 2 (srtH l).toArray) hgb, r1, r2, by simp [putCells, r3], ?_⟩⟩, fun w0 hb => hb.grown (grownBy_put _) hB (fun j hj => by cases hj; exact hbase)⟩
  have h3 := take_put cur (flatK encH 2 (srtH l).toArray) (by rw [hs2, r3]; exact Nat.mul_le_mul_right 2 r1)
  rw [flat_rws, hs2, srt_len] at h3
  exact h3
set_option maxRecDepth 100000 in
theorem sortNil (cap : Nat) (A : Option Addr) (W : World) :
    Calls Try.prog 80 #[.slice A 0 cap, .func (.func 81) #[] #[]] W fun e w' => e = .returned (.tuple #[]) ∧ W = w' := by
  have h := AnyF.slices_SortFunc_none laySf A cap (.func (.func 81) #[] #[]) W
  have h' : Calls Try.prog 80 #[.slice A 0 cap, .func (.func 81) #[] #[]] W _ := h
  exact h'.mono fun e w' ⟨a, b⟩ => ⟨a, b.symm⟩
end Go.Proofs.Ytofgdgdmmlgmnaa.hyp
