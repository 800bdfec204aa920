/-
  Proved: what the library returns that gathers the values of a map from labels to hypotheses: the least ones, each once.
  Conditions: the map holds the least hypothesis of each label, and not many.
-/
import Derived.Test.YtofgdgdmmlgmnaaHySo
import Derived.Maps.OwnIn
import Derived.Sort.MapsRangeIn
import Derived.RangeFuncNested
import Derived.RangeFuncBound
import Derived.RangeFuncCalls
import Derived.RangeFuncLeaves
import Derived.Shelf.Abstract
import Derived.Shelf.RegionOpen
import Derived.WalkKit
import Derived.OwnWalkIn
import Derived.TacticsInMore
import Derived.LoopNIn
import Derived.LoopIn
import Derived.Maps.AppendAt
namespace Go.Proofs.Ytofgdgdmmlgmnaa.hyp
open Go.ChangeShapes Go.WideShapes Go.ChangeAt Go.RowKit Go.Joins Go.Shelf
open Go.Proofs.Ytofgdgdmmlgmnaa.core Go.Proofs.Ytofgdgdmmlgmnaa.rown Go.Proofs.Ytofgdgdmmlgmnaa.stk Go.Proofs.Ytofgdgdmmlgmnaa.boxed Go.Proofs.Ytofgdgdmmlgmnaa.ft Go.Proofs.Ytofgdgdmmlgmnaa.lab
set_option linter.unusedVariables false
set_option linter.unusedSimpArgs false
attribute [local go_sem] Oper.semAt_some
theorem lawS : Go.Maps.Keyed Try.prog 9 := Go.Maps.string_keyed Try.underlying9
theorem infoH : (Try.prog.info? 40).map (fun i => (i.zero, i.size, i.bytes)) = some (some (.agg #[.string ⟨#[]⟩, .int .i64 0]), 2, 24) := by kernel_rfl
theorem size_le {w : World} {P : Program} {k b n : Nat} {D : DataW Unit} (h : w.ownsMap P k hyElem b n D) : Go.Maps.size D ≤ n := by
  obtain ⟨es, clock, -, -, hs, rfl⟩ := h
  show (List.foldr DataW.insert [] _).length ≤ n
  rw [length_sorted]
  simpa using hs
theorem map_below {w w' : World} {P : Program} {k b n : Nat} {R : Value → Option (DataW Unit × List MemPlace)} {D : DataW Unit} (h : w.ownsMap P k R b n D) (hb : Below w.heap.size w w') : w'.ownsMap P k R b n D := by
  have hlt := h.lt
  obtain ⟨es, clock, hm, F, hs, hD⟩ := h
  exact ⟨es, clock, (hb.block b hlt).trans hm, F, hs, hD⟩
/-- All that is asked of what has come. -/
def AllH (D : DataW Unit) (xs hs : List Hy) : Prop := hs.length ≤ Go.Maps.size D ∧ hs.Nodup ∧ ∀ p, p ∈ hs ↔ MinL xs p
set_option maxRecDepth 100000 in
set_option maxHeartbeats 2000000 in
theorem valsM_in (Fe : Fence) (n : Nat) (h7 : Fe.fn 103) (hro : Fe.round = none) (hn : 1 ≤ n) (l Bm b nn : Nat) (D : DataW Unit) (xs : List Hy) (hm : MapIs D xs) (J Jx : List Hy → World → Prop)
    (hY : ∀ pre x W, J pre W → pre.length < Go.Maps.size D → YieldAt Fe (n - 1) Try.prog l #[mkV x] W fun e W' =>
      (e = .returned (.bool true) ∧ J (pre ++ [x]) W' ∧ KeepsWalks W W') ∨ (e = .returned (.bool false) ∧ Jx (pre ++ [x]) W'))
    (W : World) (hJ : AbidesFrom W.heap.size J) (hc : W.cell? ⟨Bm, 0, none⟩ = some (.map (some b))) (hown : W.ownsMap Try.prog 9 hyElem b nn D) (h0 : J [] W) :
    CallsIn Fe n Try.prog 103 #[.func (.yield l) #[] #[], .pointer (some ⟨Bm, 0, none⟩)] W fun e W' => (∃ v, e = .returned v) ∧
      ((∃ hs, AllH D xs hs ∧ J hs W') ∨ (∃ pre, True ∧ Jx pre W')) := by
  have HM := Lib.hid hm
  clear hm
  refine callsIn_of_wp Try.func103 rfl h7 ?_ hro
  simp only [Try.ntmps103, List.size_toArray, List.length_cons, List.length_nil, Nat.reduceAdd, Nat.reduceSub, Array.replicate_succ, Array.replicate_zero, List.push_toArray, List.append_toArray, List.nil_append, List.cons_append]
  gi_wp2_with (first
    | (gi_at_range; refine wpListIn_range_own _ rfl _ 108 rfl 9 40 lawS Try.underlying108 _ b nn _ rfl hown ?_; intro w0 hrg0 hg0 hs0)
    | gi_in)
  go_frame
  gi_loopw [4] (fun _ wr => ∃ (left : Lit → Bool) (cnt : Nat) (hs : List Hy), wr.ranges Try.prog 9 hyElem b W.heap.size nn D left cnt ∧ hs.length + cnt ≤ Go.Maps.size D ∧ Hid (Came D left hs) ∧ J hs wr)
    (fun _ wr => wr.rangeLeft b W.heap.size)
  case atStart =>
    exact ⟨_, _, [], hrg0, by simp, Lib.hid (Came.start D), hJ [] W w0 none h0 hg0 (fun r e => by cases e)⟩
  case round =>
    obtain ⟨left, cnt, ps, hrg, hcs, hC, hJs⟩ := hrel
    gi_wp2_with (first
      | (gi_at_next; refine wpListIn_next_ranges _ rfl _ rfl 9 lawS hyElem encStr mkV (fun key kl hk => by obtain ⟨x, hx, _⟩ := Go.Maps.keyOf_str Try.underlying9 hk; exact ⟨x, hx⟩) (fun v y hv => by obtain ⟨c, rfl, _⟩ := hyElem_inv hv; exact ⟨c, rfl⟩) b W.heap.size nn _ _ _ rfl hrg ?_ ?_)
      | gi_in)
    · intro hc0 hl0
      gi_wp2
      go_end0
      exact ⟨⟨_, rfl⟩, .inl ⟨ps, ⟨by omega, hC.out.all hl0 HM.out⟩, hJs⟩⟩
    · intro x cs cc kl yd yp w2 cnt2 hkey hlk hv hat hrg2 hlt hg2 hs2 hen
      obtain ⟨x', ex, rfl, _⟩ := Go.Maps.keyOf_str Try.underlying9 hkey
      obtain rfl : x = x' := encStr_inj ex
      rw [hyElem_mk] at hv
      obtain rfl : encD (cs, cc) = yd := (Prod.mk.inj (Option.some.inj hv)).1
      have hC2 := Lib.hid (hC.out.step HM.out hlk hat).1
      have hJ2 : J ps w2 := hJ _ wr w2 (some W.heap.size) hJs hg2 (fun r e => by cases e; exact ⟨Nat.le_refl _, hrg.iter_walk⟩)
      have hzw := hg2.size
      have hJ3 : J ps (w2.alloc (.cells #[.string cs, .int .i64 cc] 40)) := hJ _ w2 _ none hJ2 (World.grownBy_alloc _ _ none) (fun r e => by cases e)
      obtain ⟨fn, tmps, assign, body, hy, hR⟩ := hY ps (cs, cc) _ hJ3 (by omega)
      unfold mkV at hy hen
      dsimp only at hy hen
      clear hs2 hv hat
      gi_wp2
      refine hR.mono ?_
      rintro e W3 (⟨rfl, hJ4, hk3⟩ | ⟨rfl, hJx3⟩)
      · have hrg3 := (hrg2.alloc (.cells #[.string cs, .int .i64 cc] 40)).of_walks hk3
        gi_wp2
        go_roundw
        case rel => exact ⟨_, cnt2, ps ++ [(cs, cc)], hrg3, by simp; omega, hC2, hJ4⟩
        case measure => rw [hrg3.left_eq, hrg.left_eq]; exact hlt
      · gi_wp2
        refine bodyPost_ret (results_none rfl _ _ _) rfl ?_
        exact ⟨⟨_, rfl⟩, .inr ⟨_, trivial, hJx3⟩⟩
theorem valsM_stops (Fe : Fence) (n : Nat) (h7 : Fe.fn 103) (hro : Fe.round = none) (hn : 1 ≤ n) (Bm b nn : Nat) (D : DataW Unit) (xs : List Hy) (hm : MapIs D xs) (w : World) (hBm : Bm < w.heap.size)
    (hc : w.cell? ⟨Bm, 0, none⟩ = some (.map (some b))) (hown : w.ownsMap Try.prog 9 hyElem b nn D) :
    SeqStopsK Fe n Try.prog 103 #[.pointer (some ⟨Bm, 0, none⟩)] (fun p : Hy => #[mkV p]) KeepsWalks (AllH D xs) (fun _ => True) (Go.Maps.size D) w := fun l J Jx W hW hJ _ hY h0 =>
  valsM_in Fe n h7 hro hn l Bm b nn D xs hm J Jx hY W hJ ((hW.cell (p := ⟨Bm, 0, none⟩) hBm).trans hc) (map_below hown hW) h0
set_option maxHeartbeats 1000000 in
theorem valuesM (mb : Option Nat) (w : World) :
    Calls Try.prog 79 #[.map mb] w fun e w' => e = .returned (.func (.func 103) #[] #[.pointer (some ⟨w.heap.size, 0, none⟩)]) ∧ w' = w.alloc (.cells #[.map mb] 108) := by
  go_enter Try.func79, Try.ntmps79
  go_wp2
  go_ret
  exact ⟨rfl, rfl⟩
end Go.Proofs.Ytofgdgdmmlgmnaa.hyp
