/-
  Proved: what the library returns that gathers and sorts what an iterator over a list of numbers hands out.
  Conditions: the list is not long.
-/
import Derived.Test.YtimkochgnjggdaaSco
import Derived.RangeFuncNested
import Derived.RangeFuncBound
import Derived.RangeFuncCalls
import Derived.RangeFuncLeaves
import Derived.Shelf.Abstract
import Derived.Shelf.RegionOpen
import Derived.WalkKit
import Derived.OwnWalkIn
import Derived.TacticsInMore
import Derived.LoopNIn
import Derived.LoopIn
import Derived.Maps.AppendAt
namespace Go.Proofs.Ytimkochgnjggdaa.vls
open Go.ChangeShapes Go.WideShapes Go.ChangeAt Go.RowKit Go.Joins Go.Shelf
open Go.Proofs.Ytimkochgnjggdaa.core Go.Proofs.Ytimkochgnjggdaa.rown Go.Proofs.Ytimkochgnjggdaa.stk Go.Proofs.Ytimkochgnjggdaa.boxed Go.Proofs.Ytimkochgnjggdaa.ft Go.Proofs.Ytimkochgnjggdaa.one1 Go.Proofs.Ytimkochgnjggdaa.sco
set_option linter.unusedVariables false
set_option linter.unusedSimpArgs false
attribute [local go_sem] Oper.semAt_some
/-- What is handed out in round k: the number. -/
def encV (F : Nat → Int) (k : Nat) : Array Value := #[.int .i64 (F k)]
set_option maxRecDepth 100000 in
set_option maxHeartbeats 2000000 in
theorem vals1_in (Fe : Fence) (n : Nat) (h7 : Fe.fn 129) (hro : Fe.round = none) (hn : 1 ≤ n) (l Bs n0 b off N cap : Nat) (F : Nat → Int) (hN : N ≤ 1048576) (hb : b < n0) (J Jx : List Nat → World → Prop)
    (hY : ∀ pre x W, J pre W → pre.length < N → YieldAt Fe (n - 1) Try.prog l (encV F x) W fun e W' =>
      (e = .returned (.bool true) ∧ J (pre ++ [x]) W' ∧ Below n0 W W') ∨ (e = .returned (.bool false) ∧ Jx (pre ++ [x]) W'))
    (W : World) (hBs : W.cell? ⟨Bs, 0, none⟩ = some (.slice (some ⟨b, off, none⟩) N cap)) (hc : ∀ j, j < N → W.cell? ⟨b, off + j, none⟩ = some (.int .i64 (F j))) (h0 : J [] W) :
    CallsIn Fe n Try.prog 129 #[.func (.yield l) #[] #[], .pointer (some ⟨Bs, 0, none⟩)] W fun e W' => (∃ v, e = .returned v) ∧
      ((∃ ys, ys = List.range N ∧ J ys W') ∨ (∃ pre, (∃ k, k ≤ N ∧ pre = List.range k) ∧ Jx pre W')) := by
  refine callsIn_of_wp Try.func129 rfl h7 ?_ hro
  simp only [Try.ntmps129, List.size_toArray, List.length_cons, List.length_nil, Nat.reduceAdd, Nat.reduceSub, Array.replicate_succ, Array.replicate_zero, List.push_toArray, List.append_toArray, List.nil_append, List.cons_append]
  gi_wp2
  gi_loopw [7] (fun i wr => ∃ k : Nat, k ≤ N ∧ i = .int .i64 (k : Int) ∧ J (List.range k) wr ∧ Below n0 W wr)
    (fun i _ => N - (intOf i).toNat)
  case atStart => exact ⟨0, Nat.zero_le _, rfl, h0, Below.refl _ _⟩
  case round =>
    obtain ⟨k, hk, rfl, hJs, hK⟩ := hrel
    by_cases hlt : k < N
    · obtain ⟨fn, tmps, assign, body, hy, hR⟩ := hY _ k wr hJs (by rw [List.length_range]; exact hlt)
      unfold encV at hy
      have p0 := (hK.cell (p := ⟨b, off + k, none⟩) hb).trans (hc k hlt)
      gi_wp2
      refine hR.mono ?_
      rintro e W3 (⟨rfl, hJ3, hk3⟩ | ⟨rfl, hJx3⟩)
      · gi_wp2
        go_roundw
        case rel => exact ⟨k + 1, by omega, by go_num, by rw [List.range_succ]; exact hJ3, hK.trans hk3⟩
        case measure => simp [intOf]; omega
      · gi_wp2
        refine bodyPost_ret (results_none rfl _ _ _) rfl ?_
        exact ⟨⟨_, rfl⟩, .inr ⟨_, ⟨k + 1, by omega, List.range_succ.symm⟩, hJx3⟩⟩
    · obtain rfl : k = N := by omega
      gi_wp2
      go_end0
      exact ⟨⟨_, rfl⟩, .inl ⟨_, rfl, hJs⟩⟩
theorem vals_stops (Fe : Fence) (n : Nat) (h7 : Fe.fn 129) (hro : Fe.round = none) (hn : 1 ≤ n) (Bs n0 b off N cap : Nat) (F : Nat → Int) (hN : N ≤ 1048576) (w : World) (hB : Bs < w.heap.size) (hn0 : n0 ≤ w.heap.size) (hb : b < n0)
    (hBs : w.cell? ⟨Bs, 0, none⟩ = some (.slice (some ⟨b, off, none⟩) N cap)) (hc : ∀ j, j < N → w.cell? ⟨b, off + j, none⟩ = some (.int .i64 (F j))) :
    SeqStopsK Fe n Try.prog 129 #[.pointer (some ⟨Bs, 0, none⟩)] (encV F) (Below n0) (fun ys => ys = List.range N) (fun pre => ∃ k, k ≤ N ∧ pre = List.range k) N w := fun l J Jx W hW _ _ hY h0 =>
  vals1_in Fe n h7 hro hn l Bs n0 b off N cap F hN hb J Jx hY W ((hW.cell (p := ⟨Bs, 0, none⟩) hB).trans hBs) (fun j hj => (hW.cell (p := ⟨b, off + j, none⟩) (by simp only; omega)).trans (hc j hj)) h0
set_option maxHeartbeats 1000000 in
/-- The list is boxed, and the function value holds the box. -/
theorem valuesI (a : Option Addr) (len cap : Nat) (w : World) :
    Calls Try.prog 112 #[.slice a len cap] w fun e w' => e = .returned (.func (.func 129) #[] #[.pointer (some ⟨w.heap.size, 0, none⟩)]) ∧ w' = w.alloc (.cells #[.slice a len cap] 24) := by
  go_enter Try.func112, Try.ntmps112
  go_wp2
  go_ret
  exact ⟨rfl, rfl⟩
set_option maxRecDepth 100000 in
set_option maxHeartbeats 4000000 in
theorem seqI {Bs b o c n : Nat} (F : Nat → Int) (w : World) (hn : n ≤ 1048576) (hBs : Bs < w.heap.size) (hb : b < w.heap.size) (c0 : w.cell? ⟨Bs, 0, none⟩ = some (.slice (some ⟨b, o, none⟩) n c)) (hc : ∀ j, j < n → w.cell? ⟨b, o + j, none⟩ = some (.int .i64 (F j))) :
    Calls Try.prog 134 #[.slice none 0 0, .func (.func 129) #[] #[.pointer (some ⟨Bs, 0, none⟩)]] w fun e w' => ∃ v, e = .returned v ∧ w'.ownsRow w.heap.size 2 1 v n (rws (one F) n) ∧ Below w.heap.size w w' := by
  refine (callsIn_wide (n := 6)).1 ?_
  refine callsIn_of_wp_marks Try.func134 rfl trivial ?_ rfl
  simp only [Try.ntmps134, List.size_toArray, List.length_cons, List.length_nil, Nat.reduceAdd, Nat.reduceSub, Array.replicate_succ, Array.replicate_zero, List.push_toArray, List.append_toArray, List.nil_append, List.cons_append]
  gi_wp2
  have hbk0 := Boxed.new w 24 (.slice none 0 0)
  have hB0 : Below w.heap.size w (w.alloc (.cells #[.slice none 0 0] 24)) := (Below.refl _ w).alloc (Nat.le_refl _) _
  have hsz : (w.alloc (.cells #[.slice none 0 0] 24)).heap.size = w.heap.size + 1 := by simp
  obtain ⟨W0, hW0⟩ : ∃ W0, w.alloc (.cells #[.slice none 0 0] 24) = W0 := ⟨_, rfl⟩
  rw [hW0] at hbk0 hB0 hsz ⊢
  clear hW0
  obtain ⟨i0, hi0, hz0, hz1, hz2'⟩ := rown.info_get infoI
  refine wpIn_rangeFunc_ownH rfl (by omega) (gf := 129) (lb := #[.pointer (some ⟨Bs, 0, none⟩)]) rfl trivial (enters_of Try.func129 (by kernel_rfl) rfl)
    (vals_stops Fence.wide _ trivial rfl (by omega) Bs w.heap.size b o n c F hn W0 (by omega) (by omega) hb ((hB0.cell (p := ⟨Bs, 0, none⟩) hBs).trans c0) (fun j hj => (hB0.cell (p := ⟨b, o + j, none⟩) hb).trans (hc j hj))) belowK_t (belowK_b (by omega)) (Below.refl _ _) (fun _ => rfl)
    (fun pre W => (∃ v, Boxed W w.heap.size 24 v ∧ W.ownsRow w.heap.size 2 1 v pre.length (rws (one fun j => F (pre[j]?.getD 0)) pre.length) ∧ True) ∧ Below w.heap.size w W)
    (fun _ _ _ => False)
    (OwnFrom.and (Own.from (holdsRow_own _ _ _ _ _ (fun pre : List Nat => pre.length) (fun pre => rws (one fun j => F (pre[j]?.getD 0)) pre.length) (fun pre v => True)) _) (ownFrom_below (Nat.le_refl _) (by omega)))
    (fun _ _ _ _ _ hs _ _ => hs)
    ⟨⟨_, hbk0, World.ownsRow_nil _ _ _ _, trivial⟩, hB0⟩
    (fun x a' W => a' = { tmps := #[.slice none 0 0, .func (.func 129) #[] #[.pointer (some ⟨Bs, 0, none⟩)], .pointer (some ⟨w.heap.size, 0, none⟩), .tuple #[], .slice none 0 0, .int .i64 (F x), .func (.func 129) #[] #[.pointer (some ⟨Bs, 0, none⟩)], .int .i64 (F x), .tuple #[], .tuple #[], .tuple #[], .tuple #[], .tuple #[]], defers := [] })
    (fun _ _ _ _ _ _ hs _ _ => hs)
    ?assign ?body ?done ?stop
  case assign =>
    rintro l pre x W Kk hI hK
    unfold encV
    gi_wp2
    exact hK _ _ (KeepsFrom.refl _ _) (Below.refl _ _) hI rfl
  case body =>
    rintro l pre x a' W hl ⟨r, hr⟩ ⟨⟨v, hv, hrow, -⟩, hB⟩ rfl hlt
    have hz := hB.size
    have hzl := hv.lt
    have cB := hv.cell
    have h3 : pre.length + 1 ≤ maxLen := by simp only [maxLen]; omega
    have h4 : (pre.length + 1) * 8 ≤ 140737488355328 := by omega
    gi_wp2_with (first
      | (gi_at_builtin; refine wpListIn_append_own _ rfl _ _ 24 rfl w.heap.size 2 i0 _ 1 8 Try.underlying24 hi0 hz0 hz1 hz2' rfl (by decide) _ _ _ rfl (hrow.alloc _) ⟨W.heap.size, 0, none⟩ 1 1 [.int .i64 (F x)] rfl rfl (one_newC rfl) (by simp [Value.oneCell']) h3 h4 (by simp; omega) ?_; intro v' w1 hown' hgrow _; obtain ⟨g', cap', rfl⟩ := ownsRow_succ hown'; obtain ⟨hv1, hv2, hr2, hk2, hb2⟩ := hv.appended (by decide) hrow hz (by omega) hown' hgrow; have hc1 := hv1.cell; have hf1 := hv1.frozen)
      | gi_in)
    have hE : rws (one fun j => F ((pre ++ [x])[j]?.getD 0)) (pre.length + 1) = rws (one fun j => F (pre[j]?.getD 0)) pre.length ++ [.int .i64 (F x)] := by
      rw [rws_succ]
      congr 1
      · refine rws_congr _ fun i hi' => ?_
        unfold one
        dsimp only
        rw [List.getElem?_append_left hi']
      · unfold one
        dsimp only
        rw [List.getElem?_append_right (Nat.le_refl _), Nat.sub_self]
        rfl
    rw [← hE] at hr2
    have hln : (pre ++ [x]).length = pre.length + 1 := by simp
    exact ⟨hk2.from _, hb2, ⟨_, hv2, by rw [hln]; exact hr2, trivial⟩, hB.trans hb2⟩
  case done =>
    rintro D ys W hD rfl ⟨⟨v, hv, hrow, -⟩, hB⟩ hK
    have cB := hv.cell
    rw [List.length_range] at hrow
    rw [one_ext _ F n (fun j hj => by rw [List.getElem?_range hj]; rfl)] at hrow
    gi_wp2
    refine ⟨by simp, .inl ⟨_, _, rfl, run_takeDeferred hK, ?_⟩⟩
    exact ⟨_, results_tmp rfl _ _ _, v, rfl, ownsRow_putObj hrow _ hK rfl, hB.trans (belowK_b (w := w) (Nat.le_refl _) W D _ _ (by omega) hK rfl rfl)⟩
  case stop =>
    rintro D c pre W _ _ h _
    exact h.elim
end Go.Proofs.Ytimkochgnjggdaa.vls
