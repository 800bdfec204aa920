/-
  Proved: how far the greatest score is before the next one, by the program.
  Conditions: the list is not empty and not long, and its numbers are not great.
-/
import Derived.Test.YtimkochgnjggdaaVal
import Derived.Test.YtimkochgnjggdaaLay
import Derived.Test.YtimkochgnjggdaaLedP
namespace Go.Proofs.Ytimkochgnjggdaa.led
open Go.ChangeShapes Go.WideShapes Go.ChangeAt Go.RowKit Go.Joins
open Go.Sort
open Go.Proofs.Ytimkochgnjggdaa.core Go.Proofs.Ytimkochgnjggdaa.rown Go.Proofs.Ytimkochgnjggdaa.stk Go.Proofs.Ytimkochgnjggdaa.boxed Go.Proofs.Ytimkochgnjggdaa.ft Go.Proofs.Ytimkochgnjggdaa.one1 Go.Proofs.Ytimkochgnjggdaa.bst Go.Proofs.Ytimkochgnjggdaa.vls Go.Proofs.Ytimkochgnjggdaa.lay
set_option linter.unusedVariables false
set_option linter.unusedSimpArgs false
theorem rws_map (l : List Int) : l.map encZ = rws (one1.one fun i => l.getD i 0) l.length := by
  have hl := rws_len (one_len fun i => l.getD i 0) l.length
  apply List.ext_getElem?
  intro j
  rcases Nat.lt_or_ge j l.length with h | h
  · have h2 := rws_get (one_len fun i => l.getD i 0) j 0 (by omega) l.length h
    rw [Nat.mul_one, Nat.add_zero] at h2
    rw [h2]
    unfold one1.one
    simp [h, encZ]
  · rw [List.getElem?_eq_none (by simpa using h), List.getElem?_eq_none (by omega)]
theorem rws_range (F : Nat → Int) (n : Nat) : rws (one1.one F) n = ((List.range n).map F).map encZ := by
  rw [rws_map]
  simp only [List.length_map, List.length_range]
  exact one_ext _ _ n fun j hj => by simp [List.getD_eq_getElem?_getD, hj]
theorem collectI {Bs b o c n : Nat} (F : Nat → Int) (w : World) (hn : n ≤ 1048576) (hBs : Bs < w.heap.size) (hb : b < w.heap.size) (c0 : w.cell? ⟨Bs, 0, none⟩ = some (.slice (some ⟨b, o, none⟩) n c)) (hc : ∀ j, j < n → w.cell? ⟨b, o + j, none⟩ = some (.int .i64 (F j))) :
    Calls Try.prog 127 #[.func (.func 129) #[] #[.pointer (some ⟨Bs, 0, none⟩)]] w fun e w' => ∃ v, e = .returned v ∧ w'.ownsRow w.heap.size 2 1 v n (rws (one1.one F) n) ∧ Below w.heap.size w w' := by
  have HS := Lib.hid (seqI F w hn hBs hb c0 hc)
  clear c0 hc
  go_enter Try.func127, Try.ntmps127
  go_wp2_with fail
  refine HS.out.mono ?_
  rintro e w1 ⟨v, rfl, hrow, hbl⟩
  go_wp2
  go_ret
  exact ⟨v, rfl, hrow, hbl⟩
set_option maxRecDepth 100000 in
set_option maxHeartbeats 2000000 in
theorem sortI {base g cap M : Nat} {W : World} (F : Nat → Int) (hM : M ≤ 1000000) (h : W.ownsRow base 2 1 (.slice (some ⟨g, 0, none⟩) (M + 1) cap) (M + 1) (rws (one1.one F) (M + 1))) (hB : base ≤ W.heap.size) :
    Calls Try.prog 128 #[.slice (some ⟨g, 0, none⟩) (M + 1) cap] W fun e w' => e = .returned (.tuple #[]) ∧ NumAt w' (some ⟨g, 0, none⟩) (M + 1) (srtAt F (M + 1)) ∧ ∀ w0, Below base w0 W → Below base w0 w' := by
  have hl : ((List.range (M + 1)).map F).length = M + 1 := by simp
  rcases h.2 with ⟨he, -⟩ | ⟨gb, cap', cur, he, hbase, hgb, r1, r2, r3, r4⟩
  · cases he
  injection he with he1 he2 he3
  injection he1 with he1
  injection he1 with he1
  subst he1 he3
  rw [rws_range, ← hl] at r4
  have hH : Holds encZ W g 0 ((List.range (M + 1)).map F).toArray := holds_of_block_i hgb (by simpa using r4)
  have hgl : g < W.heap.size := (Array.getElem?_eq_some_iff.1 hgb).1
  have cS := AnyM.slices_Sort_int laySo g 0 cap ((List.range (M + 1)).map F) W hH hgl (by rw [hl]; omega)
  rw [hl] at cS
  have cS' : Calls Try.prog 128 #[.slice (some ⟨g, 0, none⟩) (M + 1) cap] W _ := cS
  refine cS'.mono ?_
  rintro e w' ⟨rfl, nn, os, rfl⟩
  have hs := ownsRow_sorted_i (n := nn) (os := os) (ss := (List.range (M + 1)).map F) (ts := srt F (M + 1)) (by rw [srt_len, hl]) hbase hgb (by rw [hl]; exact r1) r2 r3
  rw [rws_map, srt_len, hl] at hs
  exact ⟨rfl, num_row hs, fun w0 hb => hb.grown (grownBy_sorted_i _) hB (fun j hj => by cases hj; exact hbase)⟩
set_option maxRecDepth 100000 in
set_option maxHeartbeats 2000000 in
theorem sortedI {Bs b o c M : Nat} (F : Nat → Int) (w : World) (hM : M ≤ 1000000) (hBs : Bs < w.heap.size) (hb : b < w.heap.size) (c0 : w.cell? ⟨Bs, 0, none⟩ = some (.slice (some ⟨b, o, none⟩) (M + 1) c)) (hc : ∀ j, j < M + 1 → w.cell? ⟨b, o + j, none⟩ = some (.int .i64 (F j))) :
    Calls Try.prog 111 #[.func (.func 129) #[] #[.pointer (some ⟨Bs, 0, none⟩)]] w fun e w' => ∃ g c', e = .returned (.slice (some ⟨g, 0, none⟩) (M + 1) c') ∧ NumAt w' (some ⟨g, 0, none⟩) (M + 1) (srtAt F (M + 1)) ∧ Below w.heap.size w w' := by
  have HS := Lib.hid (collectI F w (by omega) hBs hb c0 hc)
  clear c0 hc
  go_enter Try.func111, Try.ntmps111
  go_wp2_with fail
  refine HS.out.mono ?_
  rintro e w1 ⟨v, rfl, hrow, hbl⟩
  obtain ⟨g, cap, rfl⟩ := ownsRow_succ hrow
  have HT := Lib.hid (sortI F hM hrow hbl.size)
  have HB := Lib.hid hbl
  clear hrow hbl
  go_wp2_with fail
  refine HT.out.mono ?_
  rintro e w2 ⟨rfl, hnum, hbl⟩
  have HN := Lib.hid hnum
  have HB2 := Lib.hid (hbl _ HB.out)
  clear hnum hbl
  go_wp2
  go_ret
  exact ⟨g, cap, rfl, HN.out, HB2.out⟩
theorem mixedL : Try.prog.follows .mixedOrders = true := by kernel_rfl
set_option maxRecDepth 100000 in
set_option maxHeartbeats 2000000 in
theorem leadI {c : Nat} (A : Option Addr) (M : Nat) (F : Nat → Int) (w : World) (hM : M ≤ 1000) (hp : NumAt w A (M + 1) F) (hF : ∀ i, i < M + 1 → -100000000000 ≤ F i ∧ F i ≤ 100000000000) :
    Calls Try.prog 85 #[.slice A (M + 1) c] w fun e w' => e = .returned (.int .i64 (max (mg F (bst F M) (M + 1)) 0)) ∧ Below w.heap.size w w' := by
  obtain ⟨b, o, rfl, hb, -⟩ := hp 0 (by omega)
  have HC := Lib.hid (show ∀ j, j < M + 1 → w.cell? ⟨b, o + j, none⟩ = some (.int .i64 (F j)) from fun j hj => by
    obtain ⟨b', o', e, h1, h2⟩ := hp j hj
    injection e with e
    injection e with e1 e2
    subst e1 e2
    exact h2)
  have HV := Lib.hid (valuesI (some ⟨b, o, none⟩) (M + 1) c w)
  have hB0 : Below w.heap.size w (w.alloc (.cells #[.slice (some ⟨b, o, none⟩) (M + 1) c] 24)) := below_alloc1 _ _
  have HS := Lib.hid (sortedI (Bs := w.heap.size) (b := b) (o := o) (c := c) F (w.alloc (.cells #[.slice (some ⟨b, o, none⟩) (M + 1) c] 24)) (by omega) (by simp) (by simp; omega) (Boxed.new w 24 (.slice (some ⟨b, o, none⟩) (M + 1) c)).cell (fun j hj => (hB0.cell (p := ⟨b, o + j, none⟩) hb).trans (HC.out j hj)))
  have HB0 := Lib.hid hB0
  rw [← lead_eq F M]
  have h1 := srt_in F (M + 1) hF M (by omega)
  have h2 := srt_in F (M + 1) hF (M - 1) (by omega)
  obtain ⟨G, hG⟩ : ∃ G, srtAt F (M + 1) = G := ⟨_, rfl⟩
  rw [hG] at HS h1 h2 ⊢
  obtain ⟨x, hx⟩ : ∃ x, G M = x := ⟨_, rfl⟩
  obtain ⟨y, hy⟩ : ∃ y, G (M - 1) = y := ⟨_, rfl⟩
  rw [hx] at h1 ⊢
  rw [hy] at h2 ⊢
  have hw1 : IntKind.i64.wrap (x - y) = x - y := IntWalk.i64_in _ (by omega)
  have hw2 : IntKind.i64.wrap ((M : Int) + 1 - 1) = (M : Int) := by rw [show (M : Int) + 1 - 1 = (M : Int) by omega]; exact IntWalk.i64_in _ (by omega)
  have hw3 : IntKind.i64.wrap ((M : Int) - 1) = (M : Int) - 1 := IntWalk.i64_in _ (by omega)
  have hmx : max ((M : Int) - 1) 0 = ((M - 1 : Nat) : Int) := by omega
  have HX := Lib.hid hx
  have HY := Lib.hid hy
  have hmix := mixedL
  clear hp hF hB0 hG hx hy h1 h2
  go_enter Try.func85, Try.ntmps85
  go_wp2_with fail
  refine HV.out.mono ?_
  rintro e _ ⟨rfl, rfl⟩
  go_wp2_with fail
  refine HS.out.mono ?_
  rintro e w2 ⟨g, c', rfl, hnum, hbl⟩
  obtain ⟨b1, o1, e1, hb1, x1⟩ := hnum M (by omega)
  obtain ⟨b2, o2, e2, hb2, x2⟩ := hnum (M - 1) (by omega)
  injection e1 with e1
  injection e1 with e1 e1'
  subst e1 e1'
  injection e2 with e2
  injection e2 with e2 e2'
  subst e2 e2'
  rw [HX.out] at x1
  rw [HY.out] at x2
  rw [Nat.zero_add] at x1 x2
  have HB2 := Lib.hid (HB0.out.trans (hbl.mono (Nat.le_of_lt (by simp))))
  clear hnum hbl
  have hmax : ∀ (W : World), (Builtin.max_ #[3, 3] 3 #[.int .i64 ((M : Int) - 1), .int .i64 0]).run Try.prog W = .ok (.int .i64 ((M - 1 : Nat) : Int)) W := fun W => by rw [run_max2, hmx]
  have hi1 : (M : Int) < (M : Int) + 1 := by omega
  have hi2 : ((M - 1 : Nat) : Int) < (M : Int) + 1 := by omega
  have hi3 : M < M + 1 := by omega
  have hi4 : M - 1 < M + 1 := by omega
  go_upto_region 3 with fail
  go_region
  all_goals
    go_wp2
    go_ret
    exact ⟨rfl, by first | exact HB2.out | exact HB2.out.drew⟩
end Go.Proofs.Ytimkochgnjggdaa.led
