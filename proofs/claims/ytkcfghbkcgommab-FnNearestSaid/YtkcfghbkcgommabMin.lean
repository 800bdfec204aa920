/-
  Proved: what the program's function that hands out the lists that take part returns, and that its iterator hands out all of them, one after the other; the program's iterator over the lists that take part hands out all of them with what is matched (for every loop body that leaves the lists as they lie); what the program's function that measures all lists that take part returns, for the least cost and for the bound; what the library's search for the least of measured lists returns with the program's comparison.
  Conditions: those of each theorem.
-/
import Derived.Test.YtkcfghbkcgommabLowI
import Derived.Test.YtkcfghbkcgommabNearS
import Derived.Test.YtkcfghbkcgommabRound
import Derived.RangeFuncNested
import Derived.RangeFuncBound
import Derived.RangeFuncCalls
import Derived.RangeFuncLeaves
import Derived.Shelf.Abstract
import Derived.Shelf.RegionOpen
import Derived.WalkKit
import Derived.OwnWalkIn
import Derived.TacticsInMore
import Derived.LoopNIn
import Derived.LoopIn
import Derived.Maps.AppendAt
namespace Go.Proofs.Ytkcfghbkcgommab.env
open Go.ChangeShapes Go.WideShapes Go.ChangeAt Go.RowKit Go.Joins Go.Shelf
open Go.Proofs.Ytkcfghbkcgommab.core Go.Proofs.Ytkcfghbkcgommab.rown Go.Proofs.Ytkcfghbkcgommab.stk Go.Proofs.Ytkcfghbkcgommab.boxed Go.Proofs.Ytkcfghbkcgommab.ft Go.Proofs.Ytkcfghbkcgommab.seq Go.Proofs.Ytkcfghbkcgommab.tab Go.Proofs.Ytkcfghbkcgommab.dp
set_option linter.unusedVariables false
set_option linter.unusedSimpArgs false
attribute [local go_sem] Oper.semAt_some
theorem isNoI {c : Nat} (A : Option Addr) (n : Nat) (f : Nat → P3) (w : World) (hn : n ≤ 1048576) (hp : PtsAt w A n f) :
    Calls Try.prog 33 #[.slice A n c] w fun e w' => e = .returned (.bool (!okQ n f)) ∧ Below w.heap.size w w' := by
  have HC := Lib.hid (okQI (c := c) A n f w hn hp)
  clear hp
  generalize okQ n f = r at *
  go_enter Try.func33, Try.ntmps33
  go_wp2_with fail
  refine HC.out.mono ?_
  rintro e w1 ⟨rfl, hb⟩
  go_wp2
  go_ret
  exact ⟨rfl, hb⟩
set_option maxRecDepth 100000 in
set_option maxHeartbeats 2000000 in
theorem indexLI {cb : Nat} (B : Option Addr) (n : Nat) (ln : Nat → Nat) (lf : Nat → Nat → P3) (r : Bool) (w : World) (hn : n ≤ 1048576) (hl : ∀ i, i < n → ln i ≤ 1048576) (hr : r = true ↔ ∀ i, i < n → okQ (ln i) (lf i) = true) (hp : LsAt w B n ln lf) :
    Calls Try.prog 50 #[.slice B n cb, .func (.func 33) #[] #[]] w fun e w' => (∃ k : Int, e = .returned (.int .i64 k) ∧ decide (0 ≤ k) = !r) ∧ Below w.heap.size w w' := by
  have HP := Lib.hid hp
  have HR := Lib.hid hr
  have HLN := Lib.hid hl
  clear hp hr hl
  go_enter Try.func50, Try.ntmps50
  go_wp2
  go_loopw [8] (fun i w' => ∃ k : Nat, k ≤ n ∧ i = .int .i64 (k : Int) ∧ Hid (∀ j, j < k → okQ (ln j) (lf j) = true) ∧ Hid (Below w.heap.size w w')) (fun i _ => n - (intOf i).toNat)
  case atStart => exact ⟨0, Nat.zero_le _, rfl, Lib.hid (fun j hj => absurd hj (by omega)), Lib.hid (Below.refl _ _)⟩
  case round =>
    obtain ⟨k, hk, rfl, HE, HB⟩ := hrel
    by_cases hlt : k < n
    · obtain ⟨g, o, Ai, ci, rfl, hg, c0, hq⟩ := (HP.out.kept HB.out) k hlt
      have hli : (k : Int) < (n : Int) := by omega
      have HI := Lib.hid (isNoI (c := ci) Ai (ln k) (lf k) wr (HLN.out k hlt) hq)
      cases hi : okQ (ln k) (lf k) with
      | true =>
        have HE2 := Lib.hid (show ∀ j, j < k + 1 → okQ (ln j) (lf j) = true from fun j hj => by
          rcases Nat.lt_or_ge j k with h' | h'
          · exact HE.out j h'
          · obtain rfl : j = k := by omega
            exact hi)
        rw [hi] at HI
        clear hi hq HE
        generalize ln k = q at *
        go_wp2_with fail
        refine HI.out.mono ?_
        rintro e w2 ⟨rfl, hb2⟩
        have HB2 := Lib.hid (HB.out.trans (hb2.mono HB.out.size))
        clear hb2 c0 HI
        go_wp2
        go_roundw
        case rel => exact ⟨k + 1, by omega, by go_num, HE2, HB2⟩
        case measure => simp [intOf]; omega
      | false =>
        have HF := Lib.hid (show r = false by
          cases hh : r
          · rfl
          · have := HR.out.1 hh k hlt
            rw [hi] at this
            cases this)
        rw [hi] at HI
        clear hi hq HE
        generalize ln k = q at *
        go_wp2_with fail
        refine HI.out.mono ?_
        rintro e w2 ⟨rfl, hb2⟩
        have HB2 := Lib.hid (HB.out.trans (hb2.mono HB.out.size))
        clear hb2 c0 HI
        go_wp2
        go_ret
        exact ⟨⟨(k : Int), rfl, by rw [HF.out]; simp⟩, HB2.out⟩
    · have hxe : ¬ (k : Int) < (n : Int) := by omega
      have HF := Lib.hid (show r = true from HR.out.2 fun i hi => HE.out i (by omega))
      clear hlt
      go_wp2
      go_ret
      exact ⟨⟨-1, rfl, by rw [HF.out]; rfl⟩, HB.out⟩
theorem containsLI {cb : Nat} (B : Option Addr) (n : Nat) (ln : Nat → Nat) (lf : Nat → Nat → P3) (r : Bool) (w : World) (hn : n ≤ 1048576) (hl : ∀ i, i < n → ln i ≤ 1048576) (hr : r = true ↔ ∀ i, i < n → okQ (ln i) (lf i) = true) (hp : LsAt w B n ln lf) :
    Calls Try.prog 32 #[.slice B n cb, .func (.func 33) #[] #[]] w fun e w' => e = .returned (.bool (!r)) ∧ Below w.heap.size w w' := by
  have HC := Lib.hid (indexLI (cb := cb) B n ln lf r w hn hl hr hp)
  clear hr hp hl
  go_enter Try.func32, Try.ntmps32
  go_wp2_with fail
  refine HC.out.mono ?_
  rintro e w1 ⟨⟨k, rfl, hk⟩, hb⟩
  have HK := Lib.hid hk
  have HB := Lib.hid hb
  clear hk hb
  by_cases h : 0 ≤ k
  · have HK2 := Lib.hid (show true = !r by rw [← HK.out, decide_eq_true h])
    go_wp2
    go_ret
    exact ⟨by first | exact ret_bool HK2.out | exact ret_bool HK.out, HB.out⟩
  · have HK2 := Lib.hid (show false = !r by rw [← HK.out, decide_eq_false h])
    go_wp2
    go_ret
    exact ⟨by first | exact ret_bool HK2.out | exact ret_bool HK.out, HB.out⟩
/-- The three variables that the iterator holds: the list, the lists, the band. -/
abbrev tkA (A : Option Addr) (na ca : Nat) : Obj := .cells #[.slice A na ca] 24
abbrev tkL (B : Option Addr) (n cb : Nat) : Obj := .cells #[.slice B n cb] 25
abbrev tkD (band : Int) : Obj := .cells #[.int .i64 band] 2
structure Boxes (w W : World) (A B : Option Addr) (na n ca cb : Nat) (band : Int) : Prop where
  ha : W.heap[w.heap.size]? = some (.cells #[.slice A na ca] 24 (0, 0))
  hl : W.heap[w.heap.size + 1]? = some (.cells #[.slice B n cb] 25 (0, 0))
  hd : W.heap[w.heap.size + 2]? = some (.cells #[.int .i64 band] 2 (0, 0))
  bel : Below w.heap.size w W
theorem Boxes.lt {w W : World} {A B : Option Addr} {na n ca cb : Nat} {band : Int} (h : Boxes w W A B na n ca cb band) : w.heap.size + 2 < W.heap.size := block_size h.hd
theorem Boxes.kept {w W W' : World} {A B : Option Addr} {na n ca cb : Nat} {band : Int} (h : Boxes w W A B na n ca cb band) (hb : Below W.heap.size W W') : Boxes w W' A B na n ca cb band := by
  have hz := h.lt
  exact ⟨(hb.block _ (by omega)).trans h.ha, (hb.block _ (by omega)).trans h.hl, (hb.block _ (by omega)).trans h.hd, h.bel.trans (hb.mono h.bel.size)⟩
theorem boxes0 (w : World) (A B : Option Addr) (na n ca cb : Nat) (band : Int) : Boxes w (((w.alloc (tkA A na ca)).alloc (tkL B n cb)).alloc (tkD band)) A B na n ca cb band := by
  refine ⟨?_, ?_, ?_, (below_alloc2 w _ _).trans ((below_alloc1 _ _).mono (by simp; omega))⟩
  · rw [Below.heap_alloc _ _ _ (by simp; omega), Below.heap_alloc _ _ _ (by simp)]; exact heap_alloc_new _ _
  · rw [Below.heap_alloc _ _ _ (by simp)]
    have := heap_alloc_new (w.alloc (tkA A na ca)) (tkL B n cb)
    simpa using this
  · have := heap_alloc_new ((w.alloc (tkA A na ca)).alloc (tkL B n cb)) (tkD band)
    simpa using this
theorem Boxes.cells {w W : World} {A B : Option Addr} {na n ca cb : Nat} {band : Int} (h : Boxes w W A B na n ca cb band) : W.cell? ⟨w.heap.size, 0, none⟩ = some (.slice A na ca) ∧ W.cell? ⟨w.heap.size + 1, 0, none⟩ = some (.slice B n cb) ∧ W.cell? ⟨w.heap.size + 2, 0, none⟩ = some (.int .i64 band) := by
  refine ⟨?_, ?_, ?_⟩
  · rw [cell_of_block h.ha]; rfl
  · rw [cell_of_block h.hl]; rfl
  · rw [cell_of_block h.hd]; rfl
set_option maxRecDepth 100000 in
set_option maxHeartbeats 8000000 in
theorem takingI_no {ca cb : Nat} (A B : Option Addr) (na n : Nat) (fa : Nat → P3) (ln : Nat → Nat) (lf : Nat → Nat → P3) (band : Int) (w : World) (ha : na ≤ 1048576) (hn : n ≤ 1048576) (hl : ∀ i, i < n → ln i ≤ 1048576) (pa : PtsAt w A na fa) (pb : LsAt w B n ln lf) (h0 : liC na fa n ln lf band ≠ 0) :
    Calls Try.prog 20 #[.slice A na ca, .slice B n cb, .int .i64 band] w fun e w' => e = .returned (.tuple #[Value.nilFunc, .int .i64 (liC na fa n ln lf band)]) ∧ Below w.heap.size w w' := by
  have HBX := Lib.hid (boxes0 w A B na n ca cb band)
  obtain ⟨w0, hw0⟩ : ∃ v, v = ((w.alloc (tkA A na ca)).alloc (tkL B n cb)).alloc (tkD band) := ⟨_, rfl⟩
  rw [← hw0] at HBX
  have HQ := Lib.hid (okQI (c := ca) A na fa w0 ha (pa.kept HBX.out.bel))
  have HPB := Lib.hid (pb.kept HBX.out.bel)
  have hz := HBX.out.lt
  obtain ⟨c0, c1, c2⟩ := HBX.out.cells
  have HW0 := Lib.hid hw0
  have HLN := Lib.hid hl
  have HNO := Lib.hid h0
  clear hw0 pa pb hl h0
  cases va : okQ na fa with
  | false =>
    have HC := Lib.hid (show liC na fa n ln lf band = 1 by unfold liC; rw [if_neg (fun h => by have := (li_iff.1 h).1; rw [va] at this; cases this)])
    rw [va] at HQ
    rw [HC.out]
    clear va HC
    have hu : undef = Value.tuple #[] := rfl
    go_enter Try.func20, Try.ntmps20
    go_wp2_with fail
    rw [← HW0.out]
    refine HQ.out.mono ?_
    rintro e w1 ⟨rfl, hb⟩
    have B1 := Lib.hid (HBX.out.bel.trans (hb.mono HBX.out.bel.size))
    clear hb c0 c1 c2 hz
    go_wp2
    go_ret2
    exact ⟨rfl, B1.out⟩
  | true =>
    rw [va] at HQ
    by_cases h40 : 40 < n
    · have HC := Lib.hid (show liC na fa n ln lf band = 1 by unfold liC; rw [if_neg (fun h => by have := (li_iff.1 h).2.1; omega)])
      have h40i : (40 : Int) < (n : Int) := by omega
      have h40d : decide ((40 : Int) < (n : Int)) = true := decide_eq_true h40i
      rw [HC.out]
      clear va HC h40
      have hu : undef = Value.tuple #[] := rfl
      go_enter Try.func20, Try.ntmps20
      go_wp2_with fail
      rw [← HW0.out]
      refine HQ.out.mono ?_
      rintro e w1 ⟨rfl, hb⟩
      have HB1 := Lib.hid (HBX.out.kept hb)
      obtain ⟨d0, d1, d2⟩ := HB1.out.cells
      have hz1 := HB1.out.lt
      clear hb c0 c1 c2 hz
      go_wp2
      go_ret2
      exact ⟨rfl, HB1.out.bel⟩
    · have h40i : ¬ (40 : Int) < (n : Int) := by omega
      have h40d : decide ((40 : Int) < (n : Int)) = false := decide_eq_false h40i
      obtain ⟨r, hr⟩ : ∃ r : Bool, r = true ↔ ∀ i, i < n → okQ (ln i) (lf i) = true := ⟨@decide _ (Classical.propDecidable _), @decide_eq_true_iff _ (Classical.propDecidable _)⟩
      have HCO := Lib.hid (fun W (hW : Below w0.heap.size w0 W) => containsLI (cb := cb) B n ln lf r W hn HLN.out hr (HPB.out.kept hW))
      cases r with
      | false =>
        have HC := Lib.hid (show liC na fa n ln lf band = 1 by unfold liC; rw [if_neg (fun h => by have := hr.2 (li_iff.1 h).2.2; cases this)])
        rw [HC.out]
        clear va HC h40 hr
        have hu : undef = Value.tuple #[] := rfl
        go_enter Try.func20, Try.ntmps20
        go_wp2_with fail
        rw [← HW0.out]
        refine HQ.out.mono ?_
        rintro e w1 ⟨rfl, hb⟩
        have HB1 := Lib.hid (HBX.out.kept hb)
        have HCO1 := Lib.hid (HCO.out w1 hb)
        obtain ⟨d0, d1, d2⟩ := HB1.out.cells
        have hz1 := HB1.out.lt
        clear hb c0 c1 c2 hz
        go_wp2_with fail
        refine HCO1.out.mono ?_
        rintro e w2 ⟨rfl, hb⟩
        have HB2 := Lib.hid (HB1.out.kept hb)
        clear hb d0 d1 d2 hz1
        go_wp2
        go_ret2
        exact ⟨rfl, HB2.out.bel⟩
      | true =>
        have hok : liOk na fa n ln lf = true := li_iff.2 ⟨va, by omega, hr.1 rfl⟩
        have hbd : ¬ (0 ≤ band ∧ band ≤ 72) := fun h => HNO.out (by unfold liC; rw [if_pos hok, if_pos h])
        have HC := Lib.hid (show liC na fa n ln lf band = 2 by unfold liC; rw [if_pos hok, if_neg hbd])
        rw [HC.out]
        clear va HC h40 hr hok
        have hu : undef = Value.tuple #[] := rfl
        by_cases hb0 : band < 0
        · have b0d : decide (band < 0) = true := decide_eq_true hb0
          clear hbd
          go_enter Try.func20, Try.ntmps20
          go_wp2_with fail
          rw [← HW0.out]
          refine HQ.out.mono ?_
          rintro e w1 ⟨rfl, hb⟩
          have HB1 := Lib.hid (HBX.out.kept hb)
          have HCO1 := Lib.hid (HCO.out w1 hb)
          obtain ⟨d0, d1, d2⟩ := HB1.out.cells
          have hz1 := HB1.out.lt
          clear hb c0 c1 c2 hz
          go_wp2_with fail
          refine HCO1.out.mono ?_
          rintro e w2 ⟨rfl, hb⟩
          have HB2 := Lib.hid (HB1.out.kept hb)
          clear d0 d1 d2 hz1
          obtain ⟨d0, d1, d2⟩ := HB2.out.cells
          have hz2 := HB2.out.lt
          clear hb
          go_wp2
          go_ret2
          exact ⟨rfl, HB2.out.bel⟩
        · have b0d : decide (band < 0) = false := decide_eq_false hb0
          have hb72 : 72 < band := by omega
          have b72d : decide (72 < band) = true := decide_eq_true hb72
          clear hbd
          go_enter Try.func20, Try.ntmps20
          go_wp2_with fail
          rw [← HW0.out]
          refine HQ.out.mono ?_
          rintro e w1 ⟨rfl, hb⟩
          have HB1 := Lib.hid (HBX.out.kept hb)
          have HCO1 := Lib.hid (HCO.out w1 hb)
          obtain ⟨d0, d1, d2⟩ := HB1.out.cells
          have hz1 := HB1.out.lt
          clear hb c0 c1 c2 hz
          go_wp2_with fail
          refine HCO1.out.mono ?_
          rintro e w2 ⟨rfl, hb⟩
          have HB2 := Lib.hid (HB1.out.kept hb)
          clear d0 d1 d2 hz1
          obtain ⟨d0, d1, d2⟩ := HB2.out.cells
          have hz2 := HB2.out.lt
          clear hb
          go_wp2
          go_ret2
          exact ⟨rfl, HB2.out.bel⟩
set_option maxRecDepth 100000 in
set_option maxHeartbeats 8000000 in
theorem takingI_yes {ca cb : Nat} (A B : Option Addr) (na n : Nat) (fa : Nat → P3) (ln : Nat → Nat) (lf : Nat → Nat → P3) (band : Int) (w : World) (ha : na ≤ 1048576) (hn : n ≤ 1048576) (hl : ∀ i, i < n → ln i ≤ 1048576) (pa : PtsAt w A na fa) (pb : LsAt w B n ln lf) (h0 : liC na fa n ln lf band = 0) :
    Calls Try.prog 20 #[.slice A na ca, .slice B n cb, .int .i64 band] w fun e w' => e = .returned (.tuple #[.func (.func 34) #[] #[.pointer (some ⟨w.heap.size + 1, 0, none⟩), .pointer (some ⟨w.heap.size, 0, none⟩), .pointer (some ⟨w.heap.size + 2, 0, none⟩)], .int .i64 0]) ∧ Boxes w w' A B na n ca cb band := by
  obtain ⟨⟨va, hn40, vl⟩, hbd⟩ := liC_of h0
  have HBX := Lib.hid (boxes0 w A B na n ca cb band)
  obtain ⟨w0, hw0⟩ : ∃ v, v = ((w.alloc (tkA A na ca)).alloc (tkL B n cb)).alloc (tkD band) := ⟨_, rfl⟩
  rw [← hw0] at HBX
  have HQ := Lib.hid (okQI (c := ca) A na fa w0 ha (pa.kept HBX.out.bel))
  rw [va] at HQ
  have HPB := Lib.hid (pb.kept HBX.out.bel)
  have HCO := Lib.hid (fun W (hW : Below w0.heap.size w0 W) => containsLI (cb := cb) B n ln lf true W hn hl ⟨fun _ => vl, fun _ => rfl⟩ (HPB.out.kept hW))
  have hz := HBX.out.lt
  obtain ⟨c0, c1, c2⟩ := HBX.out.cells
  have HW0 := Lib.hid hw0
  have h40i : ¬ (40 : Int) < (n : Int) := by omega
  have h40d : decide ((40 : Int) < (n : Int)) = false := decide_eq_false h40i
  have hb0 : ¬ band < 0 := by omega
  have b0d : decide (band < 0) = false := decide_eq_false hb0
  have hb72 : ¬ 72 < band := by omega
  have b72d : decide (72 < band) = false := decide_eq_false hb72
  have hu : undef = Value.tuple #[] := rfl
  clear hw0 pa pb hl h0 va vl hbd
  go_enter Try.func20, Try.ntmps20
  go_wp2_with fail
  rw [← HW0.out]
  refine HQ.out.mono ?_
  rintro e w1 ⟨rfl, hb⟩
  have HB1 := Lib.hid (HBX.out.kept hb)
  have HCO1 := Lib.hid (HCO.out w1 hb)
  obtain ⟨d0, d1, d2⟩ := HB1.out.cells
  have hz1 := HB1.out.lt
  clear hb c0 c1 c2 hz
  go_wp2_with fail
  refine HCO1.out.mono ?_
  rintro e w2 ⟨rfl, hb⟩
  have HB2 := Lib.hid (HB1.out.kept hb)
  clear d0 d1 d2 hz1
  obtain ⟨d0, d1, d2⟩ := HB2.out.cells
  have hz2 := HB2.out.lt
  clear hb
  go_wp2
  go_ret2
  exact ⟨rfl, HB2.out⟩
end Go.Proofs.Ytkcfghbkcgommab.env

namespace Go.Proofs.Ytkcfghbkcgommab.env

open Go.ChangeShapes Go.WideShapes Go.ChangeAt Go.RowKit Go.Joins Go.Shelf

open Go.Proofs.Ytkcfghbkcgommab.core Go.Proofs.Ytkcfghbkcgommab.rown Go.Proofs.Ytkcfghbkcgommab.stk Go.Proofs.Ytkcfghbkcgommab.boxed Go.Proofs.Ytkcfghbkcgommab.ft Go.Proofs.Ytkcfghbkcgommab.seq Go.Proofs.Ytkcfghbkcgommab.tab Go.Proofs.Ytkcfghbkcgommab.dp
set_option linter.unusedVariables false
set_option linter.unusedSimpArgs false
attribute [local go_sem] Oper.semAt_some
/-- A list of lists whose headers are named. -/
def LsF (w : World) (B : Option Addr) (n : Nat) (ln : Nat → Nat) (lf : Nat → Nat → P3) (la : Nat → Option Addr) (lc : Nat → Nat) : Prop :=
  ∀ i, i < n → (∃ b o : Nat, B = some ⟨b, o, none⟩ ∧ b < w.heap.size ∧ w.cell? ⟨b, o + i, none⟩ = some (.slice (la i) (ln i) (lc i))) ∧ PtsAt w (la i) (ln i) (lf i)
theorem LsAt.fns {w : World} {B : Option Addr} {n : Nat} {ln : Nat → Nat} {lf : Nat → Nat → P3} (h : LsAt w B n ln lf) : ∃ la lc, LsF w B n ln lf la lc := by
  have key : ∀ i, ∃ (Ai : Option Addr) (ci : Nat), i < n → (∃ b o : Nat, B = some ⟨b, o, none⟩ ∧ b < w.heap.size ∧ w.cell? ⟨b, o + i, none⟩ = some (.slice Ai (ln i) ci)) ∧ PtsAt w Ai (ln i) (lf i) := fun i => by
    by_cases hi : i < n
    · obtain ⟨b, o, Ai, ci, e, h1, h2, h3⟩ := h i hi
      exact ⟨Ai, ci, fun _ => ⟨⟨b, o, e, h1, h2⟩, h3⟩⟩
    · exact ⟨none, 0, fun h' => absurd h' hi⟩
  exact ⟨fun i => (key i).choose, fun i => (key i).choose_spec.choose, fun i hi => (key i).choose_spec.choose_spec hi⟩
theorem LsF.kept {w w' : World} {B : Option Addr} {n : Nat} {ln : Nat → Nat} {lf : Nat → Nat → P3} {la : Nat → Option Addr} {lc : Nat → Nat} (h : LsF w B n ln lf la lc) (hb : Below w.heap.size w w') : LsF w' B n ln lf la lc := fun i hi => by
  obtain ⟨⟨b, o, e, h1, h2⟩, h3⟩ := h i hi
  exact ⟨⟨b, o, e, Nat.lt_of_lt_of_le h1 hb.size, (hb.cell (p := ⟨b, o + i, none⟩) h1).trans h2⟩, h3.kept hb⟩
/-- The indices below k of the lists that take part. -/
def tks (na : Nat) (ln : Nat → Nat) (band : Int) (k : Nat) : List Nat := (List.range k).filter fun i => takes na ln band i
theorem tks_yes {na : Nat} {ln : Nat → Nat} {band : Int} {k : Nat} (h : takes na ln band k = true) : tks na ln band (k + 1) = tks na ln band k ++ [k] := by
  unfold tks; rw [List.range_succ, List.filter_append]; simp [h]
theorem tks_no {na : Nat} {ln : Nat → Nat} {band : Int} {k : Nat} (h : takes na ln band k = false) : tks na ln band (k + 1) = tks na ln band k := by
  unfold tks; rw [List.range_succ, List.filter_append]; simp [h]
theorem tks_len (na : Nat) (ln : Nat → Nat) (band : Int) (k : Nat) : (tks na ln band k).length ≤ k := by
  unfold tks; exact Nat.le_trans (List.length_filter_le _ _) (by simp)
/-- An index below n of a list that takes part. -/
abbrev Tk (na n : Nat) (ln : Nat → Nat) (band : Int) : Type := { x : Nat // x < n ∧ takes na ln band x = true }
def tkl (na n : Nat) (ln : Nat → Nat) (band : Int) : Nat → List (Tk na n ln band)
  | 0 => []
  | k + 1 => if h : k < n ∧ takes na ln band k = true then tkl na n ln band k ++ [⟨k, h⟩] else tkl na n ln band k
theorem tkl_yes {na n : Nat} {ln : Nat → Nat} {band : Int} {k : Nat} (h : k < n ∧ takes na ln band k = true) : tkl na n ln band (k + 1) = tkl na n ln band k ++ [⟨k, h⟩] := by
  show (if h : k < n ∧ takes na ln band k = true then tkl na n ln band k ++ [⟨k, h⟩] else tkl na n ln band k) = _
  rw [dif_pos h]
theorem tkl_no {na n : Nat} {ln : Nat → Nat} {band : Int} {k : Nat} (h : takes na ln band k = false) : tkl na n ln band (k + 1) = tkl na n ln band k := by
  show (if h : k < n ∧ takes na ln band k = true then tkl na n ln band k ++ [⟨k, h⟩] else tkl na n ln band k) = _
  rw [dif_neg (fun h' => by rw [h] at h'; cases h'.2)]
theorem tkl_map {na n : Nat} {ln : Nat → Nat} {band : Int} : ∀ k, k ≤ n → (tkl na n ln band k).map (·.1) = tks na ln band k
  | 0, _ => rfl
  | k + 1, hk => by
    have ih := tkl_map (na := na) (n := n) (ln := ln) (band := band) k (by omega)
    cases h : takes na ln band k with
    | true => rw [tkl_yes ⟨by omega, h⟩, tks_yes h, List.map_append, ih]; rfl
    | false => rw [tkl_no h, tks_no h, ih]
theorem tkl_len (na n : Nat) (ln : Nat → Nat) (band : Int) : ∀ k, (tkl na n ln band k).length ≤ k
  | 0 => Nat.le_refl _
  | k + 1 => by
    have := tkl_len na n ln band k
    show (if h : k < n ∧ takes na ln band k = true then tkl na n ln band k ++ [⟨k, h⟩] else tkl na n ln band k).length ≤ _
    split
    · rw [List.length_append]; simp; omega
    · omega
/-- What is handed out: the index, and what is matched. -/
def encT (A : Option Addr) (na ca : Nat) (la : Nat → Option Addr) (ln lc : Nat → Nat) (bd : Nat) (k : Nat) : Array Value := #[.int .i64 (k : Int), .agg #[.slice A na ca, .slice (la k) (ln k) (lc k), .int .i64 (bd : Int)]]
set_option maxRecDepth 100000 in
set_option maxHeartbeats 4000000 in
theorem take1_in (m : Nat) (hm : 1 ≤ m) (l n0 bA bL bD : Nat) (A B : Option Addr) (na n ca cb bd : Nat) (la : Nat → Option Addr) (ln lc : Nat → Nat) (J Jx : List (Tk na n ln (bd : Int)) → World → Prop) (hn : n ≤ 1048576) (hna : na ≤ 1048576) (hln : ∀ i, i < n → ln i ≤ 1048576) (h0A : bA < n0) (h0L : bL < n0) (h0D : bD < n0)
    (hY : ∀ pre x W, J pre W → pre.length < n → YieldAt Fence.wide (m - 1) Try.prog l (encT A na ca la ln lc bd x.1) W fun e W' =>
      (e = .returned (.bool true) ∧ J (pre ++ [x]) W' ∧ Below n0 W W') ∨ (e = .returned (.bool false) ∧ Jx (pre ++ [x]) W'))
    (W : World) (hW0 : n0 ≤ W.heap.size) (hJ : AbidesFrom W.heap.size J) (hA : W.cell? ⟨bA, 0, none⟩ = some (.slice A na ca)) (hL : W.cell? ⟨bL, 0, none⟩ = some (.slice B n cb)) (hD : W.cell? ⟨bD, 0, none⟩ = some (.int .i64 (bd : Int)))
    (hc : ∀ i, i < n → ∃ b o : Nat, B = some ⟨b, o, none⟩ ∧ b < n0 ∧ W.cell? ⟨b, o + i, none⟩ = some (.slice (la i) (ln i) (lc i))) (h0 : J [] W) :
    CallsIn Fence.wide m Try.prog 34 #[.func (.yield l) #[] #[], .pointer (some ⟨bL, 0, none⟩), .pointer (some ⟨bA, 0, none⟩), .pointer (some ⟨bD, 0, none⟩)] W fun e W' => (∃ v, e = .returned v) ∧
      ((∃ ys, ys = tkl na n ln (bd : Int) n ∧ J ys W') ∨ (∃ pre, True ∧ Jx pre W')) := by
  have HBD := Lib.hid (fun k (hk : k < n) V => bandI (na : Int) (ln k : Int) (bd : Int) V (by omega) (by have := hln k hk; omega))
  have HC := Lib.hid hc
  have zL := World.block_lt_of_cell? W ⟨bL, 0, none⟩ hL
  refine callsIn_of_wp Try.func34 rfl trivial ?_ rfl
  simp only [Try.ntmps34, List.size_toArray, List.length_cons, List.length_nil, Nat.reduceAdd, Nat.reduceSub, Array.replicate_succ, Array.replicate_zero, List.push_toArray, List.append_toArray, List.nil_append, List.cons_append]
  gi_wp2
  gi_loopw [10] (fun i wr => ∃ k : Nat, k ≤ n ∧ i = .int .i64 (k : Int) ∧ J (tkl na n ln (bd : Int) k) wr ∧ Below n0 W wr)
    (fun i _ => n - (intOf i).toNat)
  case atStart => exact ⟨0, Nat.zero_le _, rfl, h0, Below.refl _ _⟩
  case round =>
    obtain ⟨k, hk, rfl, hJs, hK⟩ := hrel
    by_cases hlt : k < n
    · have hli : (k : Int) < (n : Int) := by omega
      obtain ⟨b, o, rfl, hb0, q0⟩ := HC.out k hlt
      have cA := (hK.cell (p := ⟨bA, 0, none⟩) h0A).trans hA
      have cD := (hK.cell (p := ⟨bD, 0, none⟩) h0D).trans hD
      have c0 := (hK.cell (p := ⟨b, o + k, none⟩) hb0).trans q0
      have zr := hK.size
      have zA := World.block_lt_of_cell? wr ⟨bA, 0, none⟩ cA
      have zD := World.block_lt_of_cell? wr ⟨bD, 0, none⟩ cD
      have zA1 : bA < wr.heap.size + 1 := Nat.lt_succ_of_lt zA
      have zD1 : bD < wr.heap.size + 1 := Nat.lt_succ_of_lt zD
      have neA : ¬ bA = wr.heap.size := Nat.ne_of_lt zA
      have neD : ¬ bD = wr.heap.size := Nat.ne_of_lt zD
      have hB := HBD.out k hlt
      have hJ2 := hJ (tkl na n ln (bd : Int) k) wr _ none hJs (World.grownBy_alloc wr (.cells #[.slice A na ca, .slice (la k) (ln k) (lc k), .int .i64 (bd : Int)] 53) none) (fun r e => by cases e)
      have hlen := tkl_len na n ln (bd : Int) k
      have hB2 : Below n0 W (wr.alloc (.cells #[.slice A na ca, .slice (la k) (ln k) (lc k), .int .i64 (bd : Int)] 53)) := hK.alloc (Nat.le_trans hW0 zr) _
      cases ht : takes na ln (bd : Int) k with
      | true =>
        have ht' : bandOk (na : Int) (ln k : Int) (bd : Int) = true := ht
        rw [ht'] at hB
        obtain ⟨fn, tmps, assign, body, hy, hR⟩ := hY _ ⟨k, hlt, ht⟩ _ hJ2 (by omega)
        unfold encT at hy
        gi_wp2_with (refine ⟨trivial, ?_⟩; gi_at_call 35; refine (callsIn_wide.2 (hB _)).mono ?_; rintro e w' ⟨rfl, rfl⟩)
        refine hR.mono ?_
        rintro e W3 (⟨rfl, hJ3, hk3⟩ | ⟨rfl, hJx3⟩)
        · gi_wp2
          go_roundw
          case rel => exact ⟨k + 1, by omega, by go_num, by rw [tkl_yes ⟨hlt, ht⟩]; exact hJ3, hB2.trans hk3⟩
          case measure => simp [intOf]; omega
        · gi_wp2
          refine bodyPost_ret (results_none rfl _ _ _) rfl ?_
          exact ⟨⟨_, rfl⟩, .inr ⟨_, trivial, hJx3⟩⟩
      | false =>
        have ht' : bandOk (na : Int) (ln k : Int) (bd : Int) = false := ht
        rw [ht'] at hB
        gi_wp2_with (refine ⟨trivial, ?_⟩; gi_at_call 35; refine (callsIn_wide.2 (hB _)).mono ?_; rintro e w' ⟨rfl, rfl⟩)
        refine ⟨fun _ h => (by cases h), ?_⟩
        gi_wp2
        go_roundw
        case rel => exact ⟨k + 1, by omega, by go_num, by rw [tkl_no ht]; exact hJ2, hB2⟩
        case measure => simp [intOf]; omega
    · obtain rfl : k = n := by omega
      gi_wp2
      go_end0
      exact ⟨⟨_, rfl⟩, .inl ⟨_, rfl, hJs⟩⟩
theorem take_stops (m : Nat) (hm : 1 ≤ m) (n0 bA bL bD : Nat) (A B : Option Addr) (na n ca cb bd : Nat) (la : Nat → Option Addr) (ln lc : Nat → Nat) (hn : n ≤ 1048576) (hna : na ≤ 1048576) (hln : ∀ i, i < n → ln i ≤ 1048576) (h0A : bA < n0) (h0L : bL < n0) (h0D : bD < n0) (w : World) (hw : n0 ≤ w.heap.size)
    (hA : w.cell? ⟨bA, 0, none⟩ = some (.slice A na ca)) (hL : w.cell? ⟨bL, 0, none⟩ = some (.slice B n cb)) (hD : w.cell? ⟨bD, 0, none⟩ = some (.int .i64 (bd : Int)))
    (hc : ∀ i, i < n → ∃ b o : Nat, B = some ⟨b, o, none⟩ ∧ b < n0 ∧ w.cell? ⟨b, o + i, none⟩ = some (.slice (la i) (ln i) (lc i))) :
    SeqStopsK Fence.wide m Try.prog 34 #[.pointer (some ⟨bL, 0, none⟩), .pointer (some ⟨bA, 0, none⟩), .pointer (some ⟨bD, 0, none⟩)] (fun x : Tk na n ln (bd : Int) => encT A na ca la ln lc bd x.1) (Below n0) (fun ys => ys = tkl na n ln (bd : Int) n) (fun _ => True) n w := fun l J Jx W hW hJ _ hY h0 => by
  have hz := hW.size
  refine take1_in m hm l n0 bA bL bD A B na n ca cb bd la ln lc J Jx hn hna hln h0A h0L h0D hY W (by omega) hJ ((hW.cell (p := ⟨bA, 0, none⟩) (by simp only; omega)).trans hA) ((hW.cell (p := ⟨bL, 0, none⟩) (by simp only; omega)).trans hL) ((hW.cell (p := ⟨bD, 0, none⟩) (by simp only; omega)).trans hD) (fun i hi => ?_) h0
  obtain ⟨b, o, e, h1, h2⟩ := hc i hi
  exact ⟨b, o, e, h1, (hW.cell (p := ⟨b, o + i, none⟩) (by simp only; omega)).trans h2⟩
end Go.Proofs.Ytkcfghbkcgommab.env

namespace Go.Proofs.Ytkcfghbkcgommab.env

open Go.ChangeShapes Go.WideShapes Go.ChangeAt Go.RowKit Go.Joins Go.Shelf

open Go.Proofs.Ytkcfghbkcgommab.core Go.Proofs.Ytkcfghbkcgommab.rown Go.Proofs.Ytkcfghbkcgommab.stk Go.Proofs.Ytkcfghbkcgommab.boxed Go.Proofs.Ytkcfghbkcgommab.ft Go.Proofs.Ytkcfghbkcgommab.seq Go.Proofs.Ytkcfghbkcgommab.tab Go.Proofs.Ytkcfghbkcgommab.dp
set_option linter.unusedVariables false
set_option linter.unusedSimpArgs false
attribute [local go_sem] Oper.semAt_some
theorem infoM : (Try.prog.info? 55).map (fun i => (i.zero, i.size, i.bytes)) = some (some (.agg #[.int .i64 0, .int .i64 0]), 2, 16) := by kernel_rfl
/-- What is measured, in order. -/
def mP (num : Nat → Int) (pre : List Nat) (j : Nat) : P2 := (((pre[j]?.getD 0 : Nat) : Int), num (pre[j]?.getD 0))
theorem mP_add (num : Nat → Int) (pre : List Nat) (x : Nat) : rws (sp2 (mP num (pre ++ [x]))) (pre.length + 1) = rws (sp2 (mP num pre)) pre.length ++ [.int .i64 (x : Int), .int .i64 (num x)] := by
  rw [rws_succ]
  congr 1
  · refine rws_congr _ fun i hi' => ?_
    unfold sp2 mP
    dsimp only
    rw [List.getElem?_append_left hi']
  · unfold sp2 mP
    dsimp only
    rw [List.getElem?_append_right (Nat.le_refl _), Nat.sub_self]
    rfl
set_option maxRecDepth 100000 in
set_option maxHeartbeats 8000000 in
theorem measC_no {ca cb : Nat} (A B : Option Addr) (na n : Nat) (fa : Nat → P3) (ln : Nat → Nat) (lf : Nat → Nat → P3) (band : Int) (w : World) (ha : na ≤ 1048576) (hn : n ≤ 1048576) (hl : ∀ i, i < n → ln i ≤ 1048576) (pa : PtsAt w A na fa) (pb : LsAt w B n ln lf) (h0 : liC na fa n ln lf band ≠ 0) :
    Calls Try.prog 16 #[.slice A na ca, .slice B n cb, .int .i64 band, .func (.func 17) #[] #[]] w fun e w' => e = .returned (.tuple #[.slice none 0 0, .int .i64 (liC na fa n ln lf band)]) ∧ Below w.heap.size w w' := by
  have BA := Lib.hid (below_alloc1 w (.cells #[.func (.func 17) #[] #[]] 50))
  have HT := Lib.hid (takingI_no (ca := ca) (cb := cb) A B na n fa ln lf band _ ha hn hl (pa.kept BA.out) (pb.kept BA.out) h0)
  have h12 : liC na fa n ln lf band = 1 ∨ liC na fa n ln lf band = 2 := by have := liC_any na fa n ln lf band; omega
  clear h0 pa pb hl
  rcases h12 with h | h
  all_goals
    rw [h] at HT ⊢
    clear h
    go_enter Try.func16, Try.ntmps16
    go_wp2_with fail
    refine HT.out.mono ?_
    rintro e w1 ⟨rfl, hb⟩
    have B1 := Lib.hid (BA.out.trans (hb.mono BA.out.size))
    clear hb
    go_wp2
    go_ret2
    exact ⟨rfl, B1.out⟩
set_option maxRecDepth 100000 in
set_option maxHeartbeats 8000000 in
theorem measC_yes {ca cb : Nat} (A B : Option Addr) (na n : Nat) (fa : Nat → P3) (ln : Nat → Nat) (lf : Nat → Nat → P3) (bd : Nat) (num : Nat → Int) (w : World) (ha : na ≤ 1048576) (hl : ∀ i, i < n → ln i ≤ 1048576) (pa : PtsAt w A na fa) (pb : LsAt w B n ln lf) (h0 : liC na fa n ln lf (bd : Int) = 0)
    (hnum : ∀ (W : World) (Ai : Option Addr) (ci x : Nat), x < n → takes na ln (bd : Int) x = true → PtsAt W A na fa → PtsAt W Ai (ln x) (lf x) → Calls Try.prog 17 #[mtv A Ai na (ln x) ca ci bd] W fun e W' => e = .returned (.int .i64 (num x)) ∧ Below W.heap.size W W') :
    Calls Try.prog 16 #[.slice A na ca, .slice B n cb, .int .i64 (bd : Int), .func (.func 17) #[] #[]] w fun e w' => ∃ v, e = .returned (.tuple #[v, .int .i64 0]) ∧ w'.ownsRow w.heap.size 55 2 v (tks na ln (bd : Int) n).length (rws (sp2 (mP num (tks na ln (bd : Int) n))) (tks na ln (bd : Int) n).length) ∧ Below w.heap.size w w' := by
  have hn40 := (liC_of h0).1.2.1
  have BA := Lib.hid (below_alloc1 w (.cells #[.func (.func 17) #[] #[]] 50))
  have K0 := Lib.hid (heap_alloc_new w (.cells #[.func (.func 17) #[] #[]] 50))
  obtain ⟨la, lc, hls⟩ := pb.fns
  have HT := Lib.hid (takingI_yes (ca := ca) (cb := cb) A B na n fa ln lf (bd : Int) _ ha (by omega) hl (pa.kept BA.out) (pb.kept BA.out) h0)
  have hu : undef = Value.tuple #[] := rfl
  refine (callsIn_wide (n := 6)).1 ?_
  refine callsIn_of_wp_marks Try.func16 rfl trivial ?_ rfl
  simp only [Try.ntmps16, List.size_toArray, List.length_cons, List.length_nil, Nat.reduceAdd, Nat.reduceSub, Array.replicate_succ, Array.replicate_zero, List.push_toArray, List.append_toArray, List.nil_append, List.cons_append]
  gi_wp2_with (refine ⟨trivial, ?_⟩; gi_at_call 20; refine (callsIn_wide.2 HT.out).mono ?_; rintro e w2 ⟨rfl, hbx⟩)
  have hz1 : (w.alloc (.cells #[.func (.func 17) #[] #[]] 50)).heap.size = w.heap.size + 1 := by simp
  have hzb := hbx.lt
  obtain ⟨cA, cL, cD⟩ := hbx.cells
  have hB2 : Below w.heap.size w w2 := BA.out.trans (hbx.bel.mono BA.out.size)
  rw [hz1] at cA cL cD hzb
  have F2 := (hbx.bel.block _ (block_size K0.out)).trans K0.out
  have hls2 := hls.kept hB2
  have hpa2 := pa.kept hB2
  have hbk0 := Boxed.new w2 47 (.slice none 0 0)
  have hB0 : Below w2.heap.size w2 (w2.alloc (.cells #[.slice none 0 0] 47)) := below_alloc1 w2 _
  have hsz : (w2.alloc (.cells #[.slice none 0 0] 47)).heap.size = w2.heap.size + 1 := by simp
  obtain ⟨W0, hW0⟩ : ∃ W0, w2.alloc (.cells #[.slice none 0 0] 47) = W0 := ⟨_, rfl⟩
  rw [hW0] at hbk0 hB0 hsz ⊢
  clear hW0
  obtain ⟨i0, hi0, hz0, hz1', hz2'⟩ := rown.info_get infoM
  have hw2 : w.heap.size < w2.heap.size := block_size F2
  refine wpIn_rangeFunc_ownH rfl (by omega) (gf := 34) (lb := #[.pointer (some ⟨w.heap.size + 1 + 1, 0, none⟩), .pointer (some ⟨w.heap.size + 1, 0, none⟩), .pointer (some ⟨w.heap.size + 1 + 2, 0, none⟩)]) rfl trivial (enters_of Try.func34 (by kernel_rfl) rfl)
    (take_stops _ (by omega) w2.heap.size (w.heap.size + 1) (w.heap.size + 1 + 1) (w.heap.size + 1 + 2) A B na n ca cb bd la ln lc (by omega) ha hl (by omega) (by omega) (by omega) W0 (by omega) ((hB0.cell (p := ⟨w.heap.size + 1, 0, none⟩) (by simp only; omega)).trans cA) ((hB0.cell (p := ⟨w.heap.size + 1 + 1, 0, none⟩) (by simp only; omega)).trans cL) ((hB0.cell (p := ⟨w.heap.size + 1 + 2, 0, none⟩) (by simp only; omega)).trans cD)
      (fun i hi => by obtain ⟨⟨b, o, e, h1, h2⟩, -⟩ := hls2 i hi; exact ⟨b, o, e, h1, (hB0.cell (p := ⟨b, o + i, none⟩) h1).trans h2⟩)) belowK_t (belowK_b (by omega)) (Below.refl _ _) (fun _ => rfl)
    (fun (pre : List (Tk na n ln (bd : Int))) W => (∃ v, Boxed W w2.heap.size 47 v ∧ W.ownsRow w2.heap.size 55 2 v pre.length (rws (sp2 (mP num (pre.map (·.1)))) pre.length) ∧ ∃ (g : Option Addr) (cap : Nat), v = .slice g pre.length cap) ∧ Below w2.heap.size w2 W)
    (fun _ _ _ => False)
    (OwnFrom.and (Own.from (holdsRow_own _ _ _ _ _ (fun pre : List (Tk na n ln (bd : Int)) => pre.length) (fun pre => rws (sp2 (mP num (pre.map (·.1)))) pre.length) (fun pre v => ∃ (g : Option Addr) (cap : Nat), v = .slice g pre.length cap)) _) (ownFrom_below (Nat.le_refl _) (by omega)))
    (fun _ _ _ _ _ hs _ _ => hs)
    ⟨⟨_, hbk0, World.ownsRow_nil _ _ _ _, ⟨none, 0, rfl⟩⟩, hB0⟩
    (fun x a' W => ∃ Bx, w2.heap.size < Bx ∧ W.heap[Bx]? = some (.cells #[.slice A na ca, .slice (la x.1) (ln x.1) (lc x.1), .int .i64 (bd : Int)] 53 (0, 0)) ∧ a' = { tmps := #[.slice A na ca, .slice B n cb, .int .i64 (bd : Int), .func (.func 17) #[] #[], .tuple #[], .tuple #[], .tuple #[], .pointer (some ⟨w.heap.size, 0, none⟩), .slice none 0 0, .int .i64 0, .func (.func 34) #[] #[.pointer (some ⟨w.heap.size + 1 + 1, 0, none⟩), .pointer (some ⟨w.heap.size + 1, 0, none⟩), .pointer (some ⟨w.heap.size + 1 + 2, 0, none⟩)], .int .i64 0, .pointer (some ⟨w2.heap.size, 0, none⟩), .int .i64 (x.1 : Int), .pointer (some ⟨Bx, 0, none⟩), .tuple #[.func (.func 34) #[] #[.pointer (some ⟨w.heap.size + 1 + 1, 0, none⟩), .pointer (some ⟨w.heap.size + 1, 0, none⟩), .pointer (some ⟨w.heap.size + 1 + 2, 0, none⟩)], .int .i64 0], .slice A na ca, .slice B n cb, .int .i64 (bd : Int), .tuple #[.func (.func 34) #[] #[.pointer (some ⟨w.heap.size + 1 + 1, 0, none⟩), .pointer (some ⟨w.heap.size + 1, 0, none⟩), .pointer (some ⟨w.heap.size + 1 + 2, 0, none⟩)], .int .i64 0], .func (.func 34) #[] #[.pointer (some ⟨w.heap.size + 1 + 1, 0, none⟩), .pointer (some ⟨w.heap.size + 1, 0, none⟩), .pointer (some ⟨w.heap.size + 1 + 2, 0, none⟩)], .int .i64 0, .int .i64 0, .bool false, .tuple #[], .func (.func 34) #[] #[.pointer (some ⟨w.heap.size + 1 + 1, 0, none⟩), .pointer (some ⟨w.heap.size + 1, 0, none⟩), .pointer (some ⟨w.heap.size + 1 + 2, 0, none⟩)], .int .i64 (x.1 : Int), .agg #[.slice A na ca, .slice (la x.1) (ln x.1) (lc x.1), .int .i64 (bd : Int)], .tuple #[], .tuple #[], .tuple #[], .tuple #[], .tuple #[], .tuple #[], .tuple #[], .tuple #[], .tuple #[]], defers := [] })
    (fun x a' _ X Y row hs hg hr => by
      obtain ⟨Bx, h1, h2, h3⟩ := hs
      refine ⟨Bx, h1, (hg.block Bx (block_size h2) (fun e' => ?_)).trans h2, h3⟩
      obtain ⟨_, o, ho, hc⟩ := hr Bx e'.symm
      rw [h2] at ho
      cases ho
      cases hc)
    ?assign ?body ?done ?stop
  case assign =>
    rintro l pre x W Kk ⟨⟨v, hv, hrow, hg⟩, hB⟩ hK
    unfold encT
    gi_wp2
    exact hK _ _ ((KeepsOthers.alloc _ _).from _) ((Below.refl _ W).alloc hB.size _) ⟨⟨v, hv.alloc _, hrow.alloc _, hg⟩, hB.alloc hB.size _⟩ ⟨W.heap.size, hv.lt, World.alloc_heap_new W _, rfl⟩
  case body =>
    rintro l pre x a' W hl' ⟨r, hr⟩ ⟨⟨v, hv, hrow, ⟨gv, cap, rfl⟩⟩, hB⟩ ⟨Bx, hBx, hX, rfl⟩ hlt
    have hcL := hv.cell
    have hcF : W.cell? ⟨w.heap.size, 0, none⟩ = some (.func (.func 17) #[] #[]) := (hB.cell (p := ⟨w.heap.size, 0, none⟩) hw2).trans (by rw [cell_of_block F2]; rfl)
    have hX0 : W.cell? ⟨Bx, 0, none⟩ = some (.slice A na ca) := by rw [cell_of_block hX]; rfl
    have hX1 : W.cell? ⟨Bx, 1, none⟩ = some (.slice (la x.1) (ln x.1) (lc x.1)) := by rw [cell_of_block hX]; rfl
    have hX2 : W.cell? ⟨Bx, 2, none⟩ = some (.int .i64 (bd : Int)) := by rw [cell_of_block hX]; rfl
    have hcall := fun V (hV : Below w2.heap.size w2 V) => hnum V (la x.1) (lc x.1) x.1 x.2.1 x.2.2 (hpa2.kept hV) ((hls2 x.1 x.2.1).2.kept hV)
    gi_wp2
    refine rnd.region_roundU (fun V => V.cell? ⟨w.heap.size, 0, none⟩ = some (.func (.func 17) #[] #[]) ∧ V.cell? ⟨Bx, 0, none⟩ = some (.slice A na ca) ∧ V.cell? ⟨Bx, 1, none⟩ = some (.slice (la x.1) (ln x.1) (lc x.1)) ∧ V.cell? ⟨Bx, 2, none⟩ = some (.int .i64 (bd : Int))) (fun V => V.cell? ⟨w2.heap.size, 0, none⟩ = some (.slice gv pre.length cap)) 8 (by kernel_rfl) (by kernel_rfl) (by rintro ⟨a, w', h⟩; exact h) ⟨⟨hcF, hX0, hX1, hX2⟩, hcL⟩ (fun hH => ?_)
    refine rnd.wpAnyU_take (i := 0) (oi := { dst := some 28, op := Op.load 47 (Operand.tmp 12), type := 47, pos := "l10_bounds.go:241", after := #[], guard := none }) (v := ?_) rfl (by kernel_rfl) (by kernel_rfl) (by kernel_rfl) (by kernel_rfl) (fun _ _ _ h => h) (Or.inl ⟨by rfl, ?_⟩) hH ?_
    rotate_left
    · intro V hSw
      obtain ⟨⟨s1, s2, s3, s4⟩, s0⟩ := hSw
      go_simp
      try with_reducible rfl
    simp only [Act.put, List.setIfInBounds_toArray, List.set_cons_zero, List.set_cons_succ]
    refine rnd.wpAnyU_take (i := 1) (oi := { dst := some 29, op := Op.move (Operand.tmp 13), type := 2, pos := "l10_bounds.go:241", after := #[], guard := none }) (v := ?_) rfl (by kernel_rfl) (by kernel_rfl) (by kernel_rfl) (by kernel_rfl) (fun _ _ _ h => h) (Or.inl ⟨by rfl, ?_⟩) hH ?_
    rotate_left
    · intro V hSw
      obtain ⟨⟨s1, s2, s3, s4⟩, s0⟩ := hSw
      go_simp
      try with_reducible rfl
    simp only [Act.put, List.setIfInBounds_toArray, List.set_cons_zero, List.set_cons_succ]
    refine rnd.wpAnyU_take (i := 2) (oi := { dst := some 30, op := Op.load 50 (Operand.tmp 7), type := 50, pos := "l10_bounds.go:241", after := #[], guard := none }) (v := ?_) rfl (by kernel_rfl) (by kernel_rfl) (by kernel_rfl) (by kernel_rfl) (fun _ _ _ h => h) (Or.inl ⟨by rfl, ?_⟩) hH ?_
    rotate_left
    · intro V hSw
      obtain ⟨⟨s1, s2, s3, s4⟩, s0⟩ := hSw
      go_simp
      try with_reducible rfl
    simp only [Act.put, List.setIfInBounds_toArray, List.set_cons_zero, List.set_cons_succ]
    refine rnd.wpAnyU_take (i := 3) (oi := { dst := some 31, op := Op.load 53 (Operand.tmp 14), type := 53, pos := "l10_bounds.go:241", after := #[], guard := none }) (v := ?_) rfl (by kernel_rfl) (by kernel_rfl) (by kernel_rfl) (by kernel_rfl) (fun _ _ _ h => h) (Or.inl ⟨by rfl, ?_⟩) hH ?_
    rotate_left
    · intro V hSw
      obtain ⟨⟨s1, s2, s3, s4⟩, s0⟩ := hSw
      go_simp
      try with_reducible rfl
    simp only [Act.put, List.setIfInBounds_toArray, List.set_cons_zero, List.set_cons_succ]
    refine rnd.wpAnyU_one (i := 4) (by kernel_rfl) rfl (fun K' hK' => ?_)
    go_simp
    refine (hcall _ hB.drew).mono ?_
    rintro e W3 ⟨rfl, hb3⟩
    have hbW : Below W.heap.size W W3 := (Below.refl _ W).drew.trans hb3
    have hv3 : Boxed W3 w2.heap.size 47 (.slice gv pre.length cap) := (hbW.block _ hv.lt).trans hv
    have hrow3 := rown.ownsRow_kept hrow hbW
    have hX3 := (hbW.block _ (block_size hX)).trans hX
    have hB3 : Below w2.heap.size w2 W3 := hB.trans (hbW.mono hB.size)
    have cell3 : ∀ V, Below w2.heap.size w2 V → V.heap[Bx]? = some (.cells #[.slice A na ca, .slice (la x.1) (ln x.1) (lc x.1), .int .i64 (bd : Int)] 53 (0, 0)) → V.cell? ⟨w.heap.size, 0, none⟩ = some (.func (.func 17) #[] #[]) ∧ V.cell? ⟨Bx, 0, none⟩ = some (.slice A na ca) ∧ V.cell? ⟨Bx, 1, none⟩ = some (.slice (la x.1) (ln x.1) (lc x.1)) ∧ V.cell? ⟨Bx, 2, none⟩ = some (.int .i64 (bd : Int)) := fun V hV hb =>
      ⟨(hV.cell (p := ⟨w.heap.size, 0, none⟩) hw2).trans (by rw [cell_of_block F2]; rfl), by rw [cell_of_block hb]; rfl, by rw [cell_of_block hb]; rfl, by rw [cell_of_block hb]; rfl⟩
    dsimp only
    refine hK'.out _ _ (cell3 _ hB3 hX3) (fun _ => hv3.cell) ?_
    clear hK'
    refine rnd.wpAnyU_one (i := 5) (by kernel_rfl) rfl (fun K' hK' => ?_)
    go_simp
    refine hK'.out _ _ (cell3 _ hB3 hX3) (fun _ => hv3.cell) ?_
    clear hK'
    refine rnd.wpAnyU_one (i := 6) (by kernel_rfl) rfl (fun K' hK' => ?_)
    go_simp
    have hB4 := hB3.alloc hB3.size (.cells #[.int .i64 (x.1 : Int), .int .i64 (num x.1)] 55)
    refine hK'.out _ _ (cell3 _ hB4 ((Below.heap_alloc _ _ _ (block_size hX3)).trans hX3)) (fun _ => (hv3.alloc _).cell) ?_
    clear hK'
    refine rnd.wpAnyU_one (i := 7) (by kernel_rfl) rfl (fun K' hK' => ?_)
    have h3 : pre.length + 1 ≤ maxLen := by simp only [maxLen]; omega
    have h4 : (pre.length + 1) * 16 ≤ 140737488355328 := by omega
    refine step_append_lies _ (by rfl) (.tmp 28) (.tmp 34) _ (by rfl) w2.heap.size 55 i0 _ 2 16 Try.underlying47 hi0 hz0 hz1' hz2' rfl (by decide) (.slice gv pre.length cap) pre.length _ (by rfl) (rown.ownsRow_kept hrow3 (below_alloc1 _ _)) ⟨W3.heap.size, 0, none⟩ 1 1 [.int .i64 (x.1 : Int), .int .i64 (num x.1)] (by rfl) rfl (two_new rfl) (by simp [Value.oneCell']) (by decide) h3 h4 hB4.size _ rfl ?_
    intro g2 c2 V1 hown hgr hat hlt9
    obtain ⟨hv1, hv2, hr2, hk2, hb2⟩ := hv3.appended (by decide) hrow3 hB3.size (Nat.le_refl _) hown hgr
    have hB5 : Below w2.heap.size w2 V1 := hB4.trans ((Below.refl _ _).grown hgr hB4.size (fun k hk => by
      have h5 := rown.ownsRow_block hrow3 (g := k) hk
      exact h5.1))
    have hX5 : V1.heap[Bx]? = some (.cells #[.slice A na ca, .slice (la x.1) (ln x.1) (lc x.1), .int .i64 (bd : Int)] 53 (0, 0)) := (hgr.block Bx (by have := block_size hX3; simp; omega) (fun e' => by
      obtain ⟨_, cur, h6⟩ := rown.ownsRow_block hrow3 (g := Bx) e'.symm
      rw [hX3] at h6
      simp at h6)).trans ((Below.heap_alloc _ _ _ (block_size hX3)).trans hX3)
    have hc1 := hv1.cell
    have hf1 := hv1.frozen
    simp only [Act.put, List.setIfInBounds_toArray, List.set_cons_zero, List.set_cons_succ]
    refine hK'.out _ _ (cell3 _ hB5 hX5) (fun _ => hc1) ?_
    clear hK'
    refine rnd.wpAnyU_one (i := 8) (by kernel_rfl) rfl (fun K' hK' => ?_)
    go_simp
    refine hK'.out _ _ (cell3 _ (hB5.setCell (p := ⟨w2.heap.size, 0, none⟩) (Nat.le_refl _) _) ((Below.heap_setCell _ _ _ _ (by simp; omega)).trans hX5)) (fun h => absurd rfl h) ?_
    clear hK'
    refine rnd.wpAnyU_done (by kernel_rfl) ?_ _
    have hln : (pre ++ [x]).length = pre.length + 1 := by simp
    have hmp : rws (sp2 (mP num ((pre ++ [x]).map (·.1)))) (pre.length + 1) = rws (sp2 (mP num (pre.map (·.1)))) pre.length ++ [.int .i64 (x.1 : Int), .int .i64 (num x.1)] := by
      have := mP_add num (pre.map (·.1)) x.1
      rw [List.length_map] at this
      rw [List.map_append]
      exact this
    refine ⟨⟨Nat.le_trans hbW.size hk2.size, fun k o hk ho hc => hk2.same k o ((hbW.block _ (block_size ho)).trans ho) hc⟩, (hbW.mono hB.size).trans hb2, ⟨⟨_, hv2, ?_, ⟨some ⟨g2, 0, none⟩, c2, by rw [hln]⟩⟩, hB3.trans hb2⟩⟩
    rw [hln, hmp]
    exact hr2
  case done =>
    rintro D ys W hD rfl ⟨⟨v, hv, hrow, ⟨gv, cap, rfl⟩⟩, hB⟩ hK
    have cB := hv.cell
    have hle : (tkl na n ln (bd : Int) n).length = (tks na ln (bd : Int) n).length := by rw [← tkl_map n (Nat.le_refl _), List.length_map]
    rw [tkl_map n (Nat.le_refl _)] at hrow
    rw [hle] at hrow cB
    gi_wp2
    refine ⟨by simp, .inl ⟨_, _, rfl, run_takeDeferred hK, ?_⟩⟩
    exact ⟨.tuple #[.slice gv (tks na ln (bd : Int) n).length cap, .int .i64 0], by simp [results, Try.results16, go_sem], ⟨_, rfl, row_low (ownsRow_putObj hrow _ hK rfl) (by omega), (hB2.trans (hB.mono (by omega))).trans (belowK_b (w := w) (Nat.le_refl _) W D _ _ (by omega) hK rfl rfl)⟩⟩
  case stop =>
    rintro D c pre W _ _ h _
    exact h.elim
set_option maxRecDepth 100000 in
set_option maxHeartbeats 8000000 in
theorem measB_no {ca cb : Nat} (A B : Option Addr) (na n : Nat) (fa : Nat → P3) (ln : Nat → Nat) (lf : Nat → Nat → P3) (band : Int) (w : World) (ha : na ≤ 1048576) (hn : n ≤ 1048576) (hl : ∀ i, i < n → ln i ≤ 1048576) (pa : PtsAt w A na fa) (pb : LsAt w B n ln lf) (h0 : liC na fa n ln lf band ≠ 0) :
    Calls Try.prog 16 #[.slice A na ca, .slice B n cb, .int .i64 band, .func (.func 21) #[] #[]] w fun e w' => e = .returned (.tuple #[.slice none 0 0, .int .i64 (liC na fa n ln lf band)]) ∧ Below w.heap.size w w' := by
  have BA := Lib.hid (below_alloc1 w (.cells #[.func (.func 21) #[] #[]] 50))
  have HT := Lib.hid (takingI_no (ca := ca) (cb := cb) A B na n fa ln lf band _ ha hn hl (pa.kept BA.out) (pb.kept BA.out) h0)
  have h12 : liC na fa n ln lf band = 1 ∨ liC na fa n ln lf band = 2 := by have := liC_any na fa n ln lf band; omega
  clear h0 pa pb hl
  rcases h12 with h | h
  all_goals
    rw [h] at HT ⊢
    clear h
    go_enter Try.func16, Try.ntmps16
    go_wp2_with fail
    refine HT.out.mono ?_
    rintro e w1 ⟨rfl, hb⟩
    have B1 := Lib.hid (BA.out.trans (hb.mono BA.out.size))
    clear hb
    go_wp2
    go_ret2
    exact ⟨rfl, B1.out⟩
set_option maxRecDepth 100000 in
set_option maxHeartbeats 8000000 in
theorem measB_yes {ca cb : Nat} (A B : Option Addr) (na n : Nat) (fa : Nat → P3) (ln : Nat → Nat) (lf : Nat → Nat → P3) (bd : Nat) (num : Nat → Int) (w : World) (ha : na ≤ 1048576) (hl : ∀ i, i < n → ln i ≤ 1048576) (pa : PtsAt w A na fa) (pb : LsAt w B n ln lf) (h0 : liC na fa n ln lf (bd : Int) = 0)
    (hnum : ∀ (W : World) (Ai : Option Addr) (ci x : Nat), x < n → takes na ln (bd : Int) x = true → PtsAt W A na fa → PtsAt W Ai (ln x) (lf x) → Calls Try.prog 21 #[mtv A Ai na (ln x) ca ci bd] W fun e W' => e = .returned (.int .i64 (num x)) ∧ Below W.heap.size W W') :
    Calls Try.prog 16 #[.slice A na ca, .slice B n cb, .int .i64 (bd : Int), .func (.func 21) #[] #[]] w fun e w' => ∃ v, e = .returned (.tuple #[v, .int .i64 0]) ∧ w'.ownsRow w.heap.size 55 2 v (tks na ln (bd : Int) n).length (rws (sp2 (mP num (tks na ln (bd : Int) n))) (tks na ln (bd : Int) n).length) ∧ Below w.heap.size w w' := by
  have hn40 := (liC_of h0).1.2.1
  have BA := Lib.hid (below_alloc1 w (.cells #[.func (.func 21) #[] #[]] 50))
  have K0 := Lib.hid (heap_alloc_new w (.cells #[.func (.func 21) #[] #[]] 50))
  obtain ⟨la, lc, hls⟩ := pb.fns
  have HT := Lib.hid (takingI_yes (ca := ca) (cb := cb) A B na n fa ln lf (bd : Int) _ ha (by omega) hl (pa.kept BA.out) (pb.kept BA.out) h0)
  have hu : undef = Value.tuple #[] := rfl
  refine (callsIn_wide (n := 6)).1 ?_
  refine callsIn_of_wp_marks Try.func16 rfl trivial ?_ rfl
  simp only [Try.ntmps16, List.size_toArray, List.length_cons, List.length_nil, Nat.reduceAdd, Nat.reduceSub, Array.replicate_succ, Array.replicate_zero, List.push_toArray, List.append_toArray, List.nil_append, List.cons_append]
  gi_wp2_with (refine ⟨trivial, ?_⟩; gi_at_call 20; refine (callsIn_wide.2 HT.out).mono ?_; rintro e w2 ⟨rfl, hbx⟩)
  have hz1 : (w.alloc (.cells #[.func (.func 21) #[] #[]] 50)).heap.size = w.heap.size + 1 := by simp
  have hzb := hbx.lt
  obtain ⟨cA, cL, cD⟩ := hbx.cells
  have hB2 : Below w.heap.size w w2 := BA.out.trans (hbx.bel.mono BA.out.size)
  rw [hz1] at cA cL cD hzb
  have F2 := (hbx.bel.block _ (block_size K0.out)).trans K0.out
  have hls2 := hls.kept hB2
  have hpa2 := pa.kept hB2
  have hbk0 := Boxed.new w2 47 (.slice none 0 0)
  have hB0 : Below w2.heap.size w2 (w2.alloc (.cells #[.slice none 0 0] 47)) := below_alloc1 w2 _
  have hsz : (w2.alloc (.cells #[.slice none 0 0] 47)).heap.size = w2.heap.size + 1 := by simp
  obtain ⟨W0, hW0⟩ : ∃ W0, w2.alloc (.cells #[.slice none 0 0] 47) = W0 := ⟨_, rfl⟩
  rw [hW0] at hbk0 hB0 hsz ⊢
  clear hW0
  obtain ⟨i0, hi0, hz0, hz1', hz2'⟩ := rown.info_get infoM
  have hw2 : w.heap.size < w2.heap.size := block_size F2
  refine wpIn_rangeFunc_ownH rfl (by omega) (gf := 34) (lb := #[.pointer (some ⟨w.heap.size + 1 + 1, 0, none⟩), .pointer (some ⟨w.heap.size + 1, 0, none⟩), .pointer (some ⟨w.heap.size + 1 + 2, 0, none⟩)]) rfl trivial (enters_of Try.func34 (by kernel_rfl) rfl)
    (take_stops _ (by omega) w2.heap.size (w.heap.size + 1) (w.heap.size + 1 + 1) (w.heap.size + 1 + 2) A B na n ca cb bd la ln lc (by omega) ha hl (by omega) (by omega) (by omega) W0 (by omega) ((hB0.cell (p := ⟨w.heap.size + 1, 0, none⟩) (by simp only; omega)).trans cA) ((hB0.cell (p := ⟨w.heap.size + 1 + 1, 0, none⟩) (by simp only; omega)).trans cL) ((hB0.cell (p := ⟨w.heap.size + 1 + 2, 0, none⟩) (by simp only; omega)).trans cD)
      (fun i hi => by obtain ⟨⟨b, o, e, h1, h2⟩, -⟩ := hls2 i hi; exact ⟨b, o, e, h1, (hB0.cell (p := ⟨b, o + i, none⟩) h1).trans h2⟩)) belowK_t (belowK_b (by omega)) (Below.refl _ _) (fun _ => rfl)
    (fun (pre : List (Tk na n ln (bd : Int))) W => (∃ v, Boxed W w2.heap.size 47 v ∧ W.ownsRow w2.heap.size 55 2 v pre.length (rws (sp2 (mP num (pre.map (·.1)))) pre.length) ∧ ∃ (g : Option Addr) (cap : Nat), v = .slice g pre.length cap) ∧ Below w2.heap.size w2 W)
    (fun _ _ _ => False)
    (OwnFrom.and (Own.from (holdsRow_own _ _ _ _ _ (fun pre : List (Tk na n ln (bd : Int)) => pre.length) (fun pre => rws (sp2 (mP num (pre.map (·.1)))) pre.length) (fun pre v => ∃ (g : Option Addr) (cap : Nat), v = .slice g pre.length cap)) _) (ownFrom_below (Nat.le_refl _) (by omega)))
    (fun _ _ _ _ _ hs _ _ => hs)
    ⟨⟨_, hbk0, World.ownsRow_nil _ _ _ _, ⟨none, 0, rfl⟩⟩, hB0⟩
    (fun x a' W => ∃ Bx, w2.heap.size < Bx ∧ W.heap[Bx]? = some (.cells #[.slice A na ca, .slice (la x.1) (ln x.1) (lc x.1), .int .i64 (bd : Int)] 53 (0, 0)) ∧ a' = { tmps := #[.slice A na ca, .slice B n cb, .int .i64 (bd : Int), .func (.func 21) #[] #[], .tuple #[], .tuple #[], .tuple #[], .pointer (some ⟨w.heap.size, 0, none⟩), .slice none 0 0, .int .i64 0, .func (.func 34) #[] #[.pointer (some ⟨w.heap.size + 1 + 1, 0, none⟩), .pointer (some ⟨w.heap.size + 1, 0, none⟩), .pointer (some ⟨w.heap.size + 1 + 2, 0, none⟩)], .int .i64 0, .pointer (some ⟨w2.heap.size, 0, none⟩), .int .i64 (x.1 : Int), .pointer (some ⟨Bx, 0, none⟩), .tuple #[.func (.func 34) #[] #[.pointer (some ⟨w.heap.size + 1 + 1, 0, none⟩), .pointer (some ⟨w.heap.size + 1, 0, none⟩), .pointer (some ⟨w.heap.size + 1 + 2, 0, none⟩)], .int .i64 0], .slice A na ca, .slice B n cb, .int .i64 (bd : Int), .tuple #[.func (.func 34) #[] #[.pointer (some ⟨w.heap.size + 1 + 1, 0, none⟩), .pointer (some ⟨w.heap.size + 1, 0, none⟩), .pointer (some ⟨w.heap.size + 1 + 2, 0, none⟩)], .int .i64 0], .func (.func 34) #[] #[.pointer (some ⟨w.heap.size + 1 + 1, 0, none⟩), .pointer (some ⟨w.heap.size + 1, 0, none⟩), .pointer (some ⟨w.heap.size + 1 + 2, 0, none⟩)], .int .i64 0, .int .i64 0, .bool false, .tuple #[], .func (.func 34) #[] #[.pointer (some ⟨w.heap.size + 1 + 1, 0, none⟩), .pointer (some ⟨w.heap.size + 1, 0, none⟩), .pointer (some ⟨w.heap.size + 1 + 2, 0, none⟩)], .int .i64 (x.1 : Int), .agg #[.slice A na ca, .slice (la x.1) (ln x.1) (lc x.1), .int .i64 (bd : Int)], .tuple #[], .tuple #[], .tuple #[], .tuple #[], .tuple #[], .tuple #[], .tuple #[], .tuple #[], .tuple #[]], defers := [] })
    (fun x a' _ X Y row hs hg hr => by
      obtain ⟨Bx, h1, h2, h3⟩ := hs
      refine ⟨Bx, h1, (hg.block Bx (block_size h2) (fun e' => ?_)).trans h2, h3⟩
      obtain ⟨_, o, ho, hc⟩ := hr Bx e'.symm
      rw [h2] at ho
      cases ho
      cases hc)
    ?assign ?body ?done ?stop
  case assign =>
    rintro l pre x W Kk ⟨⟨v, hv, hrow, hg⟩, hB⟩ hK
    unfold encT
    gi_wp2
    exact hK _ _ ((KeepsOthers.alloc _ _).from _) ((Below.refl _ W).alloc hB.size _) ⟨⟨v, hv.alloc _, hrow.alloc _, hg⟩, hB.alloc hB.size _⟩ ⟨W.heap.size, hv.lt, World.alloc_heap_new W _, rfl⟩
  case body =>
    rintro l pre x a' W hl' ⟨r, hr⟩ ⟨⟨v, hv, hrow, ⟨gv, cap, rfl⟩⟩, hB⟩ ⟨Bx, hBx, hX, rfl⟩ hlt
    have hcL := hv.cell
    have hcF : W.cell? ⟨w.heap.size, 0, none⟩ = some (.func (.func 21) #[] #[]) := (hB.cell (p := ⟨w.heap.size, 0, none⟩) hw2).trans (by rw [cell_of_block F2]; rfl)
    have hX0 : W.cell? ⟨Bx, 0, none⟩ = some (.slice A na ca) := by rw [cell_of_block hX]; rfl
    have hX1 : W.cell? ⟨Bx, 1, none⟩ = some (.slice (la x.1) (ln x.1) (lc x.1)) := by rw [cell_of_block hX]; rfl
    have hX2 : W.cell? ⟨Bx, 2, none⟩ = some (.int .i64 (bd : Int)) := by rw [cell_of_block hX]; rfl
    have hcall := fun V (hV : Below w2.heap.size w2 V) => hnum V (la x.1) (lc x.1) x.1 x.2.1 x.2.2 (hpa2.kept hV) ((hls2 x.1 x.2.1).2.kept hV)
    gi_wp2
    refine rnd.region_roundU (fun V => V.cell? ⟨w.heap.size, 0, none⟩ = some (.func (.func 21) #[] #[]) ∧ V.cell? ⟨Bx, 0, none⟩ = some (.slice A na ca) ∧ V.cell? ⟨Bx, 1, none⟩ = some (.slice (la x.1) (ln x.1) (lc x.1)) ∧ V.cell? ⟨Bx, 2, none⟩ = some (.int .i64 (bd : Int))) (fun V => V.cell? ⟨w2.heap.size, 0, none⟩ = some (.slice gv pre.length cap)) 8 (by kernel_rfl) (by kernel_rfl) (by rintro ⟨a, w', h⟩; exact h) ⟨⟨hcF, hX0, hX1, hX2⟩, hcL⟩ (fun hH => ?_)
    refine rnd.wpAnyU_take (i := 0) (oi := { dst := some 28, op := Op.load 47 (Operand.tmp 12), type := 47, pos := "l10_bounds.go:241", after := #[], guard := none }) (v := ?_) rfl (by kernel_rfl) (by kernel_rfl) (by kernel_rfl) (by kernel_rfl) (fun _ _ _ h => h) (Or.inl ⟨by rfl, ?_⟩) hH ?_
    rotate_left
    · intro V hSw
      obtain ⟨⟨s1, s2, s3, s4⟩, s0⟩ := hSw
      go_simp
      try with_reducible rfl
    simp only [Act.put, List.setIfInBounds_toArray, List.set_cons_zero, List.set_cons_succ]
    refine rnd.wpAnyU_take (i := 1) (oi := { dst := some 29, op := Op.move (Operand.tmp 13), type := 2, pos := "l10_bounds.go:241", after := #[], guard := none }) (v := ?_) rfl (by kernel_rfl) (by kernel_rfl) (by kernel_rfl) (by kernel_rfl) (fun _ _ _ h => h) (Or.inl ⟨by rfl, ?_⟩) hH ?_
    rotate_left
    · intro V hSw
      obtain ⟨⟨s1, s2, s3, s4⟩, s0⟩ := hSw
      go_simp
      try with_reducible rfl
    simp only [Act.put, List.setIfInBounds_toArray, List.set_cons_zero, List.set_cons_succ]
    refine rnd.wpAnyU_take (i := 2) (oi := { dst := some 30, op := Op.load 50 (Operand.tmp 7), type := 50, pos := "l10_bounds.go:241", after := #[], guard := none }) (v := ?_) rfl (by kernel_rfl) (by kernel_rfl) (by kernel_rfl) (by kernel_rfl) (fun _ _ _ h => h) (Or.inl ⟨by rfl, ?_⟩) hH ?_
    rotate_left
    · intro V hSw
      obtain ⟨⟨s1, s2, s3, s4⟩, s0⟩ := hSw
      go_simp
      try with_reducible rfl
    simp only [Act.put, List.setIfInBounds_toArray, List.set_cons_zero, List.set_cons_succ]
    refine rnd.wpAnyU_take (i := 3) (oi := { dst := some 31, op := Op.load 53 (Operand.tmp 14), type := 53, pos := "l10_bounds.go:241", after := #[], guard := none }) (v := ?_) rfl (by kernel_rfl) (by kernel_rfl) (by kernel_rfl) (by kernel_rfl) (fun _ _ _ h => h) (Or.inl ⟨by rfl, ?_⟩) hH ?_
    rotate_left
    · intro V hSw
      obtain ⟨⟨s1, s2, s3, s4⟩, s0⟩ := hSw
      go_simp
      try with_reducible rfl
    simp only [Act.put, List.setIfInBounds_toArray, List.set_cons_zero, List.set_cons_succ]
    refine rnd.wpAnyU_one (i := 4) (by kernel_rfl) rfl (fun K' hK' => ?_)
    go_simp
    refine (hcall _ hB.drew).mono ?_
    rintro e W3 ⟨rfl, hb3⟩
    have hbW : Below W.heap.size W W3 := (Below.refl _ W).drew.trans hb3
    have hv3 : Boxed W3 w2.heap.size 47 (.slice gv pre.length cap) := (hbW.block _ hv.lt).trans hv
    have hrow3 := rown.ownsRow_kept hrow hbW
    have hX3 := (hbW.block _ (block_size hX)).trans hX
    have hB3 : Below w2.heap.size w2 W3 := hB.trans (hbW.mono hB.size)
    have cell3 : ∀ V, Below w2.heap.size w2 V → V.heap[Bx]? = some (.cells #[.slice A na ca, .slice (la x.1) (ln x.1) (lc x.1), .int .i64 (bd : Int)] 53 (0, 0)) → V.cell? ⟨w.heap.size, 0, none⟩ = some (.func (.func 21) #[] #[]) ∧ V.cell? ⟨Bx, 0, none⟩ = some (.slice A na ca) ∧ V.cell? ⟨Bx, 1, none⟩ = some (.slice (la x.1) (ln x.1) (lc x.1)) ∧ V.cell? ⟨Bx, 2, none⟩ = some (.int .i64 (bd : Int)) := fun V hV hb =>
      ⟨(hV.cell (p := ⟨w.heap.size, 0, none⟩) hw2).trans (by rw [cell_of_block F2]; rfl), by rw [cell_of_block hb]; rfl, by rw [cell_of_block hb]; rfl, by rw [cell_of_block hb]; rfl⟩
    dsimp only
    refine hK'.out _ _ (cell3 _ hB3 hX3) (fun _ => hv3.cell) ?_
    clear hK'
    refine rnd.wpAnyU_one (i := 5) (by kernel_rfl) rfl (fun K' hK' => ?_)
    go_simp
    refine hK'.out _ _ (cell3 _ hB3 hX3) (fun _ => hv3.cell) ?_
    clear hK'
    refine rnd.wpAnyU_one (i := 6) (by kernel_rfl) rfl (fun K' hK' => ?_)
    go_simp
    have hB4 := hB3.alloc hB3.size (.cells #[.int .i64 (x.1 : Int), .int .i64 (num x.1)] 55)
    refine hK'.out _ _ (cell3 _ hB4 ((Below.heap_alloc _ _ _ (block_size hX3)).trans hX3)) (fun _ => (hv3.alloc _).cell) ?_
    clear hK'
    refine rnd.wpAnyU_one (i := 7) (by kernel_rfl) rfl (fun K' hK' => ?_)
    have h3 : pre.length + 1 ≤ maxLen := by simp only [maxLen]; omega
    have h4 : (pre.length + 1) * 16 ≤ 140737488355328 := by omega
    refine step_append_lies _ (by rfl) (.tmp 28) (.tmp 34) _ (by rfl) w2.heap.size 55 i0 _ 2 16 Try.underlying47 hi0 hz0 hz1' hz2' rfl (by decide) (.slice gv pre.length cap) pre.length _ (by rfl) (rown.ownsRow_kept hrow3 (below_alloc1 _ _)) ⟨W3.heap.size, 0, none⟩ 1 1 [.int .i64 (x.1 : Int), .int .i64 (num x.1)] (by rfl) rfl (two_new rfl) (by simp [Value.oneCell']) (by decide) h3 h4 hB4.size _ rfl ?_
    intro g2 c2 V1 hown hgr hat hlt9
    obtain ⟨hv1, hv2, hr2, hk2, hb2⟩ := hv3.appended (by decide) hrow3 hB3.size (Nat.le_refl _) hown hgr
    have hB5 : Below w2.heap.size w2 V1 := hB4.trans ((Below.refl _ _).grown hgr hB4.size (fun k hk => by
      have h5 := rown.ownsRow_block hrow3 (g := k) hk
      exact h5.1))
    have hX5 : V1.heap[Bx]? = some (.cells #[.slice A na ca, .slice (la x.1) (ln x.1) (lc x.1), .int .i64 (bd : Int)] 53 (0, 0)) := (hgr.block Bx (by have := block_size hX3; simp; omega) (fun e' => by
      obtain ⟨_, cur, h6⟩ := rown.ownsRow_block hrow3 (g := Bx) e'.symm
      rw [hX3] at h6
      simp at h6)).trans ((Below.heap_alloc _ _ _ (block_size hX3)).trans hX3)
    have hc1 := hv1.cell
    have hf1 := hv1.frozen
    simp only [Act.put, List.setIfInBounds_toArray, List.set_cons_zero, List.set_cons_succ]
    refine hK'.out _ _ (cell3 _ hB5 hX5) (fun _ => hc1) ?_
    clear hK'
    refine rnd.wpAnyU_one (i := 8) (by kernel_rfl) rfl (fun K' hK' => ?_)
    go_simp
    refine hK'.out _ _ (cell3 _ (hB5.setCell (p := ⟨w2.heap.size, 0, none⟩) (Nat.le_refl _) _) ((Below.heap_setCell _ _ _ _ (by simp; omega)).trans hX5)) (fun h => absurd rfl h) ?_
    clear hK'
    refine rnd.wpAnyU_done (by kernel_rfl) ?_ _
    have hln : (pre ++ [x]).length = pre.length + 1 := by simp
    have hmp : rws (sp2 (mP num ((pre ++ [x]).map (·.1)))) (pre.length + 1) = rws (sp2 (mP num (pre.map (·.1)))) pre.length ++ [.int .i64 (x.1 : Int), .int .i64 (num x.1)] := by
      have := mP_add num (pre.map (·.1)) x.1
      rw [List.length_map] at this
      rw [List.map_append]
      exact this
    refine ⟨⟨Nat.le_trans hbW.size hk2.size, fun k o hk ho hc => hk2.same k o ((hbW.block _ (block_size ho)).trans ho) hc⟩, (hbW.mono hB.size).trans hb2, ⟨⟨_, hv2, ?_, ⟨some ⟨g2, 0, none⟩, c2, by rw [hln]⟩⟩, hB3.trans hb2⟩⟩
    rw [hln, hmp]
    exact hr2
  case done =>
    rintro D ys W hD rfl ⟨⟨v, hv, hrow, ⟨gv, cap, rfl⟩⟩, hB⟩ hK
    have cB := hv.cell
    have hle : (tkl na n ln (bd : Int) n).length = (tks na ln (bd : Int) n).length := by rw [← tkl_map n (Nat.le_refl _), List.length_map]
    rw [tkl_map n (Nat.le_refl _)] at hrow
    rw [hle] at hrow cB
    gi_wp2
    refine ⟨by simp, .inl ⟨_, _, rfl, run_takeDeferred hK, ?_⟩⟩
    exact ⟨.tuple #[.slice gv (tks na ln (bd : Int) n).length cap, .int .i64 0], by simp [results, Try.results16, go_sem], ⟨_, rfl, row_low (ownsRow_putObj hrow _ hK rfl) (by omega), (hB2.trans (hB.mono (by omega))).trans (belowK_b (w := w) (Nat.le_refl _) W D _ _ (by omega) hK rfl rfl)⟩⟩
  case stop =>
    rintro D c pre W _ _ h _
    exact h.elim
end Go.Proofs.Ytkcfghbkcgommab.env

namespace Go.Proofs.Ytkcfghbkcgommab.env

open Go.ChangeShapes Go.WideShapes Go.ChangeAt Go.RowKit Go.Joins

open Go.Proofs.Ytkcfghbkcgommab.core Go.Proofs.Ytkcfghbkcgommab.rown Go.Proofs.Ytkcfghbkcgommab.stk Go.Proofs.Ytkcfghbkcgommab.boxed Go.Proofs.Ytkcfghbkcgommab.ft Go.Proofs.Ytkcfghbkcgommab.seq Go.Proofs.Ytkcfghbkcgommab.tab
set_option linter.unusedVariables false
set_option linter.unusedSimpArgs false
def cmpV (x y : Int) : Int := if x < y then -1 else if y < x then 1 else 0
theorem cmpI (x y : Int) (w : World) : Calls Try.prog 30 #[.int .i64 x, .int .i64 y] w fun e w' => e = .returned (.int .i64 (cmpV x y)) ∧ w = w' := by
  have H := Lib.hid (fun v W => nanI v W)
  have HV := Lib.hid (show cmpV x y = if x < y then -1 else if y < x then 1 else 0 from rfl)
  rw [HV.out]
  clear HV
  by_cases h1 : x < y
  · rw [if_pos h1]
    go_enter Try.func30, Try.ntmps30
    go_wp2_with fail
    with_reducible refine (H.out _ _).mono ?_
    rintro e _ ⟨rfl, rfl⟩
    go_wp2_with fail
    with_reducible refine (H.out _ _).mono ?_
    rintro e _ ⟨rfl, rfl⟩
    go_wp2
    go_ret
    exact ⟨rfl, rfl⟩
  · rw [if_neg h1]
    by_cases h2 : y < x
    · rw [if_pos h2]
      have h3 : y < x ∨ False := .inl h2
      go_enter Try.func30, Try.ntmps30
      go_wp2_with fail
      with_reducible refine (H.out _ _).mono ?_
      rintro e _ ⟨rfl, rfl⟩
      go_wp2_with fail
      with_reducible refine (H.out _ _).mono ?_
      rintro e _ ⟨rfl, rfl⟩
      go_wp2
      go_ret
      exact ⟨rfl, rfl⟩
    · rw [if_neg h2]
      go_enter Try.func30, Try.ntmps30
      go_wp2_with fail
      with_reducible refine (H.out _ _).mono ?_
      rintro e _ ⟨rfl, rfl⟩
      go_wp2_with fail
      with_reducible refine (H.out _ _).mono ?_
      rintro e _ ⟨rfl, rfl⟩
      go_wp2
      go_ret
      exact ⟨rfl, rfl⟩
theorem compareI (a b c d : Int) (w : World) : Calls Try.prog 19 #[.agg #[.int .i64 a, .int .i64 b], .agg #[.int .i64 c, .int .i64 d]] w fun e w' => e = .returned (.int .i64 (cmpV b d)) ∧ Below w.heap.size w w' := by
  have H := Lib.hid (fun W => cmpI b d W)
  generalize cmpV b d = r at *
  have B1 := Lib.hid (below_alloc1 w (.cells #[.int .i64 a, .int .i64 b] 55))
  have B2 := Lib.hid (B1.out.alloc B1.out.size (.cells #[.int .i64 c, .int .i64 d] 55))
  go_enter Try.func19, Try.ntmps19
  go_wp2_with fail
  with_reducible refine (H.out _).mono ?_
  rintro e _ ⟨rfl, rfl⟩
  go_wp2
  go_ret
  exact ⟨rfl, B2.out⟩
/-- A block of two numbers. -/
structure TwoC (w : World) (b : Nat) (x y : Int) : Prop where
  c0 : w.cell? ⟨b, 0, none⟩ = some (.int .i64 x)
  c1 : w.cell? ⟨b, 1, none⟩ = some (.int .i64 y)
  f0 : w.frozen? ⟨b, 0, none⟩ = false
  f1 : w.frozen? ⟨b, 1, none⟩ = false
  lt : b < w.heap.size
theorem TwoC.of {w : World} {b : Nat} {x y : Int} {t : TypeId} (h : w.heap[b]? = some (.cells #[.int .i64 x, .int .i64 y] t (0, 0))) : TwoC w b x y := ⟨by rw [cell_of_block h]; rfl, by rw [cell_of_block h]; rfl, unfrozen_of_block h _, unfrozen_of_block h _, block_size h⟩
theorem TwoC.far {w w' : World} {b : Nat} {x y : Int} (h : TwoC w b x y) (hb : Below w.heap.size w w') : TwoC w' b x y := ⟨(hb.cell (p := ⟨b, 0, none⟩) h.lt).trans h.c0, (hb.cell (p := ⟨b, 1, none⟩) h.lt).trans h.c1, (hb.frozen (p := ⟨b, 0, none⟩) h.lt).trans h.f0, (hb.frozen (p := ⟨b, 1, none⟩) h.lt).trans h.f1, Nat.lt_of_lt_of_le h.lt hb.size⟩
theorem TwoC.set {w : World} {b : Nat} {x y u v : Int} (h : TwoC w b x y) : TwoC ((w.setCell ⟨b, 0, none⟩ (.int .i64 u)).setCell ⟨b, 1, none⟩ (.int .i64 v)) b u v := by
  obtain ⟨h0, h1, f0, f1, hl⟩ := h
  refine ⟨?_, ?_, ?_, ?_, by simpa using hl⟩
  · go_simp
  · go_simp
  · go_simp
  · go_simp
theorem TwoC.apart {w : World} {b d : Nat} {x y u v : Int} (h : TwoC w b x y) (hd : d ≠ b) : TwoC ((w.setCell ⟨d, 0, none⟩ (.int .i64 u)).setCell ⟨d, 1, none⟩ (.int .i64 v)) b x y := by
  obtain ⟨h0, h1, f0, f1, hl⟩ := h
  have hd' : ¬ b = d := fun e => hd e.symm
  refine ⟨?_, ?_, ?_, ?_, by simpa using hl⟩
  · go_simp
  · go_simp
  · go_simp
  · go_simp
/-- The first of the least ones among the elements up to k. -/
def mn (m : Nat → P2) : Nat → P2
  | 0 => m 0
  | k + 1 => if (m (k + 1)).2 < (mn m k).2 then m (k + 1) else mn m k
set_option maxRecDepth 100000 in
set_option maxHeartbeats 4000000 in
theorem minI {c : Nat} (A : Option Addr) (L : Nat) (m : Nat → P2) (w : World) (hL : L + 1 ≤ 1048576) (hp : SpAt w A (L + 1) m) :
    Calls Try.prog 18 #[.slice A (L + 1) c, .func (.func 19) #[] #[]] w fun e w' => e = .returned (.agg #[.int .i64 (mn m L).1, .int .i64 (mn m L).2]) ∧ Below w.heap.size w w' := by
  have HP := Lib.hid hp
  have HN := Lib.hid (show mn m 0 = m 0 ∧ ∀ k, mn m (k + 1) = if (m (k + 1)).2 < (mn m k).2 then m (k + 1) else mn m k from ⟨rfl, fun _ => rfl⟩)
  have HC := Lib.hid (fun a b c d W => compareI a b c d W)
  have hmx : Try.prog.follows .mixedOrders = true := by kernel_rfl
  generalize mn m = G at *
  obtain ⟨b, o, rfl, hb, c0, c1⟩ := hp 0 (by omega)
  simp only [Nat.zero_mul, Nat.add_zero] at c0 c1
  obtain ⟨⟨x0, y0⟩, hm0⟩ : ∃ p, m 0 = p := ⟨_, rfl⟩
  rw [hm0] at c0 c1
  have B1 := Lib.hid (below_alloc1 w (.cells #[.int .i64 0, .int .i64 0] 55))
  have B2 := Lib.hid (B1.out.alloc B1.out.size (.cells #[.int .i64 x0, .int .i64 y0] 55))
  have K1 := Lib.hid (heap_alloc_new (w.alloc (.cells #[.int .i64 0, .int .i64 0] 55)) (.cells #[.int .i64 x0, .int .i64 y0] 55))
  have K0 := Lib.hid ((Below.heap_alloc (w.alloc (.cells #[.int .i64 0, .int .i64 0] 55)) (.cells #[.int .i64 x0, .int .i64 y0] 55) w.heap.size (by simp)).trans (heap_alloc_new w (.cells #[.int .i64 0, .int .i64 0] 55)))
  have hcond : ¬ ((L : Int) + 1 < 1) := by omega
  have hpos : (0 : Int) < (L : Int) + 1 := by omega
  have hpn : 0 < L + 1 := by omega
  have hMw : IntKind.i64.wrap (L : Int) = (L : Int) := IntWalk.i64_in _ (by omega)
  go_enter Try.func18, Try.ntmps18
  go_wp2
  obtain ⟨W1, hW1⟩ : ∃ W1, (w.alloc (.cells #[.int .i64 0, .int .i64 0] 55)).alloc (.cells #[.int .i64 x0, .int .i64 y0] 55) = W1 := ⟨_, rfl⟩
  have hsz : (w.alloc (.cells #[.int .i64 0, .int .i64 0] 55)).heap.size = w.heap.size + 1 := by simp
  rw [hsz] at K1
  have hb0 : w.heap.size = w.heap.size := rfl
  generalize hZ : w.heap.size = Z at *
  rw [hW1] at B2 K1 K0 ⊢
  clear B1 hW1 hb0 c0 c1
  go_loopw [6] (fun i wr => ∃ (k : Nat) (x y : Int), k ≤ L ∧ i = .int .i64 ((k : Int) + 1) ∧ Hid (G k = (x, y)) ∧ TwoC wr (Z + 1) x y ∧ TwoC wr Z 0 0 ∧ Hid (Below Z w wr)) (fun i _ => L + 1 - (intOf i).toNat)
  case atStart => exact ⟨0, x0, y0, Nat.zero_le _, rfl, Lib.hid (by rw [HN.out.1, hm0]), .of K1.out, .of K0.out, B2⟩
  case round =>
    obtain ⟨k, x, y, hk, rfl, HG, hk1, hk0, HB⟩ := hrel
    have k1 := hk1.lt
    have cx := hk1.c0
    have cy := hk1.c1
    by_cases hlt : k < L
    · obtain ⟨b', o', e', hb', c0, c1⟩ := HP.out (k + 1) (by omega)
      cases e'
      rw [hZ] at hb'
      obtain ⟨⟨u, v⟩, hm⟩ : ∃ p, m (k + 1) = p := ⟨_, rfl⟩
      rw [hm] at c0 c1
      have hli : (k : Int) + 1 < (L : Int) + 1 := by omega
      have h0i : 0 ≤ (k : Int) + 1 := by omega
      have htn : ((k : Int) + 1).toNat = k + 1 := by omega
      have hln : k + 1 < L + 1 := by omega
      have c0' := (HB.out.cell (p := ⟨b, o + (k + 1) * 2, none⟩) hb').trans c0
      have c1' := (HB.out.cell (p := ⟨b, o + (k + 1) * 2 + 1, none⟩) hb').trans c1
      have hbr : b < wr.heap.size := by have := HB.out.size; omega
      have C0 := core.cell_kept (a := ⟨b, o + (k + 1) * 2, none⟩) hbr c0'
      have C1 := core.cell_kept (a := ⟨b, o + (k + 1) * 2 + 1, none⟩) hbr c1'
      have CX := core.cell_kept (a := ⟨Z + 1, 0, none⟩) k1 cx
      have CY := core.cell_kept (a := ⟨Z + 1, 1, none⟩) k1 cy
      have hgx := HN.out.2 k
      rw [HG.out, hm] at hgx
      simp only at hgx
      have hC := HC.out u v x y
      have hcv : decide (cmpV v y < 0) = decide (v < y) := by
        unfold cmpV
        by_cases h1 : v < y
        · rw [if_pos h1]; simp [h1]
        · rw [if_neg h1]; split <;> simp [h1]
      generalize cmpV v y = r at *
      have HCV := Lib.hid hcv
      clear hcv
      go_wp2
      refine wp_region_quiet_kept (by assumption) (by kernel_rfl) ?_
      repeat (first | go_big_quiet_step ((go_at_call 19; with_reducible exact Calls.kept_of (hC _))) | quiet_step ((go_at_call 19; with_reducible exact Calls.kept_of (hC _))))
      refine wpQuiet_nil ?_
      intro w4 hw'
      have hB : Below wr.heap.size wr w4 := by obtain ⟨⟨wk, hb0⟩, hw''⟩ := hw'; rw [hw'']; exact hb0
      clear hw' C0 C1 CX CY
      have hbx := hk1.far hB
      have hb0 := hk0.far hB
      have c0'' := (hB.cell (p := ⟨b, o + (k + 1) * 2, none⟩) hbr).trans c0'
      have c1'' := (hB.cell (p := ⟨b, o + (k + 1) * 2 + 1, none⟩) hbr).trans c1'
      have HB4 := Lib.hid (HB.out.trans (hB.mono (by rw [← hZ]; exact HB.out.size)))
      clear hB cx cy c0 c1 c0' c1' hk1 hk0 k1 HB hb' hC
      have hkw : IntKind.i64.wrap ((k : Int) + 1 + 1) = (k : Int) + 1 + 1 := IntWalk.i64_in _ (by omega)
      by_cases hvy : v < y
      · have HG2 := Lib.hid (show G (k + 1) = (u, v) by rw [hgx, if_pos hvy])
        have hr : r < 0 := by have := HCV.out; rw [decide_eq_true hvy] at this; simpa using this
        clear hgx hvy HCV
        have HX := Lib.hid (hbx.set (u := u) (v := v))
        have H0 := Lib.hid (hb0.apart (d := Z + 1) (u := u) (v := v) (by omega))
        have HB5 := Lib.hid ((HB4.out.setCell (p := ⟨Z + 1, 0, none⟩) (by simp) (.int .i64 u)).setCell (p := ⟨Z + 1, 1, none⟩) (by simp) (.int .i64 v))
        obtain ⟨x0', x1', xf0, xf1, xl⟩ := hbx
        clear hb0
        go_wp2
        go_roundw
        case rel => exact ⟨k + 1, u, v, by omega, by go_num, HG2, HX.out, H0.out, HB5⟩
        case measure => simp [intOf]; omega
      · have HG2 := Lib.hid (show G (k + 1) = (x, y) by rw [hgx, if_neg hvy])
        have hr : ¬ r < 0 := by have := HCV.out; rw [decide_eq_false hvy] at this; simpa using this
        clear hgx hvy HCV
        go_wp2
        go_roundw
        case rel => exact ⟨k + 1, x, y, by omega, by go_num, HG2, hbx, hb0, HB4⟩
        case measure => simp [intOf]; omega
    · obtain rfl : k = L := by omega
      have hnl : ¬ (k : Int) + 1 < (k : Int) + 1 := by omega
      have z0 := hk0.lt
      have HX := Lib.hid (hk0.set (u := x) (v := y))
      have HB5 := Lib.hid ((HB.out.setCell (p := ⟨Z, 0, none⟩) (by simp) (.int .i64 x)).setCell (p := ⟨Z, 1, none⟩) (by simp) (.int .i64 y))
      obtain ⟨x0', x1', xf0, xf1, xl⟩ := hk0
      clear hk1
      have HE := Lib.hid HG.out
      go_wp2
      rw [HG.out]
      obtain ⟨r0, r1, -, -, -⟩ := HX.out
      exact bodyPost_ret (v := .agg #[.int .i64 x, .int .i64 y]) (by simp [results, Try.results18, go_sem, r0, r1, x0', x1', xf0, xf1]) rfl ⟨rfl, by exact HB5.out⟩
end Go.Proofs.Ytkcfghbkcgommab.env
