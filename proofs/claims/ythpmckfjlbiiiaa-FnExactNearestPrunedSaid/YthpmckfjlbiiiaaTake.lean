/-
  Proved: what the program's function that hands out the lists that take part returns, and that its iterator hands out all of them, one after the other.
  Conditions: none.
-/
import Derived.Test.YthpmckfjlbiiiaaLowI
import Derived.Test.YthpmckfjlbiiiaaNearS
import Derived.Test.YthpmckfjlbiiiaaRound
import Derived.RangeFuncNested
import Derived.RangeFuncBound
import Derived.RangeFuncCalls
import Derived.RangeFuncLeaves
import Derived.Shelf.Abstract
import Derived.Shelf.RegionOpen
import Derived.WalkKit
import Derived.OwnWalkIn
import Derived.TacticsInMore
import Derived.LoopNIn
import Derived.LoopIn
import Derived.Maps.AppendAt
namespace Go.Proofs.Ythpmckfjlbiiiaa.env
open Go.ChangeShapes Go.WideShapes Go.ChangeAt Go.RowKit Go.Joins Go.Shelf
open Go.Proofs.Ythpmckfjlbiiiaa.core Go.Proofs.Ythpmckfjlbiiiaa.rown Go.Proofs.Ythpmckfjlbiiiaa.stk Go.Proofs.Ythpmckfjlbiiiaa.boxed Go.Proofs.Ythpmckfjlbiiiaa.ft Go.Proofs.Ythpmckfjlbiiiaa.seq Go.Proofs.Ythpmckfjlbiiiaa.tab Go.Proofs.Ythpmckfjlbiiiaa.dp
set_option linter.unusedVariables false
set_option linter.unusedSimpArgs false
attribute [local go_sem] Oper.semAt_some
theorem isNoI {c : Nat} (A : Option Addr) (n : Nat) (f : Nat → P3) (w : World) (hn : n ≤ 1048576) (hp : PtsAt w A n f) :
    Calls Try.prog 109 #[.slice A n c] w fun e w' => e = .returned (.bool (!okQ n f)) ∧ Below w.heap.size w w' := by
  have HC := Lib.hid (okQI (c := c) A n f w hn hp)
  clear hp
  generalize okQ n f = r at *
  go_enter Try.func109, Try.ntmps109
  go_wp2_with fail
  refine HC.out.mono ?_
  rintro e w1 ⟨rfl, hb⟩
  go_wp2
  go_ret
  exact ⟨rfl, hb⟩
set_option maxRecDepth 100000 in
set_option maxHeartbeats 2000000 in
theorem indexLI {cb : Nat} (B : Option Addr) (n : Nat) (ln : Nat → Nat) (lf : Nat → Nat → P3) (r : Bool) (w : World) (hn : n ≤ 1048576) (hl : ∀ i, i < n → ln i ≤ 1048576) (hr : r = true ↔ ∀ i, i < n → okQ (ln i) (lf i) = true) (hp : LsAt w B n ln lf) :
    Calls Try.prog 118 #[.slice B n cb, .func (.func 109) #[] #[]] w fun e w' => (∃ k : Int, e = .returned (.int .i64 k) ∧ decide (0 ≤ k) = !r) ∧ Below w.heap.size w w' := by
  have HP := Lib.hid hp
  have HR := Lib.hid hr
  have HLN := Lib.hid hl
  clear hp hr hl
  go_enter Try.func118, Try.ntmps118
  go_wp2
  go_loopw [8] (fun i w' => ∃ k : Nat, k ≤ n ∧ i = .int .i64 (k : Int) ∧ Hid (∀ j, j < k → okQ (ln j) (lf j) = true) ∧ Hid (Below w.heap.size w w')) (fun i _ => n - (intOf i).toNat)
  case atStart => exact ⟨0, Nat.zero_le _, rfl, Lib.hid (fun j hj => absurd hj (by omega)), Lib.hid (Below.refl _ _)⟩
  case round =>
    obtain ⟨k, hk, rfl, HE, HB⟩ := hrel
    by_cases hlt : k < n
    · obtain ⟨g, o, Ai, ci, rfl, hg, c0, hq⟩ := (HP.out.kept HB.out) k hlt
      have hli : (k : Int) < (n : Int) := by omega
      have HI := Lib.hid (isNoI (c := ci) Ai (ln k) (lf k) wr (HLN.out k hlt) hq)
      cases hi : okQ (ln k) (lf k) with
      | true =>
        have HE2 := Lib.hid (show ∀ j, j < k + 1 → okQ (ln j) (lf j) = true from fun j hj => by
          rcases Nat.lt_or_ge j k with h' | h'
          · exact HE.out j h'
          · obtain rfl : j = k := by omega
            exact hi)
        rw [hi] at HI
        clear hi hq HE
        generalize ln k = q at *
        go_wp2_with fail
        refine HI.out.mono ?_
        rintro e w2 ⟨rfl, hb2⟩
        have HB2 := Lib.hid (HB.out.trans (hb2.mono HB.out.size))
        clear hb2 c0 HI
        go_wp2
        go_roundw
        case rel => exact ⟨k + 1, by omega, by go_num, HE2, HB2⟩
        case measure => simp [intOf]; omega
      | false =>
        have HF := Lib.hid (show r = false by
          cases hh : r
          · rfl
          · have := HR.out.1 hh k hlt
            rw [hi] at this
            cases this)
        rw [hi] at HI
        clear hi hq HE
        generalize ln k = q at *
        go_wp2_with fail
        refine HI.out.mono ?_
        rintro e w2 ⟨rfl, hb2⟩
        have HB2 := Lib.hid (HB.out.trans (hb2.mono HB.out.size))
        clear hb2 c0 HI
        go_wp2
        go_ret
        exact ⟨⟨(k : Int), rfl, by rw [HF.out]; simp⟩, HB2.out⟩
    · have hxe : ¬ (k : Int) < (n : Int) := by omega
      have HF := Lib.hid (show r = true from HR.out.2 fun i hi => HE.out i (by omega))
      clear hlt
      go_wp2
      go_ret
      exact ⟨⟨-1, rfl, by rw [HF.out]; rfl⟩, HB.out⟩
theorem containsLI {cb : Nat} (B : Option Addr) (n : Nat) (ln : Nat → Nat) (lf : Nat → Nat → P3) (r : Bool) (w : World) (hn : n ≤ 1048576) (hl : ∀ i, i < n → ln i ≤ 1048576) (hr : r = true ↔ ∀ i, i < n → okQ (ln i) (lf i) = true) (hp : LsAt w B n ln lf) :
    Calls Try.prog 108 #[.slice B n cb, .func (.func 109) #[] #[]] w fun e w' => e = .returned (.bool (!r)) ∧ Below w.heap.size w w' := by
  have HC := Lib.hid (indexLI (cb := cb) B n ln lf r w hn hl hr hp)
  clear hr hp hl
  go_enter Try.func108, Try.ntmps108
  go_wp2_with fail
  refine HC.out.mono ?_
  rintro e w1 ⟨⟨k, rfl, hk⟩, hb⟩
  have HK := Lib.hid hk
  have HB := Lib.hid hb
  clear hk hb
  by_cases h : 0 ≤ k
  · have HK2 := Lib.hid (show true = !r by rw [← HK.out, decide_eq_true h])
    go_wp2
    go_ret
    exact ⟨by first | exact ret_bool HK2.out | exact ret_bool HK.out, HB.out⟩
  · have HK2 := Lib.hid (show false = !r by rw [← HK.out, decide_eq_false h])
    go_wp2
    go_ret
    exact ⟨by first | exact ret_bool HK2.out | exact ret_bool HK.out, HB.out⟩
/-- The three variables that the iterator holds: the list, the lists, the band. -/
abbrev tkA (A : Option Addr) (na ca : Nat) : Obj := .cells #[.slice A na ca] 29
abbrev tkL (B : Option Addr) (n cb : Nat) : Obj := .cells #[.slice B n cb] 52
abbrev tkD (band : Int) : Obj := .cells #[.int .i64 band] 2
structure Boxes (w W : World) (A B : Option Addr) (na n ca cb : Nat) (band : Int) : Prop where
  ha : W.heap[w.heap.size]? = some (.cells #[.slice A na ca] 29 (0, 0))
  hl : W.heap[w.heap.size + 1]? = some (.cells #[.slice B n cb] 52 (0, 0))
  hd : W.heap[w.heap.size + 2]? = some (.cells #[.int .i64 band] 2 (0, 0))
  bel : Below w.heap.size w W
theorem Boxes.lt {w W : World} {A B : Option Addr} {na n ca cb : Nat} {band : Int} (h : Boxes w W A B na n ca cb band) : w.heap.size + 2 < W.heap.size := block_size h.hd
theorem Boxes.kept {w W W' : World} {A B : Option Addr} {na n ca cb : Nat} {band : Int} (h : Boxes w W A B na n ca cb band) (hb : Below W.heap.size W W') : Boxes w W' A B na n ca cb band := by
  have hz := h.lt
  exact ⟨(hb.block _ (by omega)).trans h.ha, (hb.block _ (by omega)).trans h.hl, (hb.block _ (by omega)).trans h.hd, h.bel.trans (hb.mono h.bel.size)⟩
theorem boxes0 (w : World) (A B : Option Addr) (na n ca cb : Nat) (band : Int) : Boxes w (((w.alloc (tkA A na ca)).alloc (tkL B n cb)).alloc (tkD band)) A B na n ca cb band := by
  refine ⟨?_, ?_, ?_, (below_alloc2 w _ _).trans ((below_alloc1 _ _).mono (by simp; omega))⟩
  · rw [Below.heap_alloc _ _ _ (by simp; omega), Below.heap_alloc _ _ _ (by simp)]; exact heap_alloc_new _ _
  · rw [Below.heap_alloc _ _ _ (by simp)]
    have := heap_alloc_new (w.alloc (tkA A na ca)) (tkL B n cb)
    simpa using this
  · have := heap_alloc_new ((w.alloc (tkA A na ca)).alloc (tkL B n cb)) (tkD band)
    simpa using this
theorem Boxes.cells {w W : World} {A B : Option Addr} {na n ca cb : Nat} {band : Int} (h : Boxes w W A B na n ca cb band) : W.cell? ⟨w.heap.size, 0, none⟩ = some (.slice A na ca) ∧ W.cell? ⟨w.heap.size + 1, 0, none⟩ = some (.slice B n cb) ∧ W.cell? ⟨w.heap.size + 2, 0, none⟩ = some (.int .i64 band) := by
  refine ⟨?_, ?_, ?_⟩
  · rw [cell_of_block h.ha]; rfl
  · rw [cell_of_block h.hl]; rfl
  · rw [cell_of_block h.hd]; rfl
set_option maxRecDepth 100000 in
set_option maxHeartbeats 8000000 in
theorem takingI_no {ca cb : Nat} (A B : Option Addr) (na n : Nat) (fa : Nat → P3) (ln : Nat → Nat) (lf : Nat → Nat → P3) (band : Int) (w : World) (ha : na ≤ 1048576) (hn : n ≤ 1048576) (hl : ∀ i, i < n → ln i ≤ 1048576) (pa : PtsAt w A na fa) (pb : LsAt w B n ln lf) (h0 : liC na fa n ln lf band ≠ 0) :
    Calls Try.prog 83 #[.slice A na ca, .slice B n cb, .int .i64 band] w fun e w' => e = .returned (.tuple #[Value.nilFunc, .int .i64 (liC na fa n ln lf band)]) ∧ Below w.heap.size w w' := by
  have HBX := Lib.hid (boxes0 w A B na n ca cb band)
  obtain ⟨w0, hw0⟩ : ∃ v, v = ((w.alloc (tkA A na ca)).alloc (tkL B n cb)).alloc (tkD band) := ⟨_, rfl⟩
  rw [← hw0] at HBX
  have HQ := Lib.hid (okQI (c := ca) A na fa w0 ha (pa.kept HBX.out.bel))
  have HPB := Lib.hid (pb.kept HBX.out.bel)
  have hz := HBX.out.lt
  obtain ⟨c0, c1, c2⟩ := HBX.out.cells
  have HW0 := Lib.hid hw0
  have HLN := Lib.hid hl
  have HNO := Lib.hid h0
  clear hw0 pa pb hl h0
  cases va : okQ na fa with
  | false =>
    have HC := Lib.hid (show liC na fa n ln lf band = 1 by unfold liC; rw [if_neg (fun h => by have := (li_iff.1 h).1; rw [va] at this; cases this)])
    rw [va] at HQ
    rw [HC.out]
    clear va HC
    have hu : undef = Value.tuple #[] := rfl
    go_enter Try.func83, Try.ntmps83
    go_wp2_with fail
    rw [← HW0.out]
    refine HQ.out.mono ?_
    rintro e w1 ⟨rfl, hb⟩
    have B1 := Lib.hid (HBX.out.bel.trans (hb.mono HBX.out.bel.size))
    clear hb c0 c1 c2 hz
    go_wp2
    go_ret2
    exact ⟨rfl, B1.out⟩
  | true =>
    rw [va] at HQ
    by_cases h40 : 40 < n
    · have HC := Lib.hid (show liC na fa n ln lf band = 1 by unfold liC; rw [if_neg (fun h => by have := (li_iff.1 h).2.1; omega)])
      have h40i : (40 : Int) < (n : Int) := by omega
      have h40d : decide ((40 : Int) < (n : Int)) = true := decide_eq_true h40i
      rw [HC.out]
      clear va HC h40
      have hu : undef = Value.tuple #[] := rfl
      go_enter Try.func83, Try.ntmps83
      go_wp2_with fail
      rw [← HW0.out]
      refine HQ.out.mono ?_
      rintro e w1 ⟨rfl, hb⟩
      have HB1 := Lib.hid (HBX.out.kept hb)
      obtain ⟨d0, d1, d2⟩ := HB1.out.cells
      have hz1 := HB1.out.lt
      clear hb c0 c1 c2 hz
      go_wp2
      go_ret2
      exact ⟨rfl, HB1.out.bel⟩
    · have h40i : ¬ (40 : Int) < (n : Int) := by omega
      have h40d : decide ((40 : Int) < (n : Int)) = false := decide_eq_false h40i
      obtain ⟨r, hr⟩ : ∃ r : Bool, r = true ↔ ∀ i, i < n → okQ (ln i) (lf i) = true := ⟨@decide _ (Classical.propDecidable _), @decide_eq_true_iff _ (Classical.propDecidable _)⟩
      have HCO := Lib.hid (fun W (hW : Below w0.heap.size w0 W) => containsLI (cb := cb) B n ln lf r W hn HLN.out hr (HPB.out.kept hW))
      cases r with
      | false =>
        have HC := Lib.hid (show liC na fa n ln lf band = 1 by unfold liC; rw [if_neg (fun h => by have := hr.2 (li_iff.1 h).2.2; cases this)])
        rw [HC.out]
        clear va HC h40 hr
        have hu : undef = Value.tuple #[] := rfl
        go_enter Try.func83, Try.ntmps83
        go_wp2_with fail
        rw [← HW0.out]
        refine HQ.out.mono ?_
        rintro e w1 ⟨rfl, hb⟩
        have HB1 := Lib.hid (HBX.out.kept hb)
        have HCO1 := Lib.hid (HCO.out w1 hb)
        obtain ⟨d0, d1, d2⟩ := HB1.out.cells
        have hz1 := HB1.out.lt
        clear hb c0 c1 c2 hz
        go_wp2_with fail
        refine HCO1.out.mono ?_
        rintro e w2 ⟨rfl, hb⟩
        have HB2 := Lib.hid (HB1.out.kept hb)
        clear hb d0 d1 d2 hz1
        go_wp2
        go_ret2
        exact ⟨rfl, HB2.out.bel⟩
      | true =>
        have hok : liOk na fa n ln lf = true := li_iff.2 ⟨va, by omega, hr.1 rfl⟩
        have hbd : ¬ (0 ≤ band ∧ band ≤ 72) := fun h => HNO.out (by unfold liC; rw [if_pos hok, if_pos h])
        have HC := Lib.hid (show liC na fa n ln lf band = 2 by unfold liC; rw [if_pos hok, if_neg hbd])
        rw [HC.out]
        clear va HC h40 hr hok
        have hu : undef = Value.tuple #[] := rfl
        by_cases hb0 : band < 0
        · have b0d : decide (band < 0) = true := decide_eq_true hb0
          clear hbd
          go_enter Try.func83, Try.ntmps83
          go_wp2_with fail
          rw [← HW0.out]
          refine HQ.out.mono ?_
          rintro e w1 ⟨rfl, hb⟩
          have HB1 := Lib.hid (HBX.out.kept hb)
          have HCO1 := Lib.hid (HCO.out w1 hb)
          obtain ⟨d0, d1, d2⟩ := HB1.out.cells
          have hz1 := HB1.out.lt
          clear hb c0 c1 c2 hz
          go_wp2_with fail
          refine HCO1.out.mono ?_
          rintro e w2 ⟨rfl, hb⟩
          have HB2 := Lib.hid (HB1.out.kept hb)
          clear d0 d1 d2 hz1
          obtain ⟨d0, d1, d2⟩ := HB2.out.cells
          have hz2 := HB2.out.lt
          clear hb
          go_wp2
          go_ret2
          exact ⟨rfl, HB2.out.bel⟩
        · have b0d : decide (band < 0) = false := decide_eq_false hb0
          have hb72 : 72 < band := by omega
          have b72d : decide (72 < band) = true := decide_eq_true hb72
          clear hbd
          go_enter Try.func83, Try.ntmps83
          go_wp2_with fail
          rw [← HW0.out]
          refine HQ.out.mono ?_
          rintro e w1 ⟨rfl, hb⟩
          have HB1 := Lib.hid (HBX.out.kept hb)
          have HCO1 := Lib.hid (HCO.out w1 hb)
          obtain ⟨d0, d1, d2⟩ := HB1.out.cells
          have hz1 := HB1.out.lt
          clear hb c0 c1 c2 hz
          go_wp2_with fail
          refine HCO1.out.mono ?_
          rintro e w2 ⟨rfl, hb⟩
          have HB2 := Lib.hid (HB1.out.kept hb)
          clear d0 d1 d2 hz1
          obtain ⟨d0, d1, d2⟩ := HB2.out.cells
          have hz2 := HB2.out.lt
          clear hb
          go_wp2
          go_ret2
          exact ⟨rfl, HB2.out.bel⟩
set_option maxRecDepth 100000 in
set_option maxHeartbeats 8000000 in
theorem takingI_yes {ca cb : Nat} (A B : Option Addr) (na n : Nat) (fa : Nat → P3) (ln : Nat → Nat) (lf : Nat → Nat → P3) (band : Int) (w : World) (ha : na ≤ 1048576) (hn : n ≤ 1048576) (hl : ∀ i, i < n → ln i ≤ 1048576) (pa : PtsAt w A na fa) (pb : LsAt w B n ln lf) (h0 : liC na fa n ln lf band = 0) :
    Calls Try.prog 83 #[.slice A na ca, .slice B n cb, .int .i64 band] w fun e w' => e = .returned (.tuple #[.func (.func 110) #[] #[.pointer (some ⟨w.heap.size + 1, 0, none⟩), .pointer (some ⟨w.heap.size, 0, none⟩), .pointer (some ⟨w.heap.size + 2, 0, none⟩)], .int .i64 0]) ∧ Boxes w w' A B na n ca cb band := by
  obtain ⟨⟨va, hn40, vl⟩, hbd⟩ := liC_of h0
  have HBX := Lib.hid (boxes0 w A B na n ca cb band)
  obtain ⟨w0, hw0⟩ : ∃ v, v = ((w.alloc (tkA A na ca)).alloc (tkL B n cb)).alloc (tkD band) := ⟨_, rfl⟩
  rw [← hw0] at HBX
  have HQ := Lib.hid (okQI (c := ca) A na fa w0 ha (pa.kept HBX.out.bel))
  rw [va] at HQ
  have HPB := Lib.hid (pb.kept HBX.out.bel)
  have HCO := Lib.hid (fun W (hW : Below w0.heap.size w0 W) => containsLI (cb := cb) B n ln lf true W hn hl ⟨fun _ => vl, fun _ => rfl⟩ (HPB.out.kept hW))
  have hz := HBX.out.lt
  obtain ⟨c0, c1, c2⟩ := HBX.out.cells
  have HW0 := Lib.hid hw0
  have h40i : ¬ (40 : Int) < (n : Int) := by omega
  have h40d : decide ((40 : Int) < (n : Int)) = false := decide_eq_false h40i
  have hb0 : ¬ band < 0 := by omega
  have b0d : decide (band < 0) = false := decide_eq_false hb0
  have hb72 : ¬ 72 < band := by omega
  have b72d : decide (72 < band) = false := decide_eq_false hb72
  have hu : undef = Value.tuple #[] := rfl
  clear hw0 pa pb hl h0 va vl hbd
  go_enter Try.func83, Try.ntmps83
  go_wp2_with fail
  rw [← HW0.out]
  refine HQ.out.mono ?_
  rintro e w1 ⟨rfl, hb⟩
  have HB1 := Lib.hid (HBX.out.kept hb)
  have HCO1 := Lib.hid (HCO.out w1 hb)
  obtain ⟨d0, d1, d2⟩ := HB1.out.cells
  have hz1 := HB1.out.lt
  clear hb c0 c1 c2 hz
  go_wp2_with fail
  refine HCO1.out.mono ?_
  rintro e w2 ⟨rfl, hb⟩
  have HB2 := Lib.hid (HB1.out.kept hb)
  clear d0 d1 d2 hz1
  obtain ⟨d0, d1, d2⟩ := HB2.out.cells
  have hz2 := HB2.out.lt
  clear hb
  go_wp2
  go_ret2
  exact ⟨rfl, HB2.out⟩
end Go.Proofs.Ythpmckfjlbiiiaa.env
