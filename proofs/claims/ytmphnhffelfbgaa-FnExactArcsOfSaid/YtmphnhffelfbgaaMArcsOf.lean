/-
  Proved: both functions that tell the lengths of a stroke up to its points return the same list, in memory of its own.
  Conditions: none.
-/
import Derived.Test.YtmphnhffelfbgaaArcs
import Derived.Test.YtmphnhffelfbgaaWid
namespace Go.Proofs.Ytmphnhffelfbgaa.wArcsOf
open Go.ChangeShapes Go.WideShapes Go.ChangeAt Go.RowKit Go.Joins
open Go.Proofs.Ytmphnhffelfbgaa.core Go.Proofs.Ytmphnhffelfbgaa.geoM Go.Proofs.Ytmphnhffelfbgaa.stk Go.Proofs.Ytmphnhffelfbgaa.seg Go.Proofs.Ytmphnhffelfbgaa.side Go.Proofs.Ytmphnhffelfbgaa.all Go.Proofs.Ytmphnhffelfbgaa.lenS Go.Proofs.Ytmphnhffelfbgaa.segs Go.Proofs.Ytmphnhffelfbgaa.lenI Go.Proofs.Ytmphnhffelfbgaa.rown Go.Proofs.Ytmphnhffelfbgaa.arcs
set_option linter.unusedVariables false
set_option linter.unusedSimpArgs false
theorem in_yes {n : Nat} (pts : Nat → P3) (hv : vS n pts = true) : ∀ i j, i < n → j < 1 → inI64 (fi pts i j) := fun i j hi hj => by
  have h60 := (vS_of hv).2.1
  have := lens_le (vS_rg hv) i hi
  unfold fi inI64
  omega
theorem in_no {n : Nat} (pts : Nat → P3) (hv : vS n pts = false) : ∀ i j, i < 0 → j < 1 → inI64 (fi pts i j) := fun i j hi _ => absurd hi (by omega)
theorem le_yes {n : Nat} (pts : Nat → P3) (hv : vS n pts = true) : n * 1 ≤ 1000 := by have := (vS_of hv).2.1; omega
theorem le_no {n : Nat} (pts : Nat → P3) (hv : vS n pts = false) : 0 * 1 ≤ 1000 := by omega
theorem ty_of (n : Nat) (f : Nat → Nat → Int) : tyrInt64S (datRows n 1 f) := ⟨n, _, rfl, fun i _ => ⟨_, rfl⟩⟩
set_option maxRecDepth 100000 in
set_option maxHeartbeats 4000000 in
theorem spec_no {c : Nat} (A : Option Addr) (n : Nat) (pts : Nat → P3) (w : World) (hcap : n ≤ 1048576) (hp : PtsAt w A n pts) (hv : vS n pts = false) :
    Calls Try.prog 22 #[.agg #[.slice A n c]] w fun e w' => ∃ v, e = .returned (.tuple #[v, .int .i64 1]) ∧ w'.ownsRow w.heap.size 2 1 v (0) (rws (arc pts) (0)) ∧ Below w.heap.size w w' := by
  have B0 := Lib.hid (below_alloc1 w (.cells #[.slice A n c] 31))
  have HS := Lib.hid (l02Stroke_calls (c := c) (o := 0) A w.heap.size n pts (w.alloc (.cells #[.slice A n c] 31)) hcap (by simp) (by simp) (hp.kept B0.out))
  rw [hv] at HS
  clear hp hv
  go_enter Try.func22, Try.ntmps22
  go_wp2_with fail
  refine HS.out.mono ?_
  rintro e w1 ⟨rfl, hb1⟩
  have B1 := Lib.hid (B0.out.trans (hb1.mono B0.out.size))
  clear hb1 HS
  go_wp2
  go_ret2
  exact ⟨.slice none 0 0, rfl, World.ownsRow_nil _ _ _ _, B1.out⟩
set_option maxRecDepth 100000 in
set_option maxHeartbeats 4000000 in
theorem impl_no {c : Nat} (A : Option Addr) (n : Nat) (pts : Nat → P3) (w : World) (hcap : n ≤ 1048576) (hp : PtsAt w A n pts) (hv : vS n pts = false) :
    Calls Try.prog 23 #[.agg #[.slice A n c]] w fun e w' => ∃ v, e = .returned (.tuple #[v, .int .i64 1]) ∧ w'.ownsRow w.heap.size 2 1 v (0) (rws (arc pts) (0)) ∧ Below w.heap.size w w' := by
  have B0 := Lib.hid (below_alloc1 w (.cells #[.slice A n c] 31))
  have HS := Lib.hid (implValid_calls (c := c) A n pts (w.alloc (.cells #[.slice A n c] 31)) hcap (hp.kept B0.out))
  rw [hv] at HS
  clear hp hv
  go_enter Try.func23, Try.ntmps23
  go_wp2_with fail
  refine HS.out.mono ?_
  rintro e w1 ⟨rfl, hb1⟩
  have B1 := Lib.hid (B0.out.trans (hb1.mono B0.out.size))
  clear hb1 HS
  go_wp2
  go_ret2
  exact ⟨.slice none 0 0, rfl, World.ownsRow_nil _ _ _ _, B1.out⟩
set_option maxRecDepth 100000 in
set_option maxHeartbeats 4000000 in
theorem spec_yes {c : Nat} (A : Option Addr) (n : Nat) (pts : Nat → P3) (w : World) (hcap : n ≤ 1048576) (hp : PtsAt w A n pts) (hv : vS n pts = true) :
    Calls Try.prog 22 #[.agg #[.slice A n c]] w fun e w' => ∃ v, e = .returned (.tuple #[v, .int .i64 0]) ∧ w'.ownsRow w.heap.size 2 1 v (n) (rws (arc pts) (n)) ∧ Below w.heap.size w w' := by
  obtain ⟨h1, h60, -⟩ := vS_of hv
  have HR := Lib.hid (vS_rg hv)
  have HV := Lib.hid hv
  have B0 := Lib.hid (below_alloc1 w (.cells #[.slice A n c] 31))
  have HS := Lib.hid (l02Stroke_calls (c := c) (o := 0) A w.heap.size n pts (w.alloc (.cells #[.slice A n c] 31)) hcap (by simp) (by simp) (hp.kept B0.out))
  rw [hv] at HS
  have HP := Lib.hid (hp.kept B0.out)
  clear hp hv
  go_enter Try.func22, Try.ntmps22
  go_wp2_with fail
  refine HS.out.mono ?_
  rintro e w1 ⟨rfl, hb1⟩
  have C0 := Lib.hid ((hb1.cell (p := ⟨w.heap.size, 0, none⟩) (by simp)).trans (show _ = some (.slice A n c) by simp))
  have Z1 := Lib.hid (show w.heap.size < w1.heap.size by have := hb1.size; simp at this; omega)
  have B1 := Lib.hid (B0.out.trans (hb1.mono B0.out.size))
  have HP1 := Lib.hid (HP.out.kept hb1)
  clear hb1 HS HP B0
  have c0 := C0.out
  go_wp2_with fail
  refine (specArcs (c := c) (o := 0) A w.heap.size n pts w1 h1 h60 HR.out Z1.out C0.out HP1.out).mono ?_
  rintro e w2 ⟨v, rfl, ho, hb2⟩
  have B2 := Lib.hid (B1.out.trans (hb2.mono B1.out.size))
  have HO := Lib.hid (row_low ho (Nat.le_of_lt Z1.out))
  clear hb2 c0 ho
  go_wp2
  go_ret2
  exact ⟨_, rfl, HO.out, B2.out⟩
set_option maxRecDepth 100000 in
set_option maxHeartbeats 4000000 in
theorem impl_yes {c : Nat} (A : Option Addr) (n : Nat) (pts : Nat → P3) (w : World) (hcap : n ≤ 1048576) (hp : PtsAt w A n pts) (hv : vS n pts = true) :
    Calls Try.prog 23 #[.agg #[.slice A n c]] w fun e w' => ∃ v, e = .returned (.tuple #[v, .int .i64 0]) ∧ w'.ownsRow w.heap.size 2 1 v (n) (rws (arc pts) (n)) ∧ Below w.heap.size w w' := by
  obtain ⟨h1, h60, -⟩ := vS_of hv
  have HR := Lib.hid (vS_rg hv)
  have HV := Lib.hid hv
  have B0 := Lib.hid (below_alloc1 w (.cells #[.slice A n c] 31))
  have HS := Lib.hid (implValid_calls (c := c) A n pts (w.alloc (.cells #[.slice A n c] 31)) hcap (hp.kept B0.out))
  rw [hv] at HS
  have HP := Lib.hid (hp.kept B0.out)
  clear hp hv
  go_enter Try.func23, Try.ntmps23
  go_wp2_with fail
  refine HS.out.mono ?_
  rintro e w1 ⟨rfl, hb1⟩
  have C0 := Lib.hid ((hb1.cell (p := ⟨w.heap.size, 0, none⟩) (by simp)).trans (show _ = some (.slice A n c) by simp))
  have Z1 := Lib.hid (show w.heap.size < w1.heap.size by have := hb1.size; simp at this; omega)
  have B1 := Lib.hid (B0.out.trans (hb1.mono B0.out.size))
  have HP1 := Lib.hid (HP.out.kept hb1)
  clear hb1 HS HP B0
  have c0 := C0.out
  go_wp2_with fail
  refine (implArcs (c := c) A n pts w1 h1 h60 HR.out HP1.out).mono ?_
  rintro e w2 ⟨v, rfl, ho, hb2⟩
  have B2 := Lib.hid (B1.out.trans (hb2.mono B1.out.size))
  have HO := Lib.hid (row_low ho (Nat.le_of_lt Z1.out))
  clear hb2 c0 ho
  go_wp2
  go_ret2
  exact ⟨_, rfl, HO.out, B2.out⟩
theorem meat (vs0 : Nat → Value) (g0 : Nat → Dat) (ht0 : tyrStroke g0) :
    costRec 1 g0 ≤ 1048576 → ∃ (R : Nat → Dat) (r1 : Int), tyrInt64S R ∧ cntRec 1 R ≤ 100000000000 ∧ (∀ (W : World) (us0 : Nat → Value), ReadsRec W 1 us0 g0 → Calls Try.prog 22 #[.agg #[us0 0]] W fun e W' => ∃ xs : Nat → Value, e = .returned (.tuple #[xs 0, .int .i64 r1]) ∧ OwnRec W' 1 xs R (iv W.heap.size W'.heap.size) ∧ Below W.heap.size W W') ∧ (∀ (W : World) (us0 : Nat → Value), ReadsRec W 1 us0 g0 → Calls Try.prog 23 #[.agg #[us0 0]] W fun e W' => ∃ xs : Nat → Value, e = .returned (.tuple #[xs 0, .int .i64 r1]) ∧ OwnRec W' 1 xs R (iv W.heap.size W'.heap.size) ∧ Below W.heap.size W W') := by
  intro hq
  cases hv : vS (strN g0) (strP g0) with
  | true =>
    have hin := in_yes (strP g0) hv
    refine ⟨datRows (strN g0) 1 (fi (strP g0)), 0, ty_of _ _, Nat.le_trans (datRows_cnt _ _ _) (by have := le_yes (strP g0) hv; omega), fun W us0 h0 => by
        obtain ⟨A, c, e, hn, hp⟩ := reads_str h0 ht0 hq
        rw [e]; exact fin (T := fun v => .tuple #[v, .int .i64 0]) (row_len (strP g0)) (row_get (strP g0)) (hin) (spec_yes A _ _ W hn hp hv), fun W us0 h0 => by
        obtain ⟨A, c, e, hn, hp⟩ := reads_str h0 ht0 hq
        rw [e]; exact fin (T := fun v => .tuple #[v, .int .i64 0]) (row_len (strP g0)) (row_get (strP g0)) (hin) (impl_yes A _ _ W hn hp hv)⟩
  | false =>
    have hin := in_no (strP g0) hv
    refine ⟨datRows (0) 1 (fi (strP g0)), 1, ty_of _ _, Nat.le_trans (datRows_cnt _ _ _) (by have := le_no (strP g0) hv; omega), fun W us0 h0 => by
        obtain ⟨A, c, e, hn, hp⟩ := reads_str h0 ht0 hq
        rw [e]; exact fin (T := fun v => .tuple #[v, .int .i64 1]) (row_len (strP g0)) (row_get (strP g0)) (hin) (spec_no A _ _ W hn hp hv), fun W us0 h0 => by
        obtain ⟨A, c, e, hn, hp⟩ := reads_str h0 ht0 hq
        rw [e]; exact fin (T := fun v => .tuple #[v, .int .i64 1]) (row_len (strP g0)) (row_get (strP g0)) (hin) (impl_no A _ _ W hn hp hv)⟩
end Go.Proofs.Ytmphnhffelfbgaa.wArcsOf
