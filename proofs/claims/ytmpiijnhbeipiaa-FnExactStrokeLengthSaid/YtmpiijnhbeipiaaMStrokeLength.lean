/-
  Proved: both functions return the same length of a stroke.
  Conditions: none.
-/
import Derived.Test.YtmpiijnhbeipiaaLenI
namespace Go.Proofs.Ytmpiijnhbeipiaa.wStrokeLength
open Go.ChangeShapes Go.WideShapes Go.ChangeAt Go.RowKit Go.Joins
open Go.Proofs.Ytmpiijnhbeipiaa.core Go.Proofs.Ytmpiijnhbeipiaa.geoM Go.Proofs.Ytmpiijnhbeipiaa.stk Go.Proofs.Ytmpiijnhbeipiaa.seg Go.Proofs.Ytmpiijnhbeipiaa.side Go.Proofs.Ytmpiijnhbeipiaa.all Go.Proofs.Ytmpiijnhbeipiaa.lenS Go.Proofs.Ytmpiijnhbeipiaa.segs Go.Proofs.Ytmpiijnhbeipiaa.lenI
set_option linter.unusedVariables false
set_option linter.unusedSimpArgs false
set_option maxRecDepth 100000 in
set_option maxHeartbeats 2000000 in
theorem spec_no {c : Nat} (A : Option Addr) (n : Nat) (pts : Nat → P3) (w : World) (hcap : n ≤ 1048576) (hp : PtsAt w A n pts) (hv : vS n pts = false) :
    Calls Try.prog 20 #[.agg #[.slice A n c]] w fun e w' => e = .returned (.tuple #[.int .i64 0, .int .i64 1]) ∧ Below w.heap.size w w' := by
  have B0 := Lib.hid (below_alloc1 w (.cells #[.slice A n c] 38))
  have HS := Lib.hid (l02Stroke_calls (c := c) (o := 0) A w.heap.size n pts (w.alloc (.cells #[.slice A n c] 38)) hcap (by simp) (by simp) (hp.kept B0.out))
  rw [hv] at HS
  clear hp hv
  go_enter Try.func20, Try.ntmps20
  go_wp2_with fail
  refine HS.out.mono ?_
  rintro e w1 ⟨rfl, hb1⟩
  have B1 := Lib.hid (B0.out.trans (hb1.mono B0.out.size))
  clear hb1 HS
  go_wp2
  go_ret2
  exact ⟨rfl, B1.out⟩
set_option maxRecDepth 100000 in
set_option maxHeartbeats 2000000 in
theorem impl_no {c : Nat} (A : Option Addr) (n : Nat) (pts : Nat → P3) (w : World) (hcap : n ≤ 1048576) (hp : PtsAt w A n pts) (hv : vS n pts = false) :
    Calls Try.prog 22 #[.agg #[.slice A n c]] w fun e w' => e = .returned (.tuple #[.int .i64 0, .int .i64 1]) ∧ Below w.heap.size w w' := by
  have B0 := Lib.hid (below_alloc1 w (.cells #[.slice A n c] 38))
  have HS := Lib.hid (implValid_calls (c := c) A n pts (w.alloc (.cells #[.slice A n c] 38)) hcap (hp.kept B0.out))
  rw [hv] at HS
  clear hp hv
  go_enter Try.func22, Try.ntmps22
  go_wp2_with fail
  refine HS.out.mono ?_
  rintro e w1 ⟨rfl, hb1⟩
  have B1 := Lib.hid (B0.out.trans (hb1.mono B0.out.size))
  clear hb1 HS
  go_wp2
  go_ret2
  exact ⟨rfl, B1.out⟩
set_option maxRecDepth 100000 in
set_option maxHeartbeats 2000000 in
theorem spec_yes {c : Nat} (A : Option Addr) (n : Nat) (pts : Nat → P3) (w : World) (hcap : n ≤ 1048576) (hp : PtsAt w A n pts) (hv : vS n pts = true) :
    Calls Try.prog 20 #[.agg #[.slice A n c]] w fun e w' => e = .returned (.tuple #[.int .i64 (lens pts (n - 1) : Nat), .int .i64 0]) ∧ Below w.heap.size w w' := by
  obtain ⟨h1, h60, -⟩ := vS_of hv
  have hr := vS_rg hv
  have B0 := Lib.hid (below_alloc1 w (.cells #[.slice A n c] 38))
  have HS := Lib.hid (l02Stroke_calls (c := c) (o := 0) A w.heap.size n pts (w.alloc (.cells #[.slice A n c] 38)) hcap (by simp) (by simp) (hp.kept B0.out))
  rw [hv] at HS
  have HP := Lib.hid (hp.kept B0.out)
  have HR := Lib.hid hr
  clear hp hv hr
  go_enter Try.func20, Try.ntmps20
  go_wp2_with fail
  refine HS.out.mono ?_
  rintro e w1 ⟨rfl, hb1⟩
  have c0 := (hb1.cell (p := ⟨w.heap.size, 0, none⟩) (by simp)).trans (show _ = some (.slice A n c) by simp)
  have z1 : w.heap.size < w1.heap.size := by have := hb1.size; simp at this; omega
  have B1 := Lib.hid (B0.out.trans (hb1.mono B0.out.size))
  have HP1 := Lib.hid (HP.out.kept hb1)
  clear hb1 HS HP
  go_wp2_with fail
  refine (specSum (c := c) (o := 0) A w.heap.size n pts w1 h1 h60 HR.out z1 c0 HP1.out).mono ?_
  rintro e w2 ⟨rfl, hb2⟩
  have B2 := Lib.hid (B1.out.trans (hb2.mono B1.out.size))
  clear hb2 c0
  go_wp2
  go_ret2
  exact ⟨rfl, B2.out⟩
set_option maxRecDepth 100000 in
set_option maxHeartbeats 2000000 in
theorem impl_yes {c : Nat} (A : Option Addr) (n : Nat) (pts : Nat → P3) (w : World) (hcap : n ≤ 1048576) (hp : PtsAt w A n pts) (hv : vS n pts = true) :
    Calls Try.prog 22 #[.agg #[.slice A n c]] w fun e w' => e = .returned (.tuple #[.int .i64 (lens pts (n - 1) : Nat), .int .i64 0]) ∧ Below w.heap.size w w' := by
  obtain ⟨h1, h60, -⟩ := vS_of hv
  have hr := vS_rg hv
  have B0 := Lib.hid (below_alloc1 w (.cells #[.slice A n c] 38))
  have HS := Lib.hid (implValid_calls (c := c) A n pts (w.alloc (.cells #[.slice A n c] 38)) hcap (hp.kept B0.out))
  rw [hv] at HS
  have HP := Lib.hid (hp.kept B0.out)
  have HR := Lib.hid hr
  clear hp hv hr
  go_enter Try.func22, Try.ntmps22
  go_wp2_with fail
  refine HS.out.mono ?_
  rintro e w1 ⟨rfl, hb1⟩
  have c0 := (hb1.cell (p := ⟨w.heap.size, 0, none⟩) (by simp)).trans (show _ = some (.slice A n c) by simp)
  have z1 : w.heap.size < w1.heap.size := by have := hb1.size; simp at this; omega
  have B1 := Lib.hid (B0.out.trans (hb1.mono B0.out.size))
  have HP1 := Lib.hid (HP.out.kept hb1)
  clear hb1 HS HP
  go_wp2_with fail
  refine (lenI.length_calls (c := c) A n pts w1 h1 h60 HR.out HP1.out).mono ?_
  rintro e w2 ⟨rfl, hb2⟩
  have B2 := Lib.hid (B1.out.trans (hb2.mono B1.out.size))
  clear hb2 c0
  go_wp2
  go_ret2
  exact ⟨rfl, B2.out⟩
theorem meat (vs0 : Nat → Value) (g0 : Nat → Dat) (ht0 : tyrStroke g0) :
    costRec 1 g0 ≤ 1048576 → ∃ (r0 : Int) (r1 : Int), (∀ (W : World) (us0 : Nat → Value), ReadsRec W 1 us0 g0 → Calls Try.prog 20 #[.agg #[us0 0]] W fun e W' => e = .returned (.tuple #[.int .i64 r0, .int .i64 r1]) ∧ Below W.heap.size W W') ∧ (∀ (W : World) (us0 : Nat → Value), ReadsRec W 1 us0 g0 → Calls Try.prog 22 #[.agg #[us0 0]] W fun e W' => e = .returned (.tuple #[.int .i64 r0, .int .i64 r1]) ∧ Below W.heap.size W W') := by
  intro hq
  cases hv : vS (strN g0) (strP g0) with
  | true => exact ⟨_, _, fun W us0 h0 => by
      obtain ⟨A, c, e, hn, hp⟩ := reads_str h0 ht0 hq
      rw [e]; exact spec_yes A _ _ W hn hp hv, fun W us0 h0 => by
      obtain ⟨A, c, e, hn, hp⟩ := reads_str h0 ht0 hq
      rw [e]; exact impl_yes A _ _ W hn hp hv⟩
  | false => exact ⟨_, _, fun W us0 h0 => by
      obtain ⟨A, c, e, hn, hp⟩ := reads_str h0 ht0 hq
      rw [e]; exact spec_no A _ _ W hn hp hv, fun W us0 h0 => by
      obtain ⟨A, c, e, hn, hp⟩ := reads_str h0 ht0 hq
      rw [e]; exact impl_no A _ _ W hn hp hv⟩
end Go.Proofs.Ytmpiijnhbeipiaa.wStrokeLength
