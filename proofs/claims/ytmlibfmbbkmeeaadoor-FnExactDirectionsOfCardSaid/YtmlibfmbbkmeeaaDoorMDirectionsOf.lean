/-
  Proved: both functions that list the directions of a stroke return the same list, in memory of its own.
  Conditions: the table of directions holds what the program's text lays in it.
-/
import Derived.Test.YtmlibfmbbkmeeaaDoorDirJ
import Derived.Test.YtmlibfmbbkmeeaaDoorLenI
import Derived.Test.YtmlibfmbbkmeeaaDoorRowN
import Derived.Test.YtmlibfmbbkmeeaaDoorWid
namespace Go.Proofs.YtmlibfmbbkmeeaaDoor.wDirectionsOf
open Go.ChangeShapes Go.WideShapes Go.ChangeAt Go.RowKit Go.Joins
open Go.Proofs.YtmlibfmbbkmeeaaDoor.core Go.Proofs.YtmlibfmbbkmeeaaDoor.geoM Go.Proofs.YtmlibfmbbkmeeaaDoor.stk Go.Proofs.YtmlibfmbbkmeeaaDoor.seg Go.Proofs.YtmlibfmbbkmeeaaDoor.side Go.Proofs.YtmlibfmbbkmeeaaDoor.segs Go.Proofs.YtmlibfmbbkmeeaaDoor.lenI Go.Proofs.YtmlibfmbbkmeeaaDoor.dirl Go.Proofs.YtmlibfmbbkmeeaaDoor.rown
set_option linter.unusedVariables false
set_option linter.unusedSimpArgs false
def nth (L : List Int) (i : Nat) : Int := L.getD i 0
def one (F : Nat → Int) (i : Nat) : List Value := [.int .i64 (F i)]
theorem one_len (F : Nat → Int) : ∀ i, (one F i).length = 1 := fun i => rfl
theorem one_get (F : Nat → Int) : ∀ i j, j < 1 → (one F i)[j]? = some (.int .i64 ((fun i (_ : Nat) => F i) i j)) := fun i j hj => by
  obtain rfl : j = 0 := by omega
  rfl
theorem map_rws (L : List Int) : ∀ n, n ≤ L.length → rws (one (nth L)) n = (L.take n).map (Value.int .i64)
  | 0, _ => by simp [rws]
  | n + 1, h => by
    rw [rws_succ, map_rws L n (by omega), List.take_add_one, List.map_append, List.getElem?_eq_getElem (by omega)]
    congr 1
    unfold one nth
    simp [List.getD, List.getElem?_eq_getElem (show n < L.length by omega)]
theorem row_of {w : World} {base E m : Nat} {v : Value} {L : List Int} (hm : m = L.length) (h : w.ownsRow base E 1 v m (L.map (Value.int .i64))) : w.ownsRow base E 1 v m (rws (one (nth L)) m) := by
  rw [map_rws L m (by omega), hm, List.take_length]
  rw [hm] at h
  exact h
theorem nth_in {L : List Int} (h : ∀ x ∈ L, 0 ≤ x ∧ x ≤ 7) (i : Nat) (hi : i < L.length) : inI64 (nth L i) := by
  have := h L[i] (List.getElem_mem hi)
  unfold nth inI64
  rw [List.getD, List.getElem?_eq_getElem hi]
  simp only [Option.getD_some]
  omega
theorem ty_of (n : Nat) (f : Nat → Nat → Int) : tyrInt64S (datRows n 1 f) := ⟨n, _, rfl, fun i _ => ⟨_, rfl⟩⟩
set_option maxRecDepth 100000 in
set_option maxHeartbeats 2000000 in
theorem spec_no {c : Nat} (A : Option Addr) (n : Nat) (pts : Nat → P3) (w : World) (hcap : n ≤ 1048576) (hp : PtsAt w A n pts) (hv : vS n pts = false) :
    Calls Tryd.prog 5 #[.agg #[.slice A n c]] w fun e w' => ∃ v, e = .returned (.tuple #[v, .int .i64 1]) ∧ w'.ownsRow w.heap.size 2 1 v 0 (rws (one fun _ => 0) 0) ∧ Below w.heap.size w w' := by
  have B0 := Lib.hid (below_alloc1 w (.cells #[.slice A n c] 31))
  have HS := Lib.hid (l02Stroke_calls (c := c) (o := 0) A w.heap.size n pts (w.alloc (.cells #[.slice A n c] 31)) hcap (by simp) (by simp) (hp.kept B0.out))
  rw [hv] at HS
  clear hp hv
  go_enter Tryd.func5, Tryd.ntmps5
  go_wp2_with fail
  refine HS.out.mono ?_
  rintro e w1 ⟨rfl, hb1⟩
  have B1 := Lib.hid (B0.out.trans (hb1.mono B0.out.size))
  clear hb1 HS
  go_wp2
  go_ret2
  exact ⟨.slice none 0 0, rfl, World.ownsRow_nil _ _ _ _, B1.out⟩
set_option maxRecDepth 100000 in
set_option maxHeartbeats 2000000 in
theorem impl_no {c : Nat} (A : Option Addr) (n : Nat) (pts : Nat → P3) (w : World) (hcap : n ≤ 1048576) (hp : PtsAt w A n pts) (hv : vS n pts = false) :
    Calls Tryd.prog 7 #[.agg #[.slice A n c]] w fun e w' => ∃ v, e = .returned (.tuple #[v, .int .i64 1]) ∧ w'.ownsRow w.heap.size 2 1 v 0 (rws (one fun _ => 0) 0) ∧ Below w.heap.size w w' := by
  have B0 := Lib.hid (below_alloc1 w (.cells #[.slice A n c] 31))
  have HS := Lib.hid (implValid_calls (c := c) A n pts (w.alloc (.cells #[.slice A n c] 31)) hcap (hp.kept B0.out))
  rw [hv] at HS
  clear hp hv
  go_enter Tryd.func7, Tryd.ntmps7
  go_wp2_with fail
  refine HS.out.mono ?_
  rintro e w1 ⟨rfl, hb1⟩
  have B1 := Lib.hid (B0.out.trans (hb1.mono B0.out.size))
  clear hb1 HS
  go_wp2
  go_ret2
  exact ⟨.slice none 0 0, rfl, World.ownsRow_nil _ _ _ _, B1.out⟩
abbrev res (n : Nat) (pts : Nat → P3) : List Int := dirsL pts (n - 1)
set_option maxRecDepth 100000 in
set_option maxHeartbeats 2000000 in
theorem spec_yes {c : Nat} (A : Option Addr) (n : Nat) (pts : Nat → P3) (w : World) (hcap : n ≤ 1048576) (hp : PtsAt w A n pts) (hv : vS n pts = true) :
    Calls Tryd.prog 5 #[.agg #[.slice A n c]] w fun e w' => ∃ v, e = .returned (.tuple #[v, .int .i64 0]) ∧ w'.ownsRow w.heap.size 2 1 v (res n pts).length (rws (one (nth (res n pts))) (res n pts).length) ∧ Below w.heap.size w w' := by
  obtain ⟨h1, h60, -⟩ := vS_of hv
  have hr := vS_rg hv
  have B0 := Lib.hid (below_alloc1 w (.cells #[.slice A n c] 31))
  have HS := Lib.hid (l02Stroke_calls (c := c) (o := 0) A w.heap.size n pts (w.alloc (.cells #[.slice A n c] 31)) hcap (by simp) (by simp) (hp.kept B0.out))
  rw [hv] at HS
  have HP := Lib.hid (hp.kept B0.out)
  have HR := Lib.hid hr
  clear hp hv hr
  go_enter Tryd.func5, Tryd.ntmps5
  go_wp2_with fail
  refine HS.out.mono ?_
  rintro e w1 ⟨rfl, hb1⟩
  have c0 : w1.cell? ⟨w.heap.size, 0, none⟩ = some (.slice A n c) := by rw [hb1.cell (p := ⟨w.heap.size, 0, none⟩) (by simp)]; simp
  have z1 : w.heap.size < w1.heap.size := by have := hb1.size; simp at this; omega
  have B1 := Lib.hid (B0.out.trans (hb1.mono B0.out.size))
  have HC := Lib.hid (spec_calls (c := c) (o := 0) A w.heap.size n pts w1 h1 h60 HR.out z1 c0 (HP.out.kept hb1))
  clear hb1 HS HP B0 c0
  go_wp2_with fail
  refine HC.out.mono ?_
  rintro e w2 ⟨B, d, m, hm, rfl, hown, hb⟩
  have HO := Lib.hid (row_of hm (row_low hown (Nat.le_of_lt z1)))
  have B2 := Lib.hid (B1.out.trans (hb.mono B1.out.size))
  have HM := Lib.hid hm
  clear hown hb hm
  go_wp2
  go_ret2
  exact ⟨_, rfl, by rw [← HM.out]; exact HO.out, B2.out⟩
set_option maxRecDepth 100000 in
set_option maxHeartbeats 2000000 in
theorem impl_yes {c : Nat} (A : Option Addr) (n : Nat) (pts : Nat → P3) (w : World) (hcap : n ≤ 1048576) (hp : PtsAt w A n pts) (hv : vS n pts = true) (hz : 0 < w.heap.size) (ht : TabAt w) :
    Calls Tryd.prog 7 #[.agg #[.slice A n c]] w fun e w' => ∃ v, e = .returned (.tuple #[v, .int .i64 0]) ∧ w'.ownsRow w.heap.size 2 1 v (res n pts).length (rws (one (nth (res n pts))) (res n pts).length) ∧ Below w.heap.size w w' := by
  obtain ⟨h1, h60, -⟩ := vS_of hv
  have hr := vS_rg hv
  have B0 := Lib.hid (below_alloc1 w (.cells #[.slice A n c] 31))
  have HS := Lib.hid (implValid_calls (c := c) A n pts (w.alloc (.cells #[.slice A n c] 31)) hcap (hp.kept B0.out))
  rw [hv] at HS
  have HP := Lib.hid (hp.kept B0.out)
  have HR := Lib.hid hr
  have HZ := Lib.hid hz
  have HT := Lib.hid ht
  clear hp hv hr hz ht
  go_enter Tryd.func7, Tryd.ntmps7
  go_wp2_with fail
  refine HS.out.mono ?_
  rintro e w1 ⟨rfl, hb1⟩
  have c0 : w1.cell? ⟨w.heap.size, 0, none⟩ = some (.slice A n c) := by rw [hb1.cell (p := ⟨w.heap.size, 0, none⟩) (by simp)]; simp
  have z1 : w.heap.size < w1.heap.size := by have := hb1.size; simp at this; omega
  have B1 := Lib.hid (B0.out.trans (hb1.mono B0.out.size))
  have HC := Lib.hid (impl_calls (c := c) A n pts w1 h1 h60 HR.out (HP.out.kept hb1) (Nat.lt_of_lt_of_le HZ.out B1.out.size) (HT.out.kept HZ.out B1.out))
  clear hb1 HS HP B0
  go_wp2_with fail
  refine HC.out.mono ?_
  rintro e w2 ⟨B, d, m, L, hm, rfl, hown, hb, hL⟩
  have HO := Lib.hid (row_of hm (row_low hown (Nat.le_trans (Nat.le_of_lt z1) hL)))
  have B2 := Lib.hid (B1.out.trans (hb.mono B1.out.size))
  have HM := Lib.hid hm
  clear hown hb hm hL
  go_wp2
  go_ret2
  exact ⟨_, rfl, by rw [← HM.out]; exact HO.out, B2.out⟩
theorem meat (vs0 : Nat → Value) (g0 : Nat → Dat) (ht0 : tyrStroke g0) :
    costRec 1 g0 ≤ 1048576 → ∃ (R : Nat → Dat) (r1 : Int), tyrInt64S R ∧ cntRec 1 R ≤ 100000000000 ∧ (∀ (W : World) (us0 : Nat → Value), ReadsRec W 1 us0 g0 → Calls Tryd.prog 5 #[.agg #[us0 0]] W fun e W' => ∃ xs : Nat → Value, e = .returned (.tuple #[xs 0, .int .i64 r1]) ∧ OwnRec W' 1 xs R (iv W.heap.size W'.heap.size) ∧ Below W.heap.size W W') ∧ (∀ (W : World) (us0 : Nat → Value), 0 < W.heap.size → TabAt W → ReadsRec W 1 us0 g0 → Calls Tryd.prog 7 #[.agg #[us0 0]] W fun e W' => ∃ xs : Nat → Value, e = .returned (.tuple #[xs 0, .int .i64 r1]) ∧ OwnRec W' 1 xs R (iv W.heap.size W'.heap.size) ∧ Below W.heap.size W W') := by
  intro hq
  cases hv : vS (strN g0) (strP g0) with
  | true =>
    have hin : ∀ i j, i < (res (strN g0) (strP g0)).length → j < 1 → inI64 ((fun i (_ : Nat) => nth (res (strN g0) (strP g0)) i) i j) := fun i j hi _ => nth_in (dirsL_rng _ _) i hi
    have hl := dirsL_len (strP g0) (strN g0 - 1)
    have h60 := (vS_of hv).2.1
    refine ⟨datRows (res (strN g0) (strP g0)).length 1 (fun i _ => nth (res (strN g0) (strP g0)) i), 0, ty_of _ _, Nat.le_trans (datRows_cnt _ _ _) (by show (dirsL _ _).length * 1 ≤ _; omega), fun W us0 h0 => by
        obtain ⟨A, c, e, hn, hp⟩ := reads_str h0 ht0 hq
        rw [e]; exact fin (T := fun v => .tuple #[v, .int .i64 0]) (one_len _) (one_get _) hin (spec_yes A _ _ W hn hp hv), fun W us0 hz ht h0 => by
        obtain ⟨A, c, e, hn, hp⟩ := reads_str h0 ht0 hq
        rw [e]; exact fin (T := fun v => .tuple #[v, .int .i64 0]) (one_len _) (one_get _) hin (impl_yes A _ _ W hn hp hv hz ht)⟩
  | false =>
    refine ⟨datRows 0 1 (fun i _ => (fun _ => 0) i), 1, ty_of _ _, Nat.le_trans (datRows_cnt _ _ _) (by omega), fun W us0 h0 => by
        obtain ⟨A, c, e, hn, hp⟩ := reads_str h0 ht0 hq
        rw [e]; exact fin (T := fun v => .tuple #[v, .int .i64 1]) (one_len _) (one_get _) (fun i j hi _ => absurd hi (by omega)) (spec_no A _ _ W hn hp hv), fun W us0 hz ht h0 => by
        obtain ⟨A, c, e, hn, hp⟩ := reads_str h0 ht0 hq
        rw [e]; exact fin (T := fun v => .tuple #[v, .int .i64 1]) (one_len _) (one_get _) (fun i j hi _ => absurd hi (by omega)) (impl_no A _ _ W hn hp hv)⟩
end Go.Proofs.YtmlibfmbbkmeeaaDoor.wDirectionsOf
