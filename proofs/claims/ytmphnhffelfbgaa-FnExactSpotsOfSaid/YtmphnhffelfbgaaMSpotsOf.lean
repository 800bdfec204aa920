/-
  Proved: both functions that tell the places of a stroke's points return the same list, in memory of its own.
  Conditions: none.
-/
import Derived.Test.YtmphnhffelfbgaaLenI
import Derived.Test.YtmphnhffelfbgaaRowN
import Derived.Test.YtmphnhffelfbgaaWid
namespace Go.Proofs.Ytmphnhffelfbgaa.wSpotsOf
open Go.ChangeShapes Go.WideShapes Go.ChangeAt Go.RowKit Go.Joins
open Go.Proofs.Ytmphnhffelfbgaa.core Go.Proofs.Ytmphnhffelfbgaa.geoM Go.Proofs.Ytmphnhffelfbgaa.stk Go.Proofs.Ytmphnhffelfbgaa.seg Go.Proofs.Ytmphnhffelfbgaa.side Go.Proofs.Ytmphnhffelfbgaa.all Go.Proofs.Ytmphnhffelfbgaa.lenS Go.Proofs.Ytmphnhffelfbgaa.segs Go.Proofs.Ytmphnhffelfbgaa.lenI Go.Proofs.Ytmphnhffelfbgaa.rown
set_option linter.unusedVariables false
set_option linter.unusedSimpArgs false
theorem infoSpot : (Try.prog.info? 46).map (fun i => (i.zero, i.size, i.bytes)) = some (some (.agg #[.int .i64 0, .int .i64 0]), 2, 16) := by kernel_rfl
def sp2 (pts : Nat → P3) (i : Nat) : List Value := [.int .i64 (pts i).1, .int .i64 (pts i).2.1]
def fi (pts : Nat → P3) (i j : Nat) : Int := if j = 0 then (pts i).1 else (pts i).2.1
theorem row_len (pts : Nat → P3) : ∀ i, (sp2 pts i).length = 2 := fun i => rfl
theorem row_get (pts : Nat → P3) : ∀ i j, j < 2 → (sp2 pts i)[j]? = some (.int .i64 (fi pts i j)) := fun i j hj => by
  rcases (by omega : j = 0 ∨ j = 1) with rfl | rfl <;> rfl
theorem in_yes {n : Nat} (pts : Nat → P3) (hv : vS n pts = true) : ∀ i j, i < n → j < 2 → inI64 (fi pts i j) := fun i j hi hj => by
  obtain ⟨a, b, c, d⟩ := vS_rg hv i hi
  unfold fi inI64
  split <;> omega
theorem in_no {n : Nat} (pts : Nat → P3) (hv : vS n pts = false) : ∀ i j, i < 0 → j < 2 → inI64 (fi pts i j) := fun i j hi _ => absurd hi (by omega)
theorem le_yes {n : Nat} (pts : Nat → P3) (hv : vS n pts = true) : n * 2 ≤ 1000 := by have := (vS_of hv).2.1; omega
theorem le_no {n : Nat} (pts : Nat → P3) (hv : vS n pts = false) : 0 * 2 ≤ 1000 := by omega
theorem ty_of (n : Nat) (f : Nat → Nat → Int) : tyrSpotS (datRows n 2 f) := ⟨n, _, rfl, fun i _ => ⟨⟨_, rfl⟩, ⟨_, rfl⟩⟩⟩
theorem two_new {w : World} {a b : Value} {E H : Nat} (h : w.heap.size = H) : ∀ j u, [a, b][j]? = some u → (w.alloc (.cells #[a, b] E)).cell? ((⟨H, 0, none⟩ : Addr).add j) = some u := by
  subst h
  exact new_cells (l := [a, b])
theorem specSpot (x y t : Int) (w : World) : Calls Try.prog 49 #[pt x y t] w fun e w' => e = .returned (.agg #[.int .i64 x, .int .i64 y]) ∧ Below w.heap.size w w' := by
  go_enter Try.func49, Try.ntmps49
  go_wp2
  exact bodyPost_ret (v := .agg #[.int .i64 x, .int .i64 y]) (by simp [results, Try.results49, go_sem]) rfl ⟨rfl, below_alloc2 _ _ _⟩
theorem implSpot (x y t : Int) (w : World) : Calls Try.prog 52 #[pt x y t] w fun e w' => e = .returned (.agg #[.int .i64 x, .int .i64 y]) ∧ Below w.heap.size w w' := by
  go_enter Try.func52, Try.ntmps52
  go_wp2
  exact bodyPost_ret (v := .agg #[.int .i64 x, .int .i64 y]) (by simp [results, Try.results52, go_sem]) rfl ⟨rfl, below_alloc2 _ _ _⟩
set_option maxRecDepth 100000 in
set_option maxHeartbeats 4000000 in
theorem spec_no {c : Nat} (A : Option Addr) (n : Nat) (pts : Nat → P3) (w : World) (hcap : n ≤ 1048576) (hp : PtsAt w A n pts) (hv : vS n pts = false) :
    Calls Try.prog 14 #[.agg #[.slice A n c]] w fun e w' => ∃ v, e = .returned (.tuple #[v, .int .i64 1]) ∧ w'.ownsRow w.heap.size 46 2 v (0) (rws (sp2 pts) (0)) ∧ Below w.heap.size w w' := by
  have B0 := Lib.hid (below_alloc1 w (.cells #[.slice A n c] 31))
  have HS := Lib.hid (l02Stroke_calls (c := c) (o := 0) A w.heap.size n pts (w.alloc (.cells #[.slice A n c] 31)) hcap (by simp) (by simp) (hp.kept B0.out))
  rw [hv] at HS
  clear hp hv
  go_enter Try.func14, Try.ntmps14
  go_wp2_with fail
  refine HS.out.mono ?_
  rintro e w1 ⟨rfl, hb1⟩
  have B1 := Lib.hid (B0.out.trans (hb1.mono B0.out.size))
  clear hb1 HS
  go_wp2
  go_ret2
  exact ⟨.slice none 0 0, rfl, World.ownsRow_nil _ _ _ _, B1.out⟩
set_option maxRecDepth 100000 in
set_option maxHeartbeats 4000000 in
theorem impl_no {c : Nat} (A : Option Addr) (n : Nat) (pts : Nat → P3) (w : World) (hcap : n ≤ 1048576) (hp : PtsAt w A n pts) (hv : vS n pts = false) :
    Calls Try.prog 16 #[.agg #[.slice A n c]] w fun e w' => ∃ v, e = .returned (.tuple #[v, .int .i64 1]) ∧ w'.ownsRow w.heap.size 46 2 v (0) (rws (sp2 pts) (0)) ∧ Below w.heap.size w w' := by
  have B0 := Lib.hid (below_alloc1 w (.cells #[.slice A n c] 31))
  have HS := Lib.hid (implValid_calls (c := c) A n pts (w.alloc (.cells #[.slice A n c] 31)) hcap (hp.kept B0.out))
  rw [hv] at HS
  clear hp hv
  go_enter Try.func16, Try.ntmps16
  go_wp2_with fail
  refine HS.out.mono ?_
  rintro e w1 ⟨rfl, hb1⟩
  have B1 := Lib.hid (B0.out.trans (hb1.mono B0.out.size))
  clear hb1 HS
  go_wp2
  go_ret2
  exact ⟨.slice none 0 0, rfl, World.ownsRow_nil _ _ _ _, B1.out⟩
theorem make_row (w : World) (E n : Nat) (cur : Array Value) (hc : cur.size = n * 2) (hn : n ≤ maxLen) : (w.alloc (.cells cur E)).ownsRow w.heap.size E 2 (.slice (some ⟨w.heap.size, 0, none⟩) 0 n) 0 [] :=
  ⟨by simp, .inr ⟨w.heap.size, n, _, rfl, Nat.le_refl _, heap_alloc_new _ _, Nat.zero_le _, hn, hc, by simp⟩⟩
theorem make0 (n : Nat) (hn : n ≤ 1048576) (w : World) : ∃ cur : Array Value, cur.size = n * 2 ∧
    (Instr.makeSlice 26 (.int .i64 0) (.int .i64 (n : Int))).run Try.prog w = .ok (.slice (some ⟨w.heap.size, 0, none⟩) 0 n) (w.alloc (.cells cur 46)) := by
  obtain ⟨i0, hi, hz0, hz1, hz2⟩ := rown.info_get infoSpot
  have hr := run_make (P := Try.prog) w 26 46 i0 _ Try.underlying26 hi hz0 .i64 .i64 0 n (by omega) (by omega) (by rw [hz2]; omega) (by omega)
  simp only [Int.toNat_natCast] at hr
  refine ⟨_, ?_, hr⟩
  rw [hz1]
  simp [madeCells]
set_option maxRecDepth 100000 in
set_option maxHeartbeats 4000000 in
theorem spec_yes {c : Nat} (A : Option Addr) (n : Nat) (pts : Nat → P3) (w : World) (hcap : n ≤ 1048576) (hp : PtsAt w A n pts) (hv : vS n pts = true) :
    Calls Try.prog 14 #[.agg #[.slice A n c]] w fun e w' => ∃ v, e = .returned (.tuple #[v, .int .i64 0]) ∧ w'.ownsRow w.heap.size 46 2 v (n) (rws (sp2 pts) (n)) ∧ Below w.heap.size w w' := by
  obtain ⟨h1, h60, -⟩ := vS_of hv
  obtain ⟨i0, hi0, hz0, hz1, hz2⟩ := rown.info_get infoSpot
  have HR := Lib.hid (vS_rg hv)
  have HV := Lib.hid hv
  have B0 := Lib.hid (below_alloc1 w (.cells #[.slice A n c] 31))
  have HS := Lib.hid (l02Stroke_calls (c := c) (o := 0) A w.heap.size n pts (w.alloc (.cells #[.slice A n c] 31)) hcap (by simp) (by simp) (hp.kept B0.out))
  rw [hv] at HS
  have HP := Lib.hid (hp.kept B0.out)
  clear hp hv
  go_enter Try.func14, Try.ntmps14
  go_wp2_with fail
  refine HS.out.mono ?_
  rintro e w1 ⟨rfl, hb1⟩
  have C0 := Lib.hid ((hb1.cell (p := ⟨w.heap.size, 0, none⟩) (by simp)).trans (show _ = some (.slice A n c) by simp))
  have Z1 := Lib.hid (show w.heap.size < w1.heap.size by have := hb1.size; simp at this; omega)
  have B1 := Lib.hid (B0.out.trans (hb1.mono B0.out.size))
  have HP1 := Lib.hid (HP.out.kept hb1)
  clear hb1 HS HP B0
  go_wp2
  go_loopw [4, 5] (fun o i w' => ∃ (k d : Nat) (B : Option Addr), k ≤ n ∧ i = .int .i64 (k : Int) ∧ o = .slice B k d ∧ Hid (w'.ownsRow w1.heap.size 46 2 (.slice B k d) k (rws (sp2 pts) k)) ∧ Hid (Below w1.heap.size w1 w')) (fun _ i _ => n - (intOf i).toNat)
  case atStart => exact ⟨0, 0, _, Nat.zero_le _, rfl, rfl, Lib.hid (empty_row w1 _ _), Lib.hid (below_alloc1 _ _)⟩
  case round =>
    obtain ⟨k, d, B, hk, rfl, rfl, HO, HB⟩ := hrel
    have hs := (HB.out.cell (p := ⟨w.heap.size, 0, none⟩) Z1.out).trans C0.out
    by_cases hlt : k < n
    · obtain ⟨g, o', rfl, hg, p0, p1, p2⟩ := (HP1.out.kept HB.out) k hlt
      have HE := Lib.hid (show rws (sp2 pts) (k + 1) = rws (sp2 pts) k ++ [.int .i64 (pts k).1, .int .i64 (pts k).2.1] from rfl)
      obtain ⟨p, hpk⟩ : ∃ p, pts k = p := ⟨_, rfl⟩
      rw [hpk] at p0 p1 p2 HE
      clear hpk
      have hli : (k : Int) < (n : Int) := by omega
      go_wp2_with (first
        | (go_at_call 49; (with_reducible refine (specSpot _ _ _ _).mono ?_); rintro e w3 ⟨rfl, hb⟩; have HK := Lib.hid (hb); clear hb; have HB3 := Lib.hid (HB.out.trans (HK.out.mono HB.out.size)); have HO3 := Lib.hid (rown.ownsRow_kept HO.out HK.out))
        | (at_builtin
           have z0 := rown.ownsRow_kept HO3.out (below_alloc1 w3 (.cells #[.int .i64 p.1, .int .i64 p.2.1] 46))
           have z2 : ∀ u ∈ [Value.int .i64 p.1, Value.int .i64 p.2.1], u.oneCell' = true := (by simp [Value.oneCell'])
           have z3 : k + 1 ≤ maxLen := (by simp only [maxLen]; omega)
           have z4 : (k + 1) * 16 ≤ 140737488355328 := (by omega)
           have z5 : w1.heap.size ≤ (w3.alloc (.cells #[.int .i64 p.1, .int .i64 p.2.1] 46)).heap.size := (Nat.le_trans HB3.out.size (by simp))
           refine wpList_append_lies (w3.alloc (.cells #[.int .i64 p.1, .int .i64 p.2.1] 46)) rfl _ _ 26 rfl w1.heap.size 46 i0 _ 2 16 Try.underlying26 hi0 hz0 hz1 hz2 rfl (by decide) (.slice B k d) k _ rfl z0 ⟨w3.heap.size, 0, none⟩ 1 1 [.int .i64 p.1, .int .i64 p.2.1] rfl rfl (two_new rfl) z2 (by decide) z3 z4 z5 _ rfl ?_
           intro g3 cap3 w5 hown hgr hat hlt3
           have HO4 := Lib.hid hown
           have HB4 := Lib.hid (HB3.out.trans (rown.under HO3.out HB3.out.size hgr))
           clear hown hgr hat z0 z2 z3 z4 z5))
      go_roundw
      case rel => exact ⟨k + 1, cap3, some ⟨g3, 0, none⟩, by omega, by go_num, rfl, Lib.hid (by rw [HE.out]; exact HO4.out), HB4⟩
      case measure => simp [intOf]; omega
    · obtain rfl : k = n := by omega
      go_wp2
      go_ret2
      exact ⟨_, rfl, row_low HO.out (Nat.le_of_lt Z1.out), B1.out.trans (HB.out.mono (Nat.le_of_lt Z1.out))⟩
set_option maxRecDepth 100000 in
set_option maxHeartbeats 4000000 in
theorem impl_yes {c : Nat} (A : Option Addr) (n : Nat) (pts : Nat → P3) (w : World) (hcap : n ≤ 1048576) (hp : PtsAt w A n pts) (hv : vS n pts = true) :
    Calls Try.prog 16 #[.agg #[.slice A n c]] w fun e w' => ∃ v, e = .returned (.tuple #[v, .int .i64 0]) ∧ w'.ownsRow w.heap.size 46 2 v (n) (rws (sp2 pts) (n)) ∧ Below w.heap.size w w' := by
  obtain ⟨h1, h60, -⟩ := vS_of hv
  obtain ⟨i0, hi0, hz0, hz1, hz2⟩ := rown.info_get infoSpot
  have HR := Lib.hid (vS_rg hv)
  have HV := Lib.hid hv
  have B0 := Lib.hid (below_alloc1 w (.cells #[.slice A n c] 31))
  have HS := Lib.hid (implValid_calls (c := c) A n pts (w.alloc (.cells #[.slice A n c] 31)) hcap (hp.kept B0.out))
  rw [hv] at HS
  have HP := Lib.hid (hp.kept B0.out)
  clear hp hv
  go_enter Try.func16, Try.ntmps16
  go_wp2_with fail
  refine HS.out.mono ?_
  rintro e w1 ⟨rfl, hb1⟩
  have C0 := Lib.hid ((hb1.cell (p := ⟨w.heap.size, 0, none⟩) (by simp)).trans (show _ = some (.slice A n c) by simp))
  have Z1 := Lib.hid (show w.heap.size < w1.heap.size by have := hb1.size; simp at this; omega)
  have B1 := Lib.hid (B0.out.trans (hb1.mono B0.out.size))
  have HP1 := Lib.hid (HP.out.kept hb1)
  clear hb1 HS HP B0
  have c0 := C0.out
  have z1 := Z1.out
  obtain ⟨cur, hcu, hmk⟩ := make0 n hcap w1
  have HCU := Lib.hid hcu
  clear hcu
  go_wp2
  clear c0 hmk z1
  go_loopw [4, 17] (fun o i w' => ∃ (k d : Nat) (B : Option Addr), k ≤ n ∧ i = .int .i64 (k : Int) ∧ o = .slice B k d ∧ Hid (w'.ownsRow w1.heap.size 46 2 (.slice B k d) k (rws (sp2 pts) k)) ∧ Hid (Below w1.heap.size w1 w')) (fun _ i _ => n - (intOf i).toNat)
  case atStart => exact ⟨0, n, _, Nat.zero_le _, rfl, rfl, Lib.hid (make_row _ _ _ _ HCU.out (by simp only [maxLen]; omega)), Lib.hid (below_alloc1 _ _)⟩
  case round =>
    obtain ⟨k, d, B, hk, rfl, rfl, HO, HB⟩ := hrel
    by_cases hlt : k < n
    · obtain ⟨g, o', rfl, hg, p0, p1, p2⟩ := (HP1.out.kept HB.out) k hlt
      have HE := Lib.hid (show rws (sp2 pts) (k + 1) = rws (sp2 pts) k ++ [.int .i64 (pts k).1, .int .i64 (pts k).2.1] from rfl)
      obtain ⟨p, hpk⟩ : ∃ p, pts k = p := ⟨_, rfl⟩
      rw [hpk] at p0 p1 p2 HE
      clear hpk
      have hli : (k : Int) < (n : Int) := by omega
      go_wp2_with (first
        | (go_at_call 52; (with_reducible refine (implSpot _ _ _ _).mono ?_); rintro e w3 ⟨rfl, hb⟩; have HK := Lib.hid ((below_alloc1 wr _).trans (hb.mono (below_alloc1 wr _).size)); clear hb; have HB3 := Lib.hid (HB.out.trans (HK.out.mono HB.out.size)); have HO3 := Lib.hid (rown.ownsRow_kept HO.out HK.out))
        | (at_builtin
           have z0 := rown.ownsRow_kept HO3.out (below_alloc1 w3 (.cells #[.int .i64 p.1, .int .i64 p.2.1] 46))
           have z2 : ∀ u ∈ [Value.int .i64 p.1, Value.int .i64 p.2.1], u.oneCell' = true := (by simp [Value.oneCell'])
           have z3 : k + 1 ≤ maxLen := (by simp only [maxLen]; omega)
           have z4 : (k + 1) * 16 ≤ 140737488355328 := (by omega)
           have z5 : w1.heap.size ≤ (w3.alloc (.cells #[.int .i64 p.1, .int .i64 p.2.1] 46)).heap.size := (Nat.le_trans HB3.out.size (by simp))
           refine wpList_append_lies (w3.alloc (.cells #[.int .i64 p.1, .int .i64 p.2.1] 46)) rfl _ _ 26 rfl w1.heap.size 46 i0 _ 2 16 Try.underlying26 hi0 hz0 hz1 hz2 rfl (by decide) (.slice B k d) k _ rfl z0 ⟨w3.heap.size, 0, none⟩ 1 1 [.int .i64 p.1, .int .i64 p.2.1] rfl rfl (two_new rfl) z2 (by decide) z3 z4 z5 _ rfl ?_
           intro g3 cap3 w5 hown hgr hat hlt3
           have HO4 := Lib.hid hown
           have HB4 := Lib.hid (HB3.out.trans (rown.under HO3.out HB3.out.size hgr))
           clear hown hgr hat z0 z2 z3 z4 z5))
      go_roundw
      case rel => exact ⟨k + 1, cap3, some ⟨g3, 0, none⟩, by omega, by go_num, rfl, Lib.hid (by rw [HE.out]; exact HO4.out), HB4⟩
      case measure => simp [intOf]; omega
    · obtain rfl : k = n := by omega
      go_wp2
      go_ret2
      exact ⟨_, rfl, row_low HO.out (Nat.le_of_lt Z1.out), B1.out.trans (HB.out.mono (Nat.le_of_lt Z1.out))⟩
theorem meat (vs0 : Nat → Value) (g0 : Nat → Dat) (ht0 : tyrStroke g0) :
    costRec 1 g0 ≤ 1048576 → ∃ (R : Nat → Dat) (r1 : Int), tyrSpotS R ∧ cntRec 1 R ≤ 100000000000 ∧ (∀ (W : World) (us0 : Nat → Value), ReadsRec W 1 us0 g0 → Calls Try.prog 14 #[.agg #[us0 0]] W fun e W' => ∃ xs : Nat → Value, e = .returned (.tuple #[xs 0, .int .i64 r1]) ∧ OwnRec W' 1 xs R (iv W.heap.size W'.heap.size) ∧ Below W.heap.size W W') ∧ (∀ (W : World) (us0 : Nat → Value), ReadsRec W 1 us0 g0 → Calls Try.prog 16 #[.agg #[us0 0]] W fun e W' => ∃ xs : Nat → Value, e = .returned (.tuple #[xs 0, .int .i64 r1]) ∧ OwnRec W' 1 xs R (iv W.heap.size W'.heap.size) ∧ Below W.heap.size W W') := by
  intro hq
  cases hv : vS (strN g0) (strP g0) with
  | true =>
    have hin := in_yes (strP g0) hv
    refine ⟨datRows (strN g0) 2 (fi (strP g0)), 0, ty_of _ _, Nat.le_trans (datRows_cnt _ _ _) (by have := le_yes (strP g0) hv; omega), fun W us0 h0 => by
        obtain ⟨A, c, e, hn, hp⟩ := reads_str h0 ht0 hq
        rw [e]; exact fin (T := fun v => .tuple #[v, .int .i64 0]) (row_len (strP g0)) (row_get (strP g0)) (hin) (spec_yes A _ _ W hn hp hv), fun W us0 h0 => by
        obtain ⟨A, c, e, hn, hp⟩ := reads_str h0 ht0 hq
        rw [e]; exact fin (T := fun v => .tuple #[v, .int .i64 0]) (row_len (strP g0)) (row_get (strP g0)) (hin) (impl_yes A _ _ W hn hp hv)⟩
  | false =>
    have hin := in_no (strP g0) hv
    refine ⟨datRows (0) 2 (fi (strP g0)), 1, ty_of _ _, Nat.le_trans (datRows_cnt _ _ _) (by have := le_no (strP g0) hv; omega), fun W us0 h0 => by
        obtain ⟨A, c, e, hn, hp⟩ := reads_str h0 ht0 hq
        rw [e]; exact fin (T := fun v => .tuple #[v, .int .i64 1]) (row_len (strP g0)) (row_get (strP g0)) (hin) (spec_no A _ _ W hn hp hv), fun W us0 h0 => by
        obtain ⟨A, c, e, hn, hp⟩ := reads_str h0 ht0 hq
        rw [e]; exact fin (T := fun v => .tuple #[v, .int .i64 1]) (row_len (strP g0)) (row_get (strP g0)) (hin) (impl_no A _ _ W hn hp hv)⟩
end Go.Proofs.Ytmphnhffelfbgaa.wSpotsOf
