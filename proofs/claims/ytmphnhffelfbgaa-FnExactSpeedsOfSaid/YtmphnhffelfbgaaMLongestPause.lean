/-
  Proved: both functions that tell the longest pause of a stroke return the same number.
  Conditions: none.
-/
import Derived.Test.YtmphnhffelfbgaaLenI
namespace Go.Proofs.Ytmphnhffelfbgaa.wLongestPause
open Go.ChangeShapes Go.WideShapes Go.ChangeAt Go.RowKit Go.Joins
open Go.Proofs.Ytmphnhffelfbgaa.core Go.Proofs.Ytmphnhffelfbgaa.geoM Go.Proofs.Ytmphnhffelfbgaa.stk Go.Proofs.Ytmphnhffelfbgaa.seg Go.Proofs.Ytmphnhffelfbgaa.side Go.Proofs.Ytmphnhffelfbgaa.all Go.Proofs.Ytmphnhffelfbgaa.lenS Go.Proofs.Ytmphnhffelfbgaa.segs Go.Proofs.Ytmphnhffelfbgaa.lenI
set_option linter.unusedVariables false
set_option linter.unusedSimpArgs false
/-- The time between a point and the next one; the first segment with the most time. -/
def dt (pts : Nat → P3) (i : Nat) : Int := (pts (i + 1)).2.2 - (pts i).2.2
def lp (pts : Nat → P3) : Nat → Nat
  | 0 => 0
  | k + 1 => if dt pts (lp pts k) < dt pts (k + 1) then k + 1 else lp pts k
theorem lp_le (pts : Nat → P3) : ∀ k, lp pts k ≤ k
  | 0 => Nat.le_refl _
  | k + 1 => by
    have := lp_le pts k
    unfold lp
    split <;> omega
theorem lp_yes {pts : Nat → P3} {k : Nat} (h : dt pts (lp pts k) < dt pts (k + 1)) : lp pts (k + 1) = k + 1 := by rw [lp, if_pos h]
theorem lp_no {pts : Nat → P3} {k : Nat} (h : ¬ dt pts (lp pts k) < dt pts (k + 1)) : lp pts (k + 1) = lp pts k := by rw [lp, if_neg h]
/-- The most time so far. -/
def gr (pts : Nat → P3) (k : Nat) : Int := if k = 0 then 0 else dt pts (lp pts (k - 1))
theorem gr_yes {pts : Nat → P3} {k : Nat} (h : gr pts k < dt pts k) : lp pts k = k ∧ gr pts (k + 1) = dt pts k := by
  cases k with
  | zero => exact ⟨rfl, rfl⟩
  | succ j =>
    have h' : dt pts (lp pts j) < dt pts (j + 1) := h
    have e := lp_yes h'
    exact ⟨e, by show dt pts (lp pts (j + 1)) = _; rw [e]⟩
theorem gr_no {pts : Nat → P3} {k : Nat} (h0 : 0 < dt pts 0) (h : ¬ gr pts k < dt pts k) : lp pts k = lp pts (k - 1) ∧ gr pts (k + 1) = gr pts k := by
  cases k with
  | zero => exact absurd h0 h
  | succ j =>
    have h' : ¬ dt pts (lp pts j) < dt pts (j + 1) := h
    have e := lp_no h'
    exact ⟨e, by show dt pts (lp pts (j + 1)) = dt pts (lp pts j); rw [e]⟩
theorem t_rg {n : Nat} {pts : Nat → P3} (h : vS n pts = true) : ∀ i, i < n → 0 ≤ (pts i).2.2 ∧ (pts i).2.2 ≤ 3600000 := fun i hi => by
  have := inR_of ((vS_of h).2.2 i hi).1
  omega
theorem dt_pos {n : Nat} {pts : Nat → P3} (h : vS n pts = true) {i : Nat} (hi : i + 1 < n) : 0 < dt pts i := by
  have := ((vS_of h).2.2 (i + 1) hi).2 (by omega)
  unfold dt
  simp at this
  omega
set_option maxHeartbeats 1000000 in
theorem time_calls (a b : P3) (ha : 0 ≤ a.2.2 ∧ a.2.2 ≤ 3600000) (hb : 0 ≤ b.2.2 ∧ b.2.2 ≤ 3600000) (w : World) :
    Calls Try.prog 58 #[.agg #[.int .i64 a.1, .int .i64 a.2.1, .int .i64 a.2.2, .int .i64 b.1, .int .i64 b.2.1, .int .i64 b.2.2]] w fun e w' => e = .returned (.int .i64 (b.2.2 - a.2.2)) ∧ Below w.heap.size w w' := by
  go_enter Try.func58, Try.ntmps58
  go_wp2
  go_ret
  exact ⟨stk.ret_int (by omega), below_alloc1 _ _⟩
set_option maxRecDepth 100000 in
set_option maxHeartbeats 4000000 in
theorem spec_no {c : Nat} (A : Option Addr) (n : Nat) (pts : Nat → P3) (w : World) (hcap : n ≤ 1048576) (hp : PtsAt w A n pts) (hv : vS n pts = false) :
    Calls Try.prog 27 #[.agg #[.slice A n c]] w fun e w' => e = .returned (.tuple #[.int .i64 0, .int .i64 1]) ∧ Below w.heap.size w w' := by
  have B0 := Lib.hid (below_alloc1 w (.cells #[.slice A n c] 31))
  have HS := Lib.hid (l02Stroke_calls (c := c) (o := 0) A w.heap.size n pts (w.alloc (.cells #[.slice A n c] 31)) hcap (by simp) (by simp) (hp.kept B0.out))
  rw [hv] at HS
  clear hp hv
  go_enter Try.func27, Try.ntmps27
  go_wp2_with fail
  refine HS.out.mono ?_
  rintro e w1 ⟨rfl, hb1⟩
  have B1 := Lib.hid (B0.out.trans (hb1.mono B0.out.size))
  clear hb1 HS
  go_wp2
  go_ret2
  exact ⟨rfl, B1.out⟩
set_option maxRecDepth 100000 in
set_option maxHeartbeats 4000000 in
theorem spec_one {c : Nat} (A : Option Addr) (n : Nat) (pts : Nat → P3) (w : World) (hcap : n ≤ 1048576) (hp : PtsAt w A n pts) (hv : vS n pts = true) (h1 : n = 1) :
    Calls Try.prog 27 #[.agg #[.slice A n c]] w fun e w' => e = .returned (.tuple #[.int .i64 0, .int .i64 6]) ∧ Below w.heap.size w w' := by
  have B0 := Lib.hid (below_alloc1 w (.cells #[.slice A n c] 31))
  have HS := Lib.hid (l02Stroke_calls (c := c) (o := 0) A w.heap.size n pts (w.alloc (.cells #[.slice A n c] 31)) hcap (by simp) (by simp) (hp.kept B0.out))
  rw [hv] at HS
  subst h1
  have HP := Lib.hid (hp.kept B0.out)
  clear hp hv
  go_enter Try.func27, Try.ntmps27
  go_wp2_with fail
  refine HS.out.mono ?_
  rintro e w1 ⟨rfl, hb1⟩
  have C0 := Lib.hid ((hb1.cell (p := ⟨w.heap.size, 0, none⟩) (by simp)).trans (show _ = some (.slice A 1 c) by simp))
  have Z1 := Lib.hid (show w.heap.size < w1.heap.size by have := hb1.size; simp at this; omega)
  have B1 := Lib.hid (B0.out.trans (hb1.mono B0.out.size))
  have HP1 := Lib.hid (HP.out.kept hb1)
  clear hb1 HS HP B0
  have c0 := C0.out
  go_wp2
  go_ret2
  exact ⟨rfl, B1.out⟩
set_option maxRecDepth 100000 in
set_option maxHeartbeats 4000000 in
theorem spec_yes {c : Nat} (A : Option Addr) (n : Nat) (pts : Nat → P3) (w : World) (hcap : n ≤ 1048576) (hp : PtsAt w A n pts) (hv : vS n pts = true) (h2 : 2 ≤ n) :
    Calls Try.prog 27 #[.agg #[.slice A n c]] w fun e w' => e = .returned (.tuple #[.int .i64 (lp pts (n - 2) : Nat), .int .i64 0]) ∧ Below w.heap.size w w' := by
  have B0 := Lib.hid (below_alloc1 w (.cells #[.slice A n c] 31))
  have HS := Lib.hid (l02Stroke_calls (c := c) (o := 0) A w.heap.size n pts (w.alloc (.cells #[.slice A n c] 31)) hcap (by simp) (by simp) (hp.kept B0.out))
  rw [hv] at HS
  obtain ⟨-, h60, -⟩ := vS_of hv
  have HR := Lib.hid (t_rg hv)
  have HD := Lib.hid (dt_pos hv (i := 0) (by omega))
  have HP := Lib.hid (hp.kept B0.out)
  clear hp hv
  go_enter Try.func27, Try.ntmps27
  go_wp2_with fail
  refine HS.out.mono ?_
  rintro e w1 ⟨rfl, hb1⟩
  have C0 := Lib.hid ((hb1.cell (p := ⟨w.heap.size, 0, none⟩) (by simp)).trans (show _ = some (.slice A n c) by simp))
  have Z1 := Lib.hid (show w.heap.size < w1.heap.size by have := hb1.size; simp at this; omega)
  have B1 := Lib.hid (B0.out.trans (hb1.mono B0.out.size))
  have HP1 := Lib.hid (HP.out.kept hb1)
  clear hb1 HS HP B0
  have c0 := C0.out
  have hn2 : ¬ (n : Int) < 2 := by omega
  go_wp2
  clear c0
  go_loopw [4, 5] (fun b i w' => ∃ j m : Nat, 1 ≤ j ∧ j + 1 ≤ n ∧ i = .int .i64 ((j + 1 : Nat) : Int) ∧ b = .int .i64 ((m + 1 : Nat) : Int) ∧ m < j ∧ Hid (m = lp pts (j - 1)) ∧ Hid (Below w1.heap.size w1 w')) (fun _ i _ => n - (intOf i).toNat)
  case atStart => exact ⟨1, 0, Nat.le_refl _, h2, rfl, rfl, by omega, Lib.hid rfl, Lib.hid (Below.refl _ _)⟩
  case round =>
    obtain ⟨j, m, hj1, hj, rfl, rfl, hmj, HM, HB⟩ := hrel
    have hs := (HB.out.cell (p := ⟨w.heap.size, 0, none⟩) Z1.out).trans C0.out
    by_cases hlt : j + 1 < n
    · obtain ⟨g, o', rfl, hg, -, -, p2⟩ := (HP1.out.kept HB.out) j (by omega)
      obtain ⟨g2, o2, e2, -, -, -, q2⟩ := (HP1.out.kept HB.out) (j + 1) hlt
      injection e2 with e2
      injection e2 with e2 e3
      subst e2 e3
      obtain ⟨g2, o2, e2, -, -, -, r2⟩ := (HP1.out.kept HB.out) m (by omega)
      injection e2 with e2
      injection e2 with e2 e3
      subst e2 e3
      obtain ⟨g2, o2, e2, -, -, -, s2⟩ := (HP1.out.kept HB.out) (m + 1) (by omega)
      injection e2 with e2
      injection e2 with e2 e3
      subst e2 e3
      have t1 := HR.out j (by omega)
      have t2 := HR.out (j + 1) hlt
      have t3 := HR.out m (by omega)
      have t4 := HR.out (m + 1) (by omega)
      have HDJ := Lib.hid (show dt pts j = (pts (j + 1)).2.2 - (pts j).2.2 from rfl)
      have HDM := Lib.hid (show dt pts m = (pts (m + 1)).2.2 - (pts m).2.2 from rfl)
      generalize (pts j).2.2 = x at *
      generalize (pts (j + 1)).2.2 = x' at *
      generalize (pts m).2.2 = y at *
      generalize (pts (m + 1)).2.2 = y' at *
      obtain ⟨u, hu⟩ : ∃ u, x' - x = u := ⟨_, rfl⟩
      obtain ⟨v, hv⟩ : ∃ v, y' - y = v := ⟨_, rfl⟩
      have E1 : IntKind.i64.wrap (x' - x) = u := by rw [hu]; exact IntWalk.i64_in _ (by omega)
      have E2 : IntKind.i64.wrap (y' - y) = v := by rw [hv]; exact IntWalk.i64_in _ (by omega)
      have F1 : wrap64 (x' - x) = u := by rw [← IntWalk.i64_left]; exact E1
      have F2 : wrap64 (y' - y) = v := by rw [← IntWalk.i64_left]; exact E2
      have E3 : IntKind.i64.wrap (j : Int) = (j : Int) := IntWalk.i64_in _ (by omega)
      have E4 : IntKind.i64.wrap (m : Int) = (m : Int) := IntWalk.i64_in _ (by omega)
      have hgz : g < wr.heap.size := hg
      have hbz' : w.heap.size < wr.heap.size := Nat.lt_of_lt_of_le Z1.out HB.out.size
      have c0 := cell_kept (w := wr) (a := ⟨g, o' + j * 3 + 2, none⟩) hgz p2
      have c1 := cell_kept (w := wr) (a := ⟨g, o' + (j + 1) * 3 + 2, none⟩) hgz q2
      have c2 := cell_kept (w := wr) (a := ⟨g, o' + m * 3 + 2, none⟩) hgz r2
      have c3 := cell_kept (w := wr) (a := ⟨g, o' + (m + 1) * 3 + 2, none⟩) hgz s2
      have c4 := cell_kept (w := wr) (a := ⟨w.heap.size, 0, none⟩) hbz' hs
      have hli : ((j + 1 : Nat) : Int) < (n : Int) := by omega
      have hjn : j < n := by omega
      have hmn : m < n := by omega
      have hm1n : m + 1 < n := by omega
      have hj0 : (0 : Int) ≤ (j : Int) + 1 := by omega
      have hm0 : (0 : Int) ≤ (m : Int) + 1 := by omega
      have HU := Lib.hid (HDJ.out.trans hu)
      have HV := Lib.hid (HDM.out.trans hv)
      have hmi : (m : Int) < (n : Int) := by omega
      have hm1i : (m : Int) + 1 < (n : Int) := by omega
      clear p2 q2 r2 s2 t1 t2 t3 t4 hu hv HDJ HDM hg
      go_wp2
      clear hs
      have hmx := stk.mixed
      refine wp_region_quiet_kept (by assumption) (by kernel_rfl) ?_
      repeat (first | go_big_quiet_step (fail) | quiet_step (fail))
      refine wpQuiet_nil ?_
      intro w2 hw'
      have hB : Below wr.heap.size wr w2 := by obtain ⟨⟨wk, hb0⟩, hw''⟩ := hw'; rw [hw'']; exact hb0
      have HB2 := Lib.hid (HB.out.trans (hB.mono HB.out.size))
      clear hw' hB c0 c1 c2 c3 c4 E1 E2 E3 E4 F1 F2 hmx
      by_cases hc : v < u
      · have HL := Lib.hid (show lp pts j = j from by
          obtain ⟨i, rfl⟩ : ∃ i, j = i + 1 := ⟨j - 1, by omega⟩
          exact lp_yes (by rw [show lp pts i = m from HM.out.symm, HU.out, HV.out]; exact hc))
        go_wp2
        go_roundw
        case rel => exact ⟨j + 1, j, by omega, by omega, by go_num, by go_num, by omega, Lib.hid (by rw [show j + 1 - 1 = j from rfl, HL.out]), HB2⟩
        case measure => simp [intOf]; omega
      · have HL := Lib.hid (show lp pts j = m from by
          obtain ⟨i, rfl⟩ : ∃ i, j = i + 1 := ⟨j - 1, by omega⟩
          rw [lp_no (by rw [show lp pts i = m from HM.out.symm, HU.out, HV.out]; exact hc)]
          exact HM.out.symm)
        go_wp2
        go_roundw
        case rel => exact ⟨j + 1, m, by omega, by omega, by go_num, rfl, by omega, Lib.hid (by rw [show j + 1 - 1 = j from rfl, HL.out]), HB2⟩
        case measure => simp [intOf]; omega
    · obtain rfl : n = j + 1 := by omega
      have HM2 := Lib.hid (show lp pts (j + 1 - 2) = m from HM.out.symm)
      go_wp2
      go_ret2
      exact ⟨by rw [HM2.out]; simp, B1.out.trans (HB.out.mono B1.out.size)⟩
set_option maxRecDepth 100000 in
set_option maxHeartbeats 4000000 in
theorem impl_no {c : Nat} (A : Option Addr) (n : Nat) (pts : Nat → P3) (w : World) (hcap : n ≤ 1048576) (hp : PtsAt w A n pts) (hv : vS n pts = false) :
    Calls Try.prog 28 #[.agg #[.slice A n c]] w fun e w' => e = .returned (.tuple #[.int .i64 0, .int .i64 1]) ∧ Below w.heap.size w w' := by
  have B0 := Lib.hid (below_alloc1 w (.cells #[.slice A n c] 31))
  have HS := Lib.hid (implValid_calls (c := c) A n pts (w.alloc (.cells #[.slice A n c] 31)) hcap (hp.kept B0.out))
  rw [hv] at HS
  clear hp hv
  go_enter Try.func28, Try.ntmps28
  go_wp2_with fail
  refine HS.out.mono ?_
  rintro e w1 ⟨rfl, hb1⟩
  have B1 := Lib.hid (B0.out.trans (hb1.mono B0.out.size))
  clear hb1 HS
  go_wp2
  go_ret2
  exact ⟨rfl, B1.out⟩
set_option maxRecDepth 100000 in
set_option maxHeartbeats 4000000 in
theorem impl_one {c : Nat} (A : Option Addr) (n : Nat) (pts : Nat → P3) (w : World) (hcap : n ≤ 1048576) (hp : PtsAt w A n pts) (hv : vS n pts = true) (h1 : n = 1) :
    Calls Try.prog 28 #[.agg #[.slice A n c]] w fun e w' => e = .returned (.tuple #[.int .i64 0, .int .i64 6]) ∧ Below w.heap.size w w' := by
  have B0 := Lib.hid (below_alloc1 w (.cells #[.slice A n c] 31))
  have HS := Lib.hid (implValid_calls (c := c) A n pts (w.alloc (.cells #[.slice A n c] 31)) hcap (hp.kept B0.out))
  rw [hv] at HS
  subst h1
  have HP := Lib.hid (hp.kept B0.out)
  clear hp hv
  go_enter Try.func28, Try.ntmps28
  go_wp2_with fail
  refine HS.out.mono ?_
  rintro e w1 ⟨rfl, hb1⟩
  have C0 := Lib.hid ((hb1.cell (p := ⟨w.heap.size, 0, none⟩) (by simp)).trans (show _ = some (.slice A 1 c) by simp))
  have Z1 := Lib.hid (show w.heap.size < w1.heap.size by have := hb1.size; simp at this; omega)
  have B1 := Lib.hid (B0.out.trans (hb1.mono B0.out.size))
  have HP1 := Lib.hid (HP.out.kept hb1)
  clear hb1 HS HP B0
  have c0 := C0.out
  go_wp2
  go_ret2
  exact ⟨rfl, B1.out⟩
set_option maxRecDepth 100000 in
set_option maxHeartbeats 4000000 in
theorem impl_yes {c : Nat} (A : Option Addr) (n : Nat) (pts : Nat → P3) (w : World) (hcap : n ≤ 1048576) (hp : PtsAt w A n pts) (hv : vS n pts = true) (h2 : 2 ≤ n) :
    Calls Try.prog 28 #[.agg #[.slice A n c]] w fun e w' => e = .returned (.tuple #[.int .i64 (lp pts (n - 2) : Nat), .int .i64 0]) ∧ Below w.heap.size w w' := by
  have B0 := Lib.hid (below_alloc1 w (.cells #[.slice A n c] 31))
  have HS := Lib.hid (implValid_calls (c := c) A n pts (w.alloc (.cells #[.slice A n c] 31)) hcap (hp.kept B0.out))
  rw [hv] at HS
  obtain ⟨-, h60, -⟩ := vS_of hv
  have HR := Lib.hid (t_rg hv)
  have HD := Lib.hid (dt_pos hv (i := 0) (by omega))
  have HP := Lib.hid (hp.kept B0.out)
  clear hp hv
  go_enter Try.func28, Try.ntmps28
  go_wp2_with fail
  refine HS.out.mono ?_
  rintro e w1 ⟨rfl, hb1⟩
  have C0 := Lib.hid ((hb1.cell (p := ⟨w.heap.size, 0, none⟩) (by simp)).trans (show _ = some (.slice A n c) by simp))
  have Z1 := Lib.hid (show w.heap.size < w1.heap.size by have := hb1.size; simp at this; omega)
  have B1 := Lib.hid (B0.out.trans (hb1.mono B0.out.size))
  have HP1 := Lib.hid (HP.out.kept hb1)
  clear hb1 HS HP B0
  have c0 := C0.out
  have HG0 := Lib.hid (segs_calls (c := c) A n pts w1 (by omega) h60 HP1.out)
  obtain ⟨m, hm⟩ : ∃ m, n - 1 = m := ⟨_, rfl⟩
  have HMN := Lib.hid (show n = m + 1 by omega)
  have hm59 : m ≤ 59 := by omega
  have hm1 : 1 ≤ m := by omega
  have hn1 : ¬ (n : Int) = 1 := by omega
  have hn1b : ((n : Int) == 1) = false := by simp; omega
  have HN2 := Lib.hid (show n - 2 = m - 1 by omega)
  rw [hm] at HG0
  clear hm
  go_wp2_with fail
  refine HG0.out.mono ?_
  rintro e w2 ⟨B, d, rfl, hsg, hb⟩
  have B2 := Lib.hid (B1.out.trans (hb.mono B1.out.size))
  have HG := Lib.hid hsg
  clear hsg hb HG0 c0 hn1 hn1b
  go_wp2
  go_loopw [4, 5, 19] (fun l g i w' => ∃ k : Nat, k ≤ m ∧ i = .int .i64 (k : Int) ∧ l = .int .i64 (lp pts (k - 1) : Nat) ∧ g = .int .i64 (gr pts k) ∧ Hid (Below w2.heap.size w2 w')) (fun _ _ i _ => m - (intOf i).toNat)
  case atStart => exact ⟨0, Nat.zero_le _, rfl, rfl, rfl, Lib.hid (Below.refl _ _)⟩
  case round =>
    obtain ⟨k, hk, rfl, rfl, rfl, HB⟩ := hrel
    by_cases hlt : k < m
    · obtain ⟨g, rfl, hg, c0, c1, c2, c3, c4, c5⟩ := (HG.out.kept HB.out) k hlt
      have hli : (k : Int) < (m : Int) := by omega
      have HL := Lib.hid (fun W => time_calls (pts k) (pts (k + 1)) (HR.out k (by have := HMN.out; omega)) (HR.out (k + 1) (by have := HMN.out; omega)) W)
      have HDK := Lib.hid (show dt pts k = (pts (k + 1)).2.2 - (pts k).2.2 from rfl)
      obtain ⟨p, hpk⟩ : ∃ p, pts k = p := ⟨_, rfl⟩
      obtain ⟨q, hqk⟩ : ∃ q, pts (k + 1) = q := ⟨_, rfl⟩
      rw [hpk] at c0 c1 c2 HL HDK
      rw [hqk] at c3 c4 c5 HL HDK
      clear hpk hqk
      obtain ⟨u, hu⟩ : ∃ u, q.2.2 - p.2.2 = u := ⟨_, rfl⟩
      rw [hu] at HL HDK
      obtain ⟨G, hG⟩ : ∃ G, gr pts k = G := ⟨_, rfl⟩
      have HGG := Lib.hid hG
      rw [hG]
      clear hu hG
      by_cases hc : G < u
      · have HY := Lib.hid (gr_yes (pts := pts) (k := k) (by rw [HGG.out, HDK.out]; exact hc))
        generalize lp pts (k - 1) = l0 at *
        go_wp2_with fail
        with_reducible refine (HL.out _).mono ?_
        rintro e w3 ⟨rfl, hb2⟩
        have HB2 := Lib.hid (HB.out.trans (((below_alloc1 wr _).trans (hb2.mono (below_alloc1 wr _).size)).mono HB.out.size))
        clear hb2 c0 c1 c2 c3 c4 c5 HL
        go_wp2
        go_roundw
        case rel => exact ⟨k + 1, by omega, by go_num, by rw [show k + 1 - 1 = k from rfl, HY.out.1], by rw [HY.out.2, HDK.out], HB2⟩
        case measure => simp [intOf]; omega
      · have HY := Lib.hid (gr_no (pts := pts) (k := k) HD.out (by rw [HGG.out, HDK.out]; exact hc))
        have HLP := Lib.hid (show lp pts (k + 1 - 1) = lp pts (k - 1) from HY.out.1)
        generalize lp pts (k - 1) = l0 at *
        go_wp2_with fail
        with_reducible refine (HL.out _).mono ?_
        rintro e w3 ⟨rfl, hb2⟩
        have HB2 := Lib.hid (HB.out.trans (((below_alloc1 wr _).trans (hb2.mono (below_alloc1 wr _).size)).mono HB.out.size))
        clear hb2 c0 c1 c2 c3 c4 c5 HL
        go_wp2
        go_roundw
        case rel => exact ⟨k + 1, by omega, by go_num, by rw [HLP.out], by rw [HY.out.2, HGG.out], HB2⟩
        case measure => simp [intOf]; omega
    · obtain rfl : m = k := by omega
      go_wp2
      go_ret2
      exact ⟨by rw [HN2.out]; rfl, B2.out.trans (HB.out.mono B2.out.size)⟩
theorem meat (vs0 : Nat → Value) (g0 : Nat → Dat) (ht0 : tyrStroke g0) :
    costRec 1 g0 ≤ 1048576 → ∃ (r0 : Int) (r1 : Int), (∀ (W : World) (us0 : Nat → Value), ReadsRec W 1 us0 g0 → Calls Try.prog 27 #[.agg #[us0 0]] W fun e W' => e = .returned (.tuple #[.int .i64 r0, .int .i64 r1]) ∧ Below W.heap.size W W') ∧ (∀ (W : World) (us0 : Nat → Value), ReadsRec W 1 us0 g0 → Calls Try.prog 28 #[.agg #[us0 0]] W fun e W' => e = .returned (.tuple #[.int .i64 r0, .int .i64 r1]) ∧ Below W.heap.size W W') := by
  intro hq
  cases hv : vS (strN g0) (strP g0) with
  | true =>
    by_cases h1 : strN g0 = 1
    · exact ⟨_, _, fun W us0 h0 => by
        obtain ⟨A, c, e, hn, hp⟩ := reads_str h0 ht0 hq
        rw [e]; exact spec_one A _ _ W hn hp hv h1, fun W us0 h0 => by
        obtain ⟨A, c, e, hn, hp⟩ := reads_str h0 ht0 hq
        rw [e]; exact impl_one A _ _ W hn hp hv h1⟩
    · exact ⟨_, _, fun W us0 h0 => by
        obtain ⟨A, c, e, hn, hp⟩ := reads_str h0 ht0 hq
        rw [e]; exact spec_yes A _ _ W hn hp hv (by have := (vS_of hv).1; omega), fun W us0 h0 => by
        obtain ⟨A, c, e, hn, hp⟩ := reads_str h0 ht0 hq
        rw [e]; exact impl_yes A _ _ W hn hp hv (by have := (vS_of hv).1; omega)⟩
  | false => exact ⟨_, _, fun W us0 h0 => by
      obtain ⟨A, c, e, hn, hp⟩ := reads_str h0 ht0 hq
      rw [e]; exact spec_no A _ _ W hn hp hv, fun W us0 h0 => by
      obtain ⟨A, c, e, hn, hp⟩ := reads_str h0 ht0 hq
      rw [e]; exact impl_no A _ _ W hn hp hv⟩
end Go.Proofs.Ytmphnhffelfbgaa.wLongestPause
