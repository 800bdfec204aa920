/-
  Proved: both functions return the same straightness of a stroke.
  Conditions: none.
-/
import Derived.Test.YtmpiijnhbeipiaaLenI
namespace Go.Proofs.Ytmpiijnhbeipiaa.wStraightOf
open Go.ChangeShapes Go.WideShapes Go.ChangeAt Go.RowKit Go.Joins
open Go.Proofs.Ytmpiijnhbeipiaa.core Go.Proofs.Ytmpiijnhbeipiaa.geoM Go.Proofs.Ytmpiijnhbeipiaa.stk Go.Proofs.Ytmpiijnhbeipiaa.seg Go.Proofs.Ytmpiijnhbeipiaa.side Go.Proofs.Ytmpiijnhbeipiaa.all Go.Proofs.Ytmpiijnhbeipiaa.lenS Go.Proofs.Ytmpiijnhbeipiaa.segs Go.Proofs.Ytmpiijnhbeipiaa.lenI
set_option linter.unusedVariables false
set_option linter.unusedSimpArgs false
def strt (pts : Nat → P3) (n : Nat) : Nat := if lens pts (n - 1) = 0 then 1000 else min 1000 (1000 * len (pts 0) (pts (n - 1)) / lens pts (n - 1))
theorem ret2 {a b z : Int} (h : a = b) : Ending.returned (.tuple #[.int .i64 a, .int .i64 z]) = .returned (.tuple #[.int .i64 b, .int .i64 z]) := by rw [h]
theorem min_calls (a b : Int) (w : World) : Calls Try.prog 79 #[.int .i64 a, .int .i64 b] w fun e w' => e = .returned (.int .i64 (min a b)) ∧ w = w' := by
  go_enter Try.func79, Try.ntmps79
  go_wp2
  all_goals go_ret
  all_goals exact ⟨stk.ret_int (by omega), rfl⟩
theorem min_b (a b : Int) (w : World) : Calls Try.prog 79 #[.int .i64 a, .int .i64 b] w fun e w' => e = .returned (.int .i64 (min a b)) ∧ Below w.heap.size w w' :=
  (min_calls a b w).mono fun _ _ ⟨he, hw⟩ => ⟨he, by rw [← hw]; exact Below.refl _ _⟩
set_option maxRecDepth 100000 in
set_option maxHeartbeats 2000000 in
theorem specStr {c o : Nat} (A : Option Addr) (b n : Nat) (pts : Nat → P3) (w : World) (h1 : 1 ≤ n) (h60 : n ≤ 60) (hr : ∀ i, i < n → Rg (pts i)) (hbz : b < w.heap.size) (hs : w.cell? ⟨b, o, none⟩ = some (.slice A n c)) (hp : PtsAt w A n pts) :
    Calls Try.prog 63 #[.pointer (some ⟨b, o, none⟩)] w fun e w' => e = .returned (.int .i64 (strt pts n : Nat)) ∧ Below w.heap.size w w' := by
  have HSM := Lib.hid (specSum (c := c) (o := o) A b n pts w h1 h60 hr hbz hs hp)
  have hle := lens_le hr (n - 1) (by omega)
  have hll := len_le (hr 0 (by omega)) (hr (n - 1) (by omega))
  have HL := Lib.hid (fun W => specLen (pts 0) (pts (n - 1)) (hr 0 (by omega)) (hr (n - 1) (by omega)) W)
  have hst : strt pts n = if lens pts (n - 1) = 0 then 1000 else min 1000 (1000 * len (pts 0) (pts (n - 1)) / lens pts (n - 1)) := rfl
  have hle' : lens pts (n - 1) ≤ 60 * 92700 := Nat.le_trans hle (Nat.mul_le_mul_right _ (by omega))
  obtain ⟨g, o', rfl, hg, p0, p1, p2⟩ := hp 0 (by omega)
  obtain ⟨g2, o2, e2, -, q0, q1, q2⟩ := hp (n - 1) (by omega)
  injection e2 with e2
  injection e2 with e2 e3
  subst e2 e3
  obtain ⟨m, rfl⟩ : ∃ m, n = m + 1 := ⟨n - 1, by omega⟩
  rw [show m + 1 - 1 = m from rfl] at *
  generalize strt pts (m + 1) = T at *
  generalize lens pts m = S at *
  generalize len (pts 0) (pts m) = L at *
  obtain ⟨p, hpk⟩ : ∃ p, pts 0 = p := ⟨_, rfl⟩
  obtain ⟨q, hqk⟩ : ∃ q, pts m = q := ⟨_, rfl⟩
  rw [hpk] at p0 p1 p2 HL
  rw [hqk] at q0 q1 q2 HL
  rw [Nat.zero_mul, Nat.add_zero] at p0 p1 p2
  have HQ := Lib.hid (And.intro p0 (And.intro p1 (And.intro p2 (And.intro q0 (And.intro q1 (And.intro q2 hs))))))
  have HT := Lib.hid hst
  have hm := mixedO
  clear hpk hqk p0 p1 p2 q0 q1 q2 hs hp hr hst hle
  by_cases hz : S = 0
  · have HT2 := Lib.hid (HT.out.trans (if_pos hz))
    subst hz
    go_enter Try.func63, Try.ntmps63
    go_wp2_with fail
    refine HSM.out.mono ?_
    rintro e w1 ⟨rfl, hb1⟩
    have B1 := Lib.hid hb1
    clear hb1
    go_wp2
    go_ret
    exact ⟨stk.ret_int (by rw [HT2.out]; rfl), B1.out⟩
  · have HT2 := Lib.hid (HT.out.trans (if_neg hz))
    obtain ⟨Q, hQ⟩ : ∃ Q, Q = 1000 * L / S := ⟨_, rfl⟩
    have hQle : Q ≤ 1000 * L := by rw [hQ]; exact Nat.div_le_self _ _
    rw [← hQ] at HT2
    have hd : ((1000 * L : Nat) : Int).tdiv (S : Int) = (Q : Int) := by rw [hQ, Int.tdiv_eq_ediv_of_nonneg (by omega)]; exact (Int.natCast_ediv _ _).symm
    have HQD := Lib.hid (show (1000 * (L : Int)) / (S : Int) = (Q : Int) by rw [hQ]; push_cast; rfl)
    obtain ⟨M, hM⟩ : ∃ M, M = 1000 * L := ⟨_, rfl⟩
    rw [← hM] at hd hQle
    have hM1 : IntKind.i64.wrap (1000 * (L : Int)) = (M : Int) := by rw [IntWalk.i64_in _ (by omega)]; omega
    have hQ1 : IntKind.i64.wrap (Q : Int) = (Q : Int) := IntWalk.i64_in _ (by omega)
    have hne : ¬ (S : Int) = 0 := by omega
    have hne2 : ((S : Int) == 0) = false := by simp; omega
    have hw1 : IntKind.i64.wrap (m : Int) = (m : Int) := IntWalk.i64_in _ (by omega)
    have hmlt : m < m + 1 := by omega
    have HZ := Lib.hid hz
    clear hz hQ HT
    go_enter Try.func63, Try.ntmps63
    go_wp2_with fail
    refine HSM.out.mono ?_
    rintro e w1 ⟨rfl, hb1⟩
    have B1 := Lib.hid hb1
    have hgz : g < w1.heap.size := Nat.lt_of_lt_of_le hg hb1.size
    have hbz' : b < w1.heap.size := Nat.lt_of_lt_of_le hbz hb1.size
    clear hb1
    have c0 := cell_kept (w := w1) (a := ⟨g, o', none⟩) hgz ((B1.out.cell hg).trans HQ.out.1)
    have c1 := cell_kept (w := w1) (a := ⟨g, o' + 1, none⟩) hgz ((B1.out.cell hg).trans HQ.out.2.1)
    have c2 := cell_kept (w := w1) (a := ⟨g, o' + 2, none⟩) hgz ((B1.out.cell hg).trans HQ.out.2.2.1)
    have d0 := cell_kept (w := w1) (a := ⟨g, o' + m * 3, none⟩) hgz ((B1.out.cell hg).trans HQ.out.2.2.2.1)
    have d1 := cell_kept (w := w1) (a := ⟨g, o' + m * 3 + 1, none⟩) hgz ((B1.out.cell hg).trans HQ.out.2.2.2.2.1)
    have d2 := cell_kept (w := w1) (a := ⟨g, o' + m * 3 + 2, none⟩) hgz ((B1.out.cell hg).trans HQ.out.2.2.2.2.2.1)
    have c4 := cell_kept (w := w1) (a := ⟨b, o, none⟩) hbz' ((B1.out.cell hbz).trans HQ.out.2.2.2.2.2.2)
    go_wp2
    refine wp_region_quiet_kept (by assumption) (by kernel_rfl) ?_
    repeat (first | go_big_quiet_step ((first | (go_at_call 46; exact Calls.kept_of (HL.out _)) | (go_at_call 79; exact Calls.kept_of (min_b _ _ _)))) | quiet_step ((first | (go_at_call 46; exact Calls.kept_of (HL.out _)) | (go_at_call 79; exact Calls.kept_of (min_b _ _ _)))))
    refine wpQuiet_nil ?_
    intro w2 hw'
    have hB : Below w1.heap.size w1 w2 := by obtain ⟨⟨wk, hb0⟩, hw''⟩ := hw'; rw [hw'']; exact hb0
    have HB2 := Lib.hid (B1.out.trans (hB.mono B1.out.size))
    clear hw' hB c0 c1 c2 d0 d1 d2 c4 hd hM1 hQ1 hw1
    go_wp2
    go_ret
    exact ⟨stk.ret_int (by rw [HT2.out]; have := HQD.out; omega), HB2.out⟩
set_option maxRecDepth 100000 in
set_option maxHeartbeats 2000000 in
theorem spec_no {c : Nat} (A : Option Addr) (n : Nat) (pts : Nat → P3) (w : World) (hcap : n ≤ 1048576) (hp : PtsAt w A n pts) (hv : vS n pts = false) :
    Calls Try.prog 32 #[.agg #[.slice A n c]] w fun e w' => e = .returned (.tuple #[.int .i64 0, .int .i64 1]) ∧ Below w.heap.size w w' := by
  have B0 := Lib.hid (below_alloc1 w (.cells #[.slice A n c] 38))
  have HS := Lib.hid (l02Stroke_calls (c := c) (o := 0) A w.heap.size n pts (w.alloc (.cells #[.slice A n c] 38)) hcap (by simp) (by simp) (hp.kept B0.out))
  rw [hv] at HS
  clear hp hv
  go_enter Try.func32, Try.ntmps32
  go_wp2_with fail
  refine HS.out.mono ?_
  rintro e w1 ⟨rfl, hb1⟩
  have B1 := Lib.hid (B0.out.trans (hb1.mono B0.out.size))
  clear hb1 HS
  go_wp2
  go_ret2
  exact ⟨rfl, B1.out⟩
set_option maxRecDepth 100000 in
set_option maxHeartbeats 2000000 in
theorem impl_no {c : Nat} (A : Option Addr) (n : Nat) (pts : Nat → P3) (w : World) (hcap : n ≤ 1048576) (hp : PtsAt w A n pts) (hv : vS n pts = false) :
    Calls Try.prog 33 #[.agg #[.slice A n c]] w fun e w' => e = .returned (.tuple #[.int .i64 0, .int .i64 1]) ∧ Below w.heap.size w w' := by
  have B0 := Lib.hid (below_alloc1 w (.cells #[.slice A n c] 38))
  have HS := Lib.hid (implValid_calls (c := c) A n pts (w.alloc (.cells #[.slice A n c] 38)) hcap (hp.kept B0.out))
  rw [hv] at HS
  clear hp hv
  go_enter Try.func33, Try.ntmps33
  go_wp2_with fail
  refine HS.out.mono ?_
  rintro e w1 ⟨rfl, hb1⟩
  have B1 := Lib.hid (B0.out.trans (hb1.mono B0.out.size))
  clear hb1 HS
  go_wp2
  go_ret2
  exact ⟨rfl, B1.out⟩
set_option maxRecDepth 100000 in
set_option maxHeartbeats 2000000 in
theorem spec_yes {c : Nat} (A : Option Addr) (n : Nat) (pts : Nat → P3) (w : World) (hcap : n ≤ 1048576) (hp : PtsAt w A n pts) (hv : vS n pts = true) :
    Calls Try.prog 32 #[.agg #[.slice A n c]] w fun e w' => e = .returned (.tuple #[.int .i64 (strt pts n : Nat), .int .i64 0]) ∧ Below w.heap.size w w' := by
  obtain ⟨h1, h60, -⟩ := vS_of hv
  have hr := vS_rg hv
  have B0 := Lib.hid (below_alloc1 w (.cells #[.slice A n c] 38))
  have HS := Lib.hid (l02Stroke_calls (c := c) (o := 0) A w.heap.size n pts (w.alloc (.cells #[.slice A n c] 38)) hcap (by simp) (by simp) (hp.kept B0.out))
  rw [hv] at HS
  have HP := Lib.hid (hp.kept B0.out)
  have HR := Lib.hid hr
  clear hp hv hr
  go_enter Try.func32, Try.ntmps32
  go_wp2_with fail
  refine HS.out.mono ?_
  rintro e w1 ⟨rfl, hb1⟩
  have c0 := (hb1.cell (p := ⟨w.heap.size, 0, none⟩) (by simp)).trans (show _ = some (.slice A n c) by simp)
  have z1 : w.heap.size < w1.heap.size := by have := hb1.size; simp at this; omega
  have B1 := Lib.hid (B0.out.trans (hb1.mono B0.out.size))
  have HP1 := Lib.hid (HP.out.kept hb1)
  clear hb1 HS HP
  go_wp2_with fail
  refine (specStr (c := c) (o := 0) A w.heap.size n pts w1 h1 h60 HR.out z1 c0 HP1.out).mono ?_
  rintro e w2 ⟨rfl, hb2⟩
  have B2 := Lib.hid (B1.out.trans (hb2.mono B1.out.size))
  clear hb2 c0
  go_wp2
  go_ret2
  exact ⟨rfl, B2.out⟩
set_option maxRecDepth 100000 in
set_option maxHeartbeats 2000000 in
theorem impl_yes {c : Nat} (A : Option Addr) (n : Nat) (pts : Nat → P3) (w : World) (hcap : n ≤ 1048576) (hp : PtsAt w A n pts) (hv : vS n pts = true) :
    Calls Try.prog 33 #[.agg #[.slice A n c]] w fun e w' => e = .returned (.tuple #[.int .i64 (strt pts n : Nat), .int .i64 0]) ∧ Below w.heap.size w w' := by
  obtain ⟨h1, h60, -⟩ := vS_of hv
  have hr := vS_rg hv
  have B0 := Lib.hid (below_alloc1 w (.cells #[.slice A n c] 38))
  have HS := Lib.hid (implValid_calls (c := c) A n pts (w.alloc (.cells #[.slice A n c] 38)) hcap (hp.kept B0.out))
  rw [hv] at HS
  have HP := Lib.hid (hp.kept B0.out)
  have HR := Lib.hid hr
  clear hp hv hr
  go_enter Try.func33, Try.ntmps33
  go_wp2_with fail
  refine HS.out.mono ?_
  rintro e w1 ⟨rfl, hb1⟩
  have c0 := (hb1.cell (p := ⟨w.heap.size, 0, none⟩) (by simp)).trans (show _ = some (.slice A n c) by simp)
  have z1 : w.heap.size < w1.heap.size := by have := hb1.size; simp at this; omega
  have B1 := Lib.hid (B0.out.trans (hb1.mono B0.out.size))
  have HP1 := Lib.hid (HP.out.kept hb1)
  clear hb1 HS HP
  have HSM := Lib.hid (lenI.length_calls (c := c) A n pts w1 h1 h60 HR.out HP1.out)
  have hle := lens_le HR.out (n - 1) (by omega)
  have hll := len_le (HR.out 0 (by omega)) (HR.out (n - 1) (by omega))
  have HL := Lib.hid (fun W => side.length_calls (pts 0) (pts (n - 1)) (HR.out 0 (by omega)) (HR.out (n - 1) (by omega)) W)
  have hst : strt pts n = if lens pts (n - 1) = 0 then 1000 else min 1000 (1000 * len (pts 0) (pts (n - 1)) / lens pts (n - 1)) := rfl
  have hle' : lens pts (n - 1) ≤ 60 * 92700 := Nat.le_trans hle (Nat.mul_le_mul_right _ (by omega))
  obtain ⟨m, rfl⟩ : ∃ m, n = m + 1 := ⟨n - 1, by omega⟩
  rw [show m + 1 - 1 = m from rfl] at *
  obtain ⟨g, o', rfl, hg, p0, p1, p2⟩ := HP1.out 0 (by omega)
  obtain ⟨g2, o2, e2, -, q0, q1, q2⟩ := HP1.out m (by omega)
  injection e2 with e2
  injection e2 with e2 e3
  subst e2 e3
  generalize lens pts m = S at *
  generalize len (pts 0) (pts m) = L at *
  obtain ⟨p, hpk⟩ : ∃ p, pts 0 = p := ⟨_, rfl⟩
  obtain ⟨q, hqk⟩ : ∃ q, pts m = q := ⟨_, rfl⟩
  rw [hpk] at p0 p1 p2 HL
  rw [hqk] at q0 q1 q2 HL
  rw [Nat.zero_mul, Nat.add_zero] at p0 p1 p2
  have HQ := Lib.hid (And.intro p0 (And.intro p1 (And.intro p2 (And.intro q0 (And.intro q1 q2)))))
  have HT := Lib.hid hst
  have hmlt : m < m + 1 := by omega
  clear hpk hqk p0 p1 p2 q0 q1 q2 hst hle HP1
  go_wp2_with fail
  refine HSM.out.mono ?_
  rintro e w2 ⟨rfl, hb2⟩
  have B2 := Lib.hid (B1.out.trans (hb2.mono B1.out.size))
  by_cases hz : S = 0
  · have HT2 := Lib.hid (HT.out.trans (if_pos hz))
    subst hz
    clear hb2 c0 HQ HT
    go_wp2
    go_ret2
    exact ⟨by rw [HT2.out]; rfl, B2.out⟩
  · have HT2 := Lib.hid (HT.out.trans (if_neg hz))
    obtain ⟨Q, hQ⟩ : ∃ Q, Q = 1000 * L / S := ⟨_, rfl⟩
    have hQle : Q ≤ 1000 * L := by rw [hQ]; exact Nat.div_le_self _ _
    have HQD := Lib.hid (show (1000 * (L : Int)) / (S : Int) = (Q : Int) by rw [hQ]; push_cast; rfl)
    rw [← hQ] at HT2
    have hne : ¬ (S : Int) = 0 := by omega
    have hne2 : ((S : Int) == 0) = false := by simp; omega
    have hw1 : IntKind.i64.wrap (m : Int) = (m : Int) := IntWalk.i64_in _ (by omega)
    have hgz : g < w2.heap.size := Nat.lt_of_lt_of_le hg hb2.size
    have k0 := (hb2.cell (p := ⟨g, o', none⟩) hg).trans HQ.out.1
    have k1 := (hb2.cell (p := ⟨g, o' + 1, none⟩) hg).trans HQ.out.2.1
    have k2 := (hb2.cell (p := ⟨g, o' + 2, none⟩) hg).trans HQ.out.2.2.1
    have d0 := (hb2.cell (p := ⟨g, o' + m * 3, none⟩) hg).trans HQ.out.2.2.2.1
    have d1 := (hb2.cell (p := ⟨g, o' + m * 3 + 1, none⟩) hg).trans HQ.out.2.2.2.2.1
    have d2 := (hb2.cell (p := ⟨g, o' + m * 3 + 2, none⟩) hg).trans HQ.out.2.2.2.2.2
    have c4 := (hb2.cell (p := ⟨w.heap.size, 0, none⟩) z1).trans c0
    have z2 : w.heap.size < w2.heap.size := Nat.lt_of_lt_of_le z1 hb2.size
    have hmi : (m : Int) < (m : Int) + 1 := by omega
    clear hb2 c0 HQ HT hz hQ
    go_wp2
    go_region
    clear k0 k1 k2 d0 d1 d2 c4
    go_wp2_with fail
    with_reducible refine (HL.out _).mono ?_
    rintro e w3 ⟨rfl, hb3⟩
    have B3 := Lib.hid (B2.out.trans (((below_drewN (below_alloc1 w2 _) 1).trans (hb3.mono (below_drewN (below_alloc1 w2 _) 1).size)).mono B2.out.size))
    clear hb3
    go_wp2
    all_goals go_ret2
    all_goals exact ⟨ret2 (by rw [HT2.out]; have := HQD.out; omega), B3.out⟩
theorem meat (vs0 : Nat → Value) (g0 : Nat → Dat) (ht0 : tyrStroke g0) :
    costRec 1 g0 ≤ 1048576 → ∃ (r0 : Int) (r1 : Int), (∀ (W : World) (us0 : Nat → Value), ReadsRec W 1 us0 g0 → Calls Try.prog 32 #[.agg #[us0 0]] W fun e W' => e = .returned (.tuple #[.int .i64 r0, .int .i64 r1]) ∧ Below W.heap.size W W') ∧ (∀ (W : World) (us0 : Nat → Value), ReadsRec W 1 us0 g0 → Calls Try.prog 33 #[.agg #[us0 0]] W fun e W' => e = .returned (.tuple #[.int .i64 r0, .int .i64 r1]) ∧ Below W.heap.size W W') := by
  intro hq
  cases hv : vS (strN g0) (strP g0) with
  | true => exact ⟨_, _, fun W us0 h0 => by
      obtain ⟨A, c, e, hn, hp⟩ := reads_str h0 ht0 hq
      rw [e]; exact spec_yes A _ _ W hn hp hv, fun W us0 h0 => by
      obtain ⟨A, c, e, hn, hp⟩ := reads_str h0 ht0 hq
      rw [e]; exact impl_yes A _ _ W hn hp hv⟩
  | false => exact ⟨_, _, fun W us0 h0 => by
      obtain ⟨A, c, e, hn, hp⟩ := reads_str h0 ht0 hq
      rw [e]; exact spec_no A _ _ W hn hp hv, fun W us0 h0 => by
      obtain ⟨A, c, e, hn, hp⟩ := reads_str h0 ht0 hq
      rw [e]; exact impl_no A _ _ W hn hp hv⟩
end Go.Proofs.Ytmpiijnhbeipiaa.wStraightOf
