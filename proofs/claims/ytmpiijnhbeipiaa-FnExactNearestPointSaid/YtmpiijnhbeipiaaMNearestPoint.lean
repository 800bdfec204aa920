/-
  Proved: both functions return the same nearest point of a stroke.
  Conditions: none.
-/
import Derived.Test.YtmpiijnhbeipiaaLenI
import Derived.WalkMore
namespace Go.Proofs.Ytmpiijnhbeipiaa.wNearestPoint
open Go.ChangeShapes Go.WideShapes Go.ChangeAt Go.RowKit Go.Joins
open Go.Proofs.Ytmpiijnhbeipiaa.core Go.Proofs.Ytmpiijnhbeipiaa.geoM Go.Proofs.Ytmpiijnhbeipiaa.stk Go.Proofs.Ytmpiijnhbeipiaa.seg Go.Proofs.Ytmpiijnhbeipiaa.side Go.Proofs.Ytmpiijnhbeipiaa.all Go.Proofs.Ytmpiijnhbeipiaa.lenS Go.Proofs.Ytmpiijnhbeipiaa.segs Go.Proofs.Ytmpiijnhbeipiaa.lenI
set_option linter.unusedVariables false
set_option linter.unusedSimpArgs false
theorem ret2 {a b z : Int} (h : a = b) : Ending.returned (.tuple #[.int .i64 a, .int .i64 z]) = .returned (.tuple #[.int .i64 b, .int .i64 z]) := by rw [h]
/-- The first one of the nearest among the points up to k. -/
def nr (pts : Nat → P3) (p : P3) : Nat → Nat
  | 0 => 0
  | k + 1 => if far (pts (k + 1)) p < far (pts (nr pts p k)) p then k + 1 else nr pts p k
theorem nr_le (pts : Nat → P3) (p : P3) : ∀ k, nr pts p k ≤ k
  | 0 => Nat.le_refl _
  | k + 1 => by
    rw [nr]
    split
    · omega
    · have := nr_le pts p k; omega
theorem nr_yes {pts : Nat → P3} {p : P3} {k : Nat} (h : far (pts (k + 1)) p < far (pts (nr pts p k)) p) : nr pts p (k + 1) = k + 1 := by rw [nr, if_pos h]
theorem nr_no {pts : Nat → P3} {p : P3} {k : Nat} (h : ¬ far (pts (k + 1)) p < far (pts (nr pts p k)) p) : nr pts p (k + 1) = nr pts p k := by rw [nr, if_neg h]
/-- Behind a point at no distance, none is nearer. -/
theorem nr_stop {pts : Nat → P3} {p : P3} {k : Nat} (h : far (pts (nr pts p k)) p = 0) : ∀ m, k ≤ m → nr pts p m = nr pts p k := by
  intro m
  induction m with
  | zero => intro hm; obtain rfl : k = 0 := by omega
            rfl
  | succ m ih =>
    intro hm
    rcases Nat.lt_or_ge m k with g | g
    · obtain rfl : k = m + 1 := by omega
      rfl
    · have e := ih g
      rw [nr_no (by rw [e, h]; omega), e]
theorem cellN (W : World) (cs : Array Value) (T : TypeId) (b q : Nat) (v : Value) (hb : W.heap.size = b) (h : cs[q]? = some v) : (W.alloc (.cells cs T)).cell? ⟨b, q, none⟩ = some v := by
  subst hb
  rw [cell_of_block (heap_alloc_new W _)]
  exact h
theorem cellA (W : World) (o : Obj) (b q : Nat) (v : Value) (hb : b < W.heap.size) (h : W.cell? ⟨b, q, none⟩ = some v) : (W.alloc o).cell? ⟨b, q, none⟩ = some v := ((below_alloc1 W o).cell (p := ⟨b, q, none⟩) hb).trans h
/-- The arguments' boxes, and nothing else turned. -/
structure Two (w : World) (A : Option Addr) (n c : Nat) (p : P3) (W : World) : Prop where
  below : Below w.heap.size w W
  z : w.heap.size + 1 < W.heap.size
  s0 : W.cell? ⟨w.heap.size, 0, none⟩ = some (.slice A n c)
  p0 : W.cell? ⟨w.heap.size + 1, 0, none⟩ = some (.int .i64 p.1)
  p1 : W.cell? ⟨w.heap.size + 1, 1, none⟩ = some (.int .i64 p.2.1)
  p2 : W.cell? ⟨w.heap.size + 1, 2, none⟩ = some (.int .i64 p.2.2)
theorem Two.kept {w : World} {A : Option Addr} {n c : Nat} {p : P3} {W W' : World} (h : Two w A n c p W) (hb : Below W.heap.size W W') : Two w A n c p W' := by
  have z := h.z
  have k : ∀ (x q : Nat), x ≤ w.heap.size + 1 → W'.cell? ⟨x, q, none⟩ = W.cell? ⟨x, q, none⟩ := fun x q hx => hb.cell (p := ⟨x, q, none⟩) (by show x < _; omega)
  exact ⟨h.below.trans (hb.mono h.below.size), Nat.lt_of_lt_of_le z hb.size, (k _ _ (by omega)).trans h.s0, (k _ _ (by omega)).trans h.p0, (k _ _ (by omega)).trans h.p1, (k _ _ (by omega)).trans h.p2⟩
theorem Two.start (w : World) (A : Option Addr) (n c : Nat) (p : P3) : Two w A n c p ((w.alloc (.cells #[.slice A n c] 38)).alloc (.cells #[.int .i64 p.1, .int .i64 p.2.1, .int .i64 p.2.2] 28)) :=
  ⟨below_alloc2 w _ _, by simp, cellA _ _ _ _ _ (by simp) (by simp), cellN _ _ _ _ _ _ (by simp) (by simp), cellN _ _ _ _ _ _ (by simp) (by simp), cellN _ _ _ _ _ _ (by simp) (by simp)⟩
set_option maxRecDepth 100000 in
set_option maxHeartbeats 4000000 in
theorem spec_no0 {c : Nat} (A : Option Addr) (n : Nat) (pts : Nat → P3) (p : P3) (w : World) (hcap : n ≤ 1048576) (hp : PtsAt w A n pts) (hv : vS n pts = false) :
    Calls Try.prog 34 #[.agg #[.slice A n c], pv p] w fun e w' => e = .returned (.tuple #[.int .i64 0, .int .i64 1]) ∧ Below w.heap.size w w' := by
  have F0 := Lib.hid (Two.start w A n c p)
  have HP := Lib.hid (hp.kept (below_alloc2 w (.cells #[.slice A n c] 38) (.cells #[.int .i64 p.1, .int .i64 p.2.1, .int .i64 p.2.2] 28)))
  have HS := Lib.hid (l02Stroke_calls (c := c) (o := 0) A w.heap.size n pts ((w.alloc (.cells #[.slice A n c] 38)).alloc (.cells #[.int .i64 p.1, .int .i64 p.2.1, .int .i64 p.2.2] 28)) hcap (by simp; omega) F0.out.s0 HP.out)
  rw [hv] at HS
  have hu : undef = Value.tuple #[] := rfl
  clear hp hv
  go_enter Try.func34, Try.ntmps34
  skip
  go_wp2_with fail
  refine HS.out.mono ?_
  rintro e w1 ⟨rfl, hb⟩
  have F1 := Lib.hid (F0.out.kept hb)
  clear hb hu
  go_wp2
  skip
  go_ret2
  exact ⟨rfl, F1.out.below⟩
set_option maxRecDepth 100000 in
set_option maxHeartbeats 4000000 in
theorem spec_no1 {c : Nat} (A : Option Addr) (n : Nat) (pts : Nat → P3) (p : P3) (w : World) (hcap : n ≤ 1048576) (hp : PtsAt w A n pts) (hv : vS n pts = true) (hi : inP p = false) :
    Calls Try.prog 34 #[.agg #[.slice A n c], pv p] w fun e w' => e = .returned (.tuple #[.int .i64 0, .int .i64 1]) ∧ Below w.heap.size w w' := by
  have F0 := Lib.hid (Two.start w A n c p)
  have HP := Lib.hid (hp.kept (below_alloc2 w (.cells #[.slice A n c] 38) (.cells #[.int .i64 p.1, .int .i64 p.2.1, .int .i64 p.2.2] 28)))
  have HS := Lib.hid (l02Stroke_calls (c := c) (o := 0) A w.heap.size n pts ((w.alloc (.cells #[.slice A n c] 38)).alloc (.cells #[.int .i64 p.1, .int .i64 p.2.1, .int .i64 p.2.2] 28)) hcap (by simp; omega) F0.out.s0 HP.out)
  rw [hv] at HS
  have HI := Lib.hid (fun W => specPoint p false hi W)
  clear hp hv hi
  go_enter Try.func34, Try.ntmps34
  skip
  go_wp2_with fail
  refine HS.out.mono ?_
  rintro e w1 ⟨rfl, hb⟩
  have F1 := Lib.hid (F0.out.kept hb)
  have HP1 := Lib.hid (HP.out.kept hb)
  clear hb
  have s0 := F1.out.s0
  have p0 := F1.out.p0
  have p1 := F1.out.p1
  have p2 := F1.out.p2
  go_wp2_with fail
  with_reducible refine (HI.out _).mono ?_
  rintro e w2 ⟨rfl, hb⟩
  have F2 := Lib.hid (F1.out.kept hb)
  have HP2 := Lib.hid (HP1.out.kept hb)
  clear hb s0 p0 p1 p2
  go_wp2
  skip
  go_ret2
  exact ⟨rfl, F2.out.below⟩
set_option maxRecDepth 100000 in
set_option maxHeartbeats 4000000 in
theorem impl_no0 {c : Nat} (A : Option Addr) (n : Nat) (pts : Nat → P3) (p : P3) (w : World) (hcap : n ≤ 1048576) (hp : PtsAt w A n pts) (hv : vS n pts = false) :
    Calls Try.prog 35 #[.agg #[.slice A n c], pv p] w fun e w' => e = .returned (.tuple #[.int .i64 0, .int .i64 1]) ∧ Below w.heap.size w w' := by
  have F0 := Lib.hid (Two.start w A n c p)
  have HP := Lib.hid (hp.kept (below_alloc2 w (.cells #[.slice A n c] 38) (.cells #[.int .i64 p.1, .int .i64 p.2.1, .int .i64 p.2.2] 28)))
  have HS := Lib.hid (implValid_calls (c := c) A n pts ((w.alloc (.cells #[.slice A n c] 38)).alloc (.cells #[.int .i64 p.1, .int .i64 p.2.1, .int .i64 p.2.2] 28)) hcap HP.out)
  rw [hv] at HS
  have hu : undef = Value.tuple #[] := rfl
  clear hp hv
  go_enter Try.func35, Try.ntmps35
  go_wp2_with fail
  go_step3
  go_wp2_with fail
  refine HS.out.mono ?_
  rintro e w1 ⟨rfl, hb⟩
  have F1 := Lib.hid (F0.out.kept hb)
  clear hb hu
  go_wp2
  rw [Exit.noGoto_ret]
  go_ret2
  exact ⟨rfl, F1.out.below⟩
set_option maxRecDepth 100000 in
set_option maxHeartbeats 4000000 in
theorem impl_no1 {c : Nat} (A : Option Addr) (n : Nat) (pts : Nat → P3) (p : P3) (w : World) (hcap : n ≤ 1048576) (hp : PtsAt w A n pts) (hv : vS n pts = true) (hi : inP p = false) :
    Calls Try.prog 35 #[.agg #[.slice A n c], pv p] w fun e w' => e = .returned (.tuple #[.int .i64 0, .int .i64 1]) ∧ Below w.heap.size w w' := by
  have F0 := Lib.hid (Two.start w A n c p)
  have HP := Lib.hid (hp.kept (below_alloc2 w (.cells #[.slice A n c] 38) (.cells #[.int .i64 p.1, .int .i64 p.2.1, .int .i64 p.2.2] 28)))
  have HS := Lib.hid (implValid_calls (c := c) A n pts ((w.alloc (.cells #[.slice A n c] 38)).alloc (.cells #[.int .i64 p.1, .int .i64 p.2.1, .int .i64 p.2.2] 28)) hcap HP.out)
  rw [hv] at HS
  have HI := Lib.hid (fun W => implPoint p false hi W)
  clear hp hv hi
  go_enter Try.func35, Try.ntmps35
  go_wp2_with fail
  go_step3
  go_wp2_with fail
  refine HS.out.mono ?_
  rintro e w1 ⟨rfl, hb⟩
  have F1 := Lib.hid (F0.out.kept hb)
  have HP1 := Lib.hid (HP.out.kept hb)
  clear hb
  have s0 := F1.out.s0
  have p0 := F1.out.p0
  have p1 := F1.out.p1
  have p2 := F1.out.p2
  go_wp2_with fail
  with_reducible refine (HI.out _).mono ?_
  rintro e w2 ⟨rfl, hb⟩
  have F2 := Lib.hid (F1.out.kept hb)
  have HP2 := Lib.hid (HP1.out.kept hb)
  clear hb s0 p0 p1 p2
  go_wp2
  rw [Exit.noGoto_ret]
  go_ret2
  exact ⟨rfl, F2.out.below⟩
set_option maxRecDepth 100000 in
set_option maxHeartbeats 4000000 in
theorem spec_yes {c : Nat} (A : Option Addr) (n : Nat) (pts : Nat → P3) (p : P3) (w : World) (hcap : n ≤ 1048576) (hp : PtsAt w A n pts) (hv : vS n pts = true) (hi : inP p = true) :
    Calls Try.prog 34 #[.agg #[.slice A n c], pv p] w fun e w' => e = .returned (.tuple #[.int .i64 (nr pts p (n - 1) : Nat), .int .i64 0]) ∧ Below w.heap.size w w' := by
  obtain ⟨h1, h60, -⟩ := vS_of hv
  have HR := Lib.hid (vS_rg hv)
  have hpr := inP_rg hi
  have HPR := Lib.hid hpr
  have F0 := Lib.hid (Two.start w A n c p)
  have HP := Lib.hid (hp.kept (below_alloc2 w (.cells #[.slice A n c] 38) (.cells #[.int .i64 p.1, .int .i64 p.2.1, .int .i64 p.2.2] 28)))
  have HS := Lib.hid (l02Stroke_calls (c := c) (o := 0) A w.heap.size n pts ((w.alloc (.cells #[.slice A n c] 38)).alloc (.cells #[.int .i64 p.1, .int .i64 p.2.1, .int .i64 p.2.2] 28)) hcap (by simp; omega) F0.out.s0 HP.out)
  rw [hv] at HS
  have HI := Lib.hid (fun W => specPoint p true hi W)
  have hm := mixedO
  have HNR := Lib.hid (nr_le pts p)
  clear hp hv hi hpr hcap
  go_enter Try.func34, Try.ntmps34
  skip
  go_wp2_with fail
  refine HS.out.mono ?_
  rintro e w1 ⟨rfl, hb⟩
  have F1 := Lib.hid (F0.out.kept hb)
  have HP1 := Lib.hid (HP.out.kept hb)
  clear hb
  have s0 := F1.out.s0
  have p0 := F1.out.p0
  have p1 := F1.out.p1
  have p2 := F1.out.p2
  go_wp2_with fail
  with_reducible refine (HI.out _).mono ?_
  rintro e w2 ⟨rfl, hb⟩
  have F2 := Lib.hid (F1.out.kept hb)
  have HP2 := Lib.hid (HP1.out.kept hb)
  clear hb s0 p0 p1 p2
  clear HP HP1 F0 F1 HI HS
  go_wp2
  go_loopw [6, 7] (fun b i w' => ∃ k : Nat, k + 1 ≤ n ∧ i = .int .i64 ((k + 1 : Nat) : Int) ∧ b = .int .i64 (nr pts p k : Nat) ∧ Hid (Below w2.heap.size w2 w')) (fun _ i _ => n - (intOf i).toNat)
  case atStart => exact ⟨0, h1, rfl, rfl, Lib.hid (Below.refl _ _)⟩
  case round =>
    obtain ⟨k, hk, rfl, rfl, HB⟩ := hrel
    have F3 := Lib.hid (F2.out.kept HB.out)
    have HP3 := Lib.hid (HP2.out.kept HB.out)
    have s0 := F3.out.s0
    by_cases hlt : k + 1 < n
    · have hnr := HNR.out k
      obtain ⟨g, o', rfl, hg, xc0, xc1, xc2⟩ := HP3.out (k + 1) hlt
      obtain ⟨g2, o2, e2, -, xd0, xd1, xd2⟩ := HP3.out (nr pts p k) (by omega)
      injection e2 with e2
      injection e2 with e2 e3
      subst e2 e3
      have HF1 := Lib.hid (fun W => specFar (pts (k + 1)) p (HR.out (k + 1) hlt) HPR.out W)
      have HF2 := Lib.hid (fun W => specFar (pts (nr pts p k)) p (HR.out (nr pts p k) (by omega)) HPR.out W)
      have hz := F3.out.z
      have hz0 : w.heap.size < wr.heap.size := Nat.lt_of_succ_lt hz
      have p0 := cell_kept (w := wr) (a := ⟨w.heap.size + 1, 0, none⟩) hz F3.out.p0
      have p1 := cell_kept (w := wr) (a := ⟨w.heap.size + 1, 1, none⟩) hz F3.out.p1
      have p2 := cell_kept (w := wr) (a := ⟨w.heap.size + 1, 2, none⟩) hz F3.out.p2
      have s1 := cell_kept (w := wr) (a := ⟨w.heap.size, 0, none⟩) hz0 s0
      have c0 := cell_kept (w := wr) (a := ⟨g, o' + (k + 1) * 3, none⟩) hg xc0
      have c1 := cell_kept (w := wr) (a := ⟨g, o' + (k + 1) * 3 + 1, none⟩) hg xc1
      have c2 := cell_kept (w := wr) (a := ⟨g, o' + (k + 1) * 3 + 2, none⟩) hg xc2
      have d0 := cell_kept (w := wr) (a := ⟨g, o' + nr pts p k * 3, none⟩) hg xd0
      have d1 := cell_kept (w := wr) (a := ⟨g, o' + nr pts p k * 3 + 1, none⟩) hg xd1
      have d2 := cell_kept (w := wr) (a := ⟨g, o' + nr pts p k * 3 + 2, none⟩) hg xd2
      clear xc0 xc1 xc2 xd0 xd1 xd2
      have hli : ((k + 1 : Nat) : Int) < (n : Int) := by omega
      have hk0 : (0 : Int) ≤ (k : Int) + 1 := by omega
      have hcs : (far (pts (k + 1)) p < far (pts (nr pts p k)) p ∧ nr pts p (k + 1) = k + 1) ∨ (¬ far (pts (k + 1)) p < far (pts (nr pts p k)) p ∧ nr pts p (k + 1) = nr pts p k) := by
        by_cases h : far (pts (k + 1)) p < far (pts (nr pts p k)) p
        · exact .inl ⟨h, nr_yes h⟩
        · exact .inr ⟨h, nr_no h⟩
      generalize far (pts (k + 1)) p = X at *
      generalize far (pts (nr pts p k)) p = Y at *
      generalize pts (k + 1) = q at *
      generalize pts (nr pts p k) = q' at *
      have hnl : nr pts p k < n := by omega
      rcases hcs with ⟨hxy, hn2⟩ | ⟨hxy, hn2⟩
      · have HN2 := Lib.hid hn2
        clear hn2
        have hxi : (X : Int) < (Y : Int) := by omega
        generalize nr pts p k = j at *
        go_wp2
        clear s0
        refine wp_region_quiet_kept (by assumption) (by kernel_rfl) ?_
        repeat (first | go_big_quiet_step ((go_at_call 64; (first | (with_reducible exact Calls.kept_of (HF1.out _)) | (with_reducible exact Calls.kept_of (HF2.out _))))) | quiet_step ((go_at_call 64; (first | (with_reducible exact Calls.kept_of (HF1.out _)) | (with_reducible exact Calls.kept_of (HF2.out _))))))
        refine wpQuiet_nil ?_
        intro w4 hw'
        have hB : Below wr.heap.size wr w4 := by obtain ⟨⟨wk, hb0⟩, hw''⟩ := hw'; rw [hw'']; exact hb0
        have HB2 := Lib.hid (HB.out.trans (hB.mono HB.out.size))
        clear hw' hB c0 c1 c2 d0 d1 d2 p0 p1 p2 s1
        go_wp2
        go_roundw
        case rel => exact ⟨k + 1, by omega, by go_num, by rw [HN2.out]; go_num, HB2⟩
        case measure => simp [intOf]; omega
      · have HN2 := Lib.hid hn2
        clear hn2
        have hxi : ¬ (X : Int) < (Y : Int) := by omega
        have HJ : Hid (nr pts p k = nr pts p k) := Lib.hid rfl
        generalize hj : nr pts p k = j at *
        have HJ2 := Lib.hid hj
        clear hj
        go_wp2
        clear s0
        refine wp_region_quiet_kept (by assumption) (by kernel_rfl) ?_
        repeat (first | go_big_quiet_step ((go_at_call 64; (first | (with_reducible exact Calls.kept_of (HF1.out _)) | (with_reducible exact Calls.kept_of (HF2.out _))))) | quiet_step ((go_at_call 64; (first | (with_reducible exact Calls.kept_of (HF1.out _)) | (with_reducible exact Calls.kept_of (HF2.out _))))))
        refine wpQuiet_nil ?_
        intro w4 hw'
        have hB : Below wr.heap.size wr w4 := by obtain ⟨⟨wk, hb0⟩, hw''⟩ := hw'; rw [hw'']; exact hb0
        have HB2 := Lib.hid (HB.out.trans (hB.mono HB.out.size))
        clear hw' hB c0 c1 c2 d0 d1 d2 p0 p1 p2 s1
        go_wp2
        go_roundw
        case rel => exact ⟨k + 1, by omega, by go_num, by rw [HN2.out], HB2⟩
        case measure => simp [intOf]; omega
    · obtain rfl : n = k + 1 := by omega
      go_wp2
      go_ret2
      exact ⟨rfl, F3.out.below⟩
set_option maxRecDepth 100000 in
set_option maxHeartbeats 4000000 in
theorem impl_yes {c : Nat} (A : Option Addr) (n : Nat) (pts : Nat → P3) (p : P3) (w : World) (hcap : n ≤ 1048576) (hp : PtsAt w A n pts) (hv : vS n pts = true) (hi : inP p = true) :
    Calls Try.prog 35 #[.agg #[.slice A n c], pv p] w fun e w' => e = .returned (.tuple #[.int .i64 (nr pts p (n - 1) : Nat), .int .i64 0]) ∧ Below w.heap.size w w' := by
  obtain ⟨h1, h60, -⟩ := vS_of hv
  have HR := Lib.hid (vS_rg hv)
  have hpr := inP_rg hi
  have HPR := Lib.hid hpr
  have F0 := Lib.hid (Two.start w A n c p)
  have HP := Lib.hid (hp.kept (below_alloc2 w (.cells #[.slice A n c] 38) (.cells #[.int .i64 p.1, .int .i64 p.2.1, .int .i64 p.2.2] 28)))
  have HS := Lib.hid (implValid_calls (c := c) A n pts ((w.alloc (.cells #[.slice A n c] 38)).alloc (.cells #[.int .i64 p.1, .int .i64 p.2.1, .int .i64 p.2.2] 28)) hcap HP.out)
  rw [hv] at HS
  have HI := Lib.hid (fun W => implPoint p true hi W)
  have hm := mixedO
  have HNR := Lib.hid (nr_le pts p)
  clear hp hv hi hpr hcap
  go_enter Try.func35, Try.ntmps35
  go_wp2_with fail
  go_step3
  go_wp2_with fail
  refine HS.out.mono ?_
  rintro e w1 ⟨rfl, hb⟩
  have F1 := Lib.hid (F0.out.kept hb)
  have HP1 := Lib.hid (HP.out.kept hb)
  clear hb
  have s0 := F1.out.s0
  have p0 := F1.out.p0
  have p1 := F1.out.p1
  have p2 := F1.out.p2
  go_wp2_with fail
  with_reducible refine (HI.out _).mono ?_
  rintro e w2 ⟨rfl, hb⟩
  have F2 := Lib.hid (F1.out.kept hb)
  have HP2 := Lib.hid (HP1.out.kept hb)
  clear hb s0 p0 p1 p2
  clear HP HP1 F0 F1 HI HS
  have hn0 : 0 < n := by omega
  have hn0i : (0 : Int) < (n : Int) := by omega
  obtain ⟨g, o', rfl, hg, x0, x1, x2⟩ := HP2.out 0 hn0
  rw [Nat.zero_mul, Nat.add_zero] at x0 x1 x2
  have HSQ := Lib.hid (fun W => square_calls p (pts 0) HPR.out (HR.out 0 hn0) W)
  rw [far_swap p (pts 0)] at HSQ
  have hz := F2.out.z
  have hz0 : w.heap.size < w2.heap.size := Nat.lt_of_succ_lt hz
  have p0 := cell_kept (w := w2) (a := ⟨w.heap.size + 1, 0, none⟩) hz F2.out.p0
  have p1 := cell_kept (w := w2) (a := ⟨w.heap.size + 1, 1, none⟩) hz F2.out.p1
  have p2 := cell_kept (w := w2) (a := ⟨w.heap.size + 1, 2, none⟩) hz F2.out.p2
  have s1 := cell_kept (w := w2) (a := ⟨w.heap.size, 0, none⟩) hz0 F2.out.s0
  have d0 := cell_kept (w := w2) (a := ⟨g, o', none⟩) hg x0
  have d1 := cell_kept (w := w2) (a := ⟨g, o' + 1, none⟩) hg x1
  have d2 := cell_kept (w := w2) (a := ⟨g, o' + 2, none⟩) hg x2
  obtain ⟨q, hq⟩ : ∃ q, pts 0 = q := ⟨_, rfl⟩
  have HQ0 := Lib.hid hq
  rw [hq] at d0 d1 d2 HSQ
  clear hq x0 x1 x2
  go_wp2
  refine wp_region_quiet_kept (by assumption) (by kernel_rfl) ?_
  repeat (first | go_big_quiet_step ((go_at_call 66; (with_reducible exact Calls.kept_of (HSQ.out _)))) | quiet_step ((go_at_call 66; (with_reducible exact Calls.kept_of (HSQ.out _)))))
  refine wpQuiet_nil ?_
  intro w3 hw'
  have hB : Below w2.heap.size w2 w3 := by obtain ⟨⟨wk, hb0⟩, hw''⟩ := hw'; rw [hw'']; exact hb0
  have F3 := Lib.hid (F2.out.kept hB)
  have HP3 := Lib.hid (HP2.out.kept hB)
  clear hw' hB d0 d1 d2 p0 p1 p2 s1 HSQ hz hz0
  have s0 := F3.out.s0
  go_wp2
  go_step3
  go_wp2
  clear s0
  go_loopw [6, 7, 29] (fun b l i w' => ∃ k : Nat, k ≤ n ∧ i = .int .i64 (k : Int) ∧ b = .int .i64 (nr pts p (k - 1) : Nat) ∧ l = .int .i64 (far (pts (nr pts p (k - 1))) p : Nat) ∧ Hid (1 ≤ k → 0 < far (pts (nr pts p (k - 1))) p) ∧ Hid (Below w3.heap.size w3 w')) (fun _ _ i _ => n - (intOf i).toNat)
  case atStart => exact ⟨0, Nat.zero_le _, rfl, rfl, by rw [← HQ0.out]; rfl, Lib.hid (fun h => absurd h (by omega)), Lib.hid (Below.refl _ _)⟩
  case round =>
    obtain ⟨k, hk, rfl, rfl, rfl, HPOS, HB⟩ := hrel
    have F4 := Lib.hid (F3.out.kept HB.out)
    by_cases hlt : k < n
    · obtain ⟨g2, o2, e2, hg2, y0, y1, y2⟩ := (HP3.out.kept HB.out) k hlt
      injection e2 with e2
      injection e2 with e2 e3
      subst e2 e3
      have HSQ := Lib.hid (fun W => square_calls p (pts k) HPR.out (HR.out k hlt) W)
      rw [far_swap p (pts k)] at HSQ
      have p0 := F4.out.p0
      have p1 := F4.out.p1
      have p2 := F4.out.p2
      have hz := F4.out.z
      have hli : (k : Int) < (n : Int) := by omega
      obtain ⟨q, hq⟩ : ∃ q, pts k = q := ⟨_, rfl⟩
      have HQK := Lib.hid hq
      rw [hq] at y0 y1 y2 HSQ
      clear hq
      have hcs : (far q p = 0 ∧ nr pts p (n - 1) = k) ∨ (far q p ≠ 0 ∧ far q p < far (pts (nr pts p (k - 1))) p ∧ nr pts p k = k) ∨ (far q p ≠ 0 ∧ ¬ far q p < far (pts (nr pts p (k - 1))) p ∧ nr pts p k = nr pts p (k - 1)) := by
        rw [← HQK.out]
        cases k with
        | zero =>
          by_cases h0 : far (pts 0) p = 0
          · exact .inl ⟨h0, nr_stop (k := 0) (by exact h0) _ (by omega)⟩
          · exact .inr (.inr ⟨h0, by show ¬ far (pts 0) p < far (pts 0) p; omega, rfl⟩)
        | succ j =>
          have hp := HPOS.out (by omega)
          rw [show j + 1 - 1 = j from rfl] at hp ⊢
          by_cases h0 : far (pts (j + 1)) p = 0
          · have hy := nr_yes (pts := pts) (p := p) (k := j) (by omega)
            exact .inl ⟨h0, by rw [nr_stop (k := j + 1) (by rw [hy]; exact h0) _ (by omega), hy]⟩
          · by_cases h1 : far (pts (j + 1)) p < far (pts (nr pts p j)) p
            · exact .inr (.inl ⟨h0, h1, nr_yes h1⟩)
            · exact .inr (.inr ⟨h0, h1, nr_no h1⟩)
      have HFQ := Lib.hid (show far (pts k) p = far q p by rw [HQK.out])
      generalize far q p = X at *
      generalize hY : far (pts (nr pts p (k - 1))) p = Y at *
      have HY := Lib.hid hY
      clear hY
      have BX := Lib.hid (below_alloc1 wr (.cells #[.int .i64 q.1, .int .i64 q.2.1, .int .i64 q.2.2] 28))
      rcases hcs with ⟨hx, hn2⟩ | ⟨hx, hxy, hn2⟩ | ⟨hx, hxy, hn2⟩
      · subst hx
        have HN2 := Lib.hid hn2
        clear hn2
        generalize nr pts p (k - 1) = j at *
        go_wp2_with fail
        with_reducible refine (HSQ.out _).mono ?_
        rintro e w6 ⟨rfl, hb6⟩
        have F6 := Lib.hid (F4.out.kept (BX.out.trans (hb6.mono BX.out.size)))
        clear hb6 y0 y1 y2 p0 p1 p2 HSQ
        go_wp2
        rw [Exit.noGoto_ret]
        go_ret2
        exact ⟨by rw [HN2.out]; rfl, F6.out.below⟩
      · have HN2 := Lib.hid hn2
        clear hn2
        have hx1 : ((X : Int) == 0) = false := by simp; omega
        have hx2 : ¬ (X : Int) = 0 := by omega
        have hx3 : (X : Int) < (Y : Int) := by omega
        generalize nr pts p (k - 1) = j at *
        go_wp2_with fail
        with_reducible refine (HSQ.out _).mono ?_
        rintro e w6 ⟨rfl, hb6⟩
        have HB6 := Lib.hid (HB.out.trans ((BX.out.trans (hb6.mono BX.out.size)).mono HB.out.size))
        clear hb6 y0 y1 y2 p0 p1 p2 HSQ
        go_wp2
        go_roundw
        case rel => exact ⟨k + 1, by omega, by go_num, by rw [show k + 1 - 1 = k from rfl, HN2.out], by rw [show k + 1 - 1 = k from rfl, HN2.out, HFQ.out], Lib.hid (fun _ => by rw [show k + 1 - 1 = k from rfl, HN2.out, HFQ.out]; omega), HB6⟩
        case measure => simp [intOf]; omega
      · have HN2 := Lib.hid hn2
        have hx1 : ((X : Int) == 0) = false := by simp; omega
        have hx2 : ¬ (X : Int) = 0 := by omega
        have hx3 : ¬ (X : Int) < (Y : Int) := by omega
        have hyx : 0 < Y ∨ k = 0 := by
          rcases Nat.eq_zero_or_pos k with h | h
          · exact .inr h
          · exact .inl (HPOS.out h)
        have HYP := Lib.hid (show 0 < Y from by
          rcases hyx with h | h
          · exact h
          · subst h
            have h1 : far (pts 0) p = Y := HY.out
            have h2 : far (pts 0) p = X := HFQ.out
            omega)
        clear hn2 hyx
        generalize hj : nr pts p (k - 1) = j at *
        have HJ := Lib.hid hj
        clear hj
        go_wp2_with fail
        with_reducible refine (HSQ.out _).mono ?_
        rintro e w6 ⟨rfl, hb6⟩
        have HB6 := Lib.hid (HB.out.trans ((BX.out.trans (hb6.mono BX.out.size)).mono HB.out.size))
        clear hb6 y0 y1 y2 p0 p1 p2 HSQ
        go_wp2
        go_roundw
        case rel => exact ⟨k + 1, by omega, by go_num, by rw [show k + 1 - 1 = k from rfl, HN2.out], by rw [show k + 1 - 1 = k from rfl, HN2.out, HY.out], Lib.hid (fun _ => by rw [show k + 1 - 1 = k from rfl, HN2.out, HY.out]; exact HYP.out), HB6⟩
        case measure => simp [intOf]; omega
    · obtain rfl : n = k := by omega
      go_wp2
      rw [Exit.noGoto_ret]
      go_ret2
      exact ⟨rfl, F4.out.below⟩
theorem meat (vs0 : Nat → Value) (g0 : Nat → Dat) (vs1 : Nat → Value) (g1 : Nat → Dat) (ht0 : tyrStroke g0) (ht1 : tyrPoint g1) :
    costRec 1 g0 ≤ 1048576 → ∃ (r0 : Int) (r1 : Int), (∀ (W : World) (us0 : Nat → Value) (us1 : Nat → Value), ReadsRec W 1 us0 g0 → ReadsRec W 3 us1 g1 → Calls Try.prog 34 #[.agg #[us0 0], .agg #[us1 0, us1 1, us1 2]] W fun e W' => e = .returned (.tuple #[.int .i64 r0, .int .i64 r1]) ∧ Below W.heap.size W W') ∧ (∀ (W : World) (us0 : Nat → Value) (us1 : Nat → Value), ReadsRec W 1 us0 g0 → ReadsRec W 3 us1 g1 → Calls Try.prog 35 #[.agg #[us0 0], .agg #[us1 0, us1 1, us1 2]] W fun e W' => e = .returned (.tuple #[.int .i64 r0, .int .i64 r1]) ∧ Below W.heap.size W W') := by
  intro hq
  cases hv : vS (strN g0) (strP g0) with
  | true =>
    cases hi : inP (ptOf g1) with
    | true => exact ⟨_, _, fun W us0 us1 h0 h1 => by obtain ⟨A, c, e, hn, hp⟩ := reads_str h0 ht0 hq; rw [e, reads_pt h1 ht1]; exact spec_yes A _ _ _ W hn hp hv hi, fun W us0 us1 h0 h1 => by obtain ⟨A, c, e, hn, hp⟩ := reads_str h0 ht0 hq; rw [e, reads_pt h1 ht1]; exact impl_yes A _ _ _ W hn hp hv hi⟩
    | false => exact ⟨_, _, fun W us0 us1 h0 h1 => by obtain ⟨A, c, e, hn, hp⟩ := reads_str h0 ht0 hq; rw [e, reads_pt h1 ht1]; exact spec_no1 A _ _ _ W hn hp hv hi, fun W us0 us1 h0 h1 => by obtain ⟨A, c, e, hn, hp⟩ := reads_str h0 ht0 hq; rw [e, reads_pt h1 ht1]; exact impl_no1 A _ _ _ W hn hp hv hi⟩
  | false => exact ⟨_, _, fun W us0 us1 h0 h1 => by obtain ⟨A, c, e, hn, hp⟩ := reads_str h0 ht0 hq; rw [e, reads_pt h1 ht1]; exact spec_no0 A _ _ _ W hn hp hv, fun W us0 us1 h0 h1 => by obtain ⟨A, c, e, hn, hp⟩ := reads_str h0 ht0 hq; rw [e, reads_pt h1 ht1]; exact impl_no0 A _ _ _ W hn hp hv⟩
end Go.Proofs.Ytmpiijnhbeipiaa.wNearestPoint
