/-
  Proved: what the functions that copy an argument return (contracts of callees of the exact laws).
  Conditions: the argument is read out of memory, and is small.
-/
import Derived.Test.YtofgdgdmmlgmnaaShape
namespace Go.Proofs.Ytofgdgdmmlgmnaa.core
open Go.ChangeShapes Go.WideShapes Go.ChangeAt Go.RowKit Go.Joins
set_option linter.unusedVariables false
set_option linter.unusedSimpArgs false

theorem cost_at {n k L : Nat} {f : Nat → Nat → Dat} (h : cost (.sl n k f) ≤ L) {i j : Nat} (hi : i < n) (hj : j < k) : cost (f i j) ≤ L := by
  simp only [cost] at h
  have h1 := sumTo_lt (fun i => sumTo (fun j => cost (f i j)) k) hi
  have h2 := sumTo_lt (fun j => cost (f i j)) hj
  omega
/-- The three blocks of a call that copies a struct: its argument, its result, the new struct. -/
structure Stage (w : World) (C0 C1 C2 : Array Value) (T1 T2 : Nat) (W : World) : Prop where
  lz2 : w.heap.size + 1 + 1 < W.heap.size
  b0 : ∃ T0, W.heap[w.heap.size]? = some (.cells C0 T0 (0, 0))
  b1 : W.heap[w.heap.size + 1]? = some (.cells C1 T1 (0, 0))
  b2 : W.heap[w.heap.size + 1 + 1]? = some (.cells C2 T2 (0, 0))
section
variable {w W W' : World} {C0 C1 C2 : Array Value} {T0 T1 T2 : Nat}
theorem Stage.lz1 (h : Stage w C0 C1 C2 T1 T2 W) : w.heap.size + 1 < W.heap.size := by have := h.lz2; omega
theorem Stage.kept (h : Stage w C0 C1 C2 T1 T2 W) (hb : Below W.heap.size W W') : Stage w C0 C1 C2 T1 T2 W' := by
  have := h.lz2
  obtain ⟨T0, h0⟩ := h.b0
  exact ⟨Nat.lt_of_lt_of_le h.lz2 hb.size, ⟨T0, (hb.block _ (by omega)).trans h0⟩, (hb.block _ (by omega)).trans h.b1, (hb.block _ (by omega)).trans h.b2⟩
theorem Stage.start (hb : Below (((w.alloc (.cells C0 T0)).alloc (.cells C1 T1)).alloc (.cells C2 T2)).heap.size (((w.alloc (.cells C0 T0)).alloc (.cells C1 T1)).alloc (.cells C2 T2)) W) : Stage w C0 C1 C2 T1 T2 W := by
  have hs := hb.size
  simp at hs
  refine ⟨by omega, ⟨T0, (hb.block _ (by simp; omega)).trans ?_⟩, (hb.block _ (by simp)).trans ?_, (hb.block _ (by simp)).trans ?_⟩
  · rw [Below.heap_alloc _ _ _ (by simp; omega), Below.heap_alloc _ _ _ (by simp)]; exact heap_alloc_new w _
  · rw [Below.heap_alloc _ _ _ (by simp)]; simpa using heap_alloc_new (w.alloc (.cells C0 T0)) (.cells C1 T1)
  · simpa using heap_alloc_new ((w.alloc (.cells C0 T0)).alloc (.cells C1 T1)) (.cells C2 T2)
theorem Stage.set (h : Stage w C0 C1 C2 T1 T2 W) (q : Nat) (v : Value) : Stage w C0 C1 (C2.setIfInBounds q v) T1 T2 (W.setCell ⟨w.heap.size + 1 + 1, q, none⟩ v) := by
  obtain ⟨T0, h0⟩ := h.b0
  refine ⟨by simpa [World.setCell] using h.lz2, ⟨T0, ?_⟩, ?_, block_setCell h.b2 v⟩
  · rw [Below.heap_setCell _ _ _ _ (by simp; omega)]; exact h0
  · rw [Below.heap_setCell _ _ _ _ (by simp)]; exact h.b1
theorem Stage.facts (h : Stage w C0 C1 C2 T1 T2 W) : (∀ q, W.cell? ⟨w.heap.size, q, none⟩ = C0[q]?) ∧ (∀ q, W.cell? ⟨w.heap.size + 1, q, none⟩ = C1[q]?) ∧ (∀ q, W.cell? ⟨w.heap.size + 1 + 1, q, none⟩ = C2[q]?) ∧ (∀ q, W.frozen? ⟨w.heap.size + 1, q, none⟩ = false) ∧ (∀ q, W.frozen? ⟨w.heap.size + 1 + 1, q, none⟩ = false) := by
  obtain ⟨T0, h0⟩ := h.b0
  exact ⟨fun q => cell_of_block h0 q, fun q => cell_of_block h.b1 q, fun q => cell_of_block h.b2 q, fun q => unfrozen_of_block h.b1 q, fun q => unfrozen_of_block h.b2 q⟩
end

set_option maxRecDepth 100000 in
set_option maxHeartbeats 2000000 in
theorem toPoint_calls (x0 : Int) (x1 : Int) (x2 : Int) (w : World)  :
    Calls Try.prog 86 #[.agg #[.int .i64 x0, .int .i64 x1, .int .i64 x2]] w fun e w' => e = .returned (.agg #[.int .i64 x0, .int .i64 x1, .int .i64 x2]) ∧ Below w.heap.size w w' := by
  go_enter Try.func86, Try.ntmps86
  go_wp2
  exact bodyPost_ret (v := .agg #[.int .i64 x0, .int .i64 x1, .int .i64 x2]) (by simp [results, Try.results86, go_sem]) rfl ⟨rfl, below_alloc3 _ _ _ _⟩

theorem infoPointS : (Try.prog.info? 122).map (fun i => (i.zero, i.size, i.bytes)) = some (some (.agg #[.int .i64 0, .int .i64 0, .int .i64 0]), 3, 24) := by kernel_rfl
theorem makePointS (n : Nat) (hn : n ≤ 1048576) (w : World) : ∃ cur : Array Value, cur.size = n * 3 ∧
    (Instr.makeSlice 55 (.int .i64 (n : Int)) (.int .i64 (n : Int))).run Try.prog w = .ok (.slice (some ⟨w.heap.size, 0, none⟩) n n) (w.alloc (.cells cur 122)) := by
  obtain ⟨i0, hi, hz0, hz1, hz2⟩ := info_parts infoPointS
  have hr := run_make (P := Try.prog) w 55 122 i0 _ Try.underlying55 hi hz0 .i64 .i64 n n (by omega) (by omega) (by rw [hz2]; omega) (by omega)
  simp only [Int.toNat_natCast] at hr
  refine ⟨_, ?_, hr⟩
  rw [hz1]
  simp [madeCells]

set_option maxRecDepth 100000 in
set_option maxHeartbeats 2000000 in
theorem toPointS_calls (A : Option Addr) (n c : Nat) (f : Nat → Nat → Dat) (w : World) (hq : cost (.sl n 3 f) ≤ 1048576) (hm : n ≤ maxLen) (hr : RowsAt w A n 3 f) (ht : tyPointS (.sl n 3 f)) :
    Calls Try.prog 61 #[.slice A n c] w fun e w' => ∃ G, e = .returned (.slice (some ⟨G, 0, none⟩) n n) ∧ Own w' (.slice (some ⟨G, 0, none⟩) n n) (.sl n 3 f) (iv w.heap.size w'.heap.size) ∧ Below w.heap.size w w' := by
  have HR := Lib.hid hr
  have HT := Lib.hid (tyPointS_at ht)
  have HQ := Lib.hid hq
  have hcap : n ≤ 1048576 := by simp only [cost] at hq; omega
  clear hr ht hq
  obtain ⟨cur, hcs, hmk⟩ := makePointS n hcap w
  have HC := Lib.hid hcs
  clear hcs
  go_enter Try.func61, Try.ntmps61
  go_wp2
  go_loopw [4] (fun i w' => ∃ m top : Nat, m ≤ n ∧ i = .int .i64 (m : Int) ∧ Hid (Built w n 3 f m 0 top w')) (fun i _ => n - (intOf i).toNat)
  case atStart => exact ⟨0, w.heap.size + 1, Nat.zero_le _, rfl, Lib.hid (Built.start cur 122 HC.out)⟩
  case round =>
    obtain ⟨m, top, hmn, rfl, HG⟩ := hrel
    clear hmk
    by_cases hlt : m < n
    · obtain ⟨b, o, rfl, hbl, hj⟩ := HR.out m hlt
      have hT := HT.out m hlt
      have HB := Lib.hid HG.out.below
      obtain ⟨⟨x0, e0⟩, ⟨x1, e1⟩, ⟨x2, e2⟩⟩ := hT
      obtain ⟨u0, q0, r0⟩ := hj 0 (by omega)
      rw [e0] at r0
      obtain ⟨rfl, hi0⟩ := r0.int_inv
      replace q0 := (HB.out.cell (p := ⟨b, o + m * 3 + 0, none⟩) hbl).trans q0
      clear r0
      simp only [Nat.add_zero, Nat.mul_one] at q0
      obtain ⟨u1, q1, r1⟩ := hj 1 (by omega)
      rw [e1] at r1
      obtain ⟨rfl, hi1⟩ := r1.int_inv
      replace q1 := (HB.out.cell (p := ⟨b, o + m * 3 + 1, none⟩) hbl).trans q1
      clear r1
      obtain ⟨u2, q2, r2⟩ := hj 2 (by omega)
      rw [e2] at r2
      obtain ⟨rfl, hi2⟩ := r2.int_inv
      replace q2 := (HB.out.cell (p := ⟨b, o + m * 3 + 2, none⟩) hbl).trans q2
      clear r2
      clear hj
      have E0 := Lib.hid e0
      have E1 := Lib.hid e1
      have E2 := Lib.hid e2
      clear e0 e1 e2
      have hli : (m : Int) < (n : Int) := by omega
      go_wp2_with fail
      refine (toPoint_calls x0 x1 x2 _ ).mono ?_
      rintro e w2 ⟨rfl, hb2⟩
      have hz2 := hb2.size
      have HG2 := Lib.hid ((HG.out.kept hb2).raise (t := wr.heap.size) HG.out.htop hb2.size)
      clear hb2 HG HB q0 q1 q2
      obtain ⟨⟨v0, g0⟩, hfz⟩ := HG2.out.at_ (m * 3) (a := m) (b := 0) (by omega) (mul_add_lt hlt (by omega))
      obtain ⟨⟨v1, g1⟩, hfz1⟩ := HG2.out.at_ (m * 3 + 1) (a := m) (b := 1) (by omega) (mul_add_lt hlt (by omega))
      clear hfz1
      obtain ⟨⟨v2, g2⟩, hfz2⟩ := HG2.out.at_ (m * 3 + 2) (a := m) (b := 2) (by omega) (mul_add_lt hlt (by omega))
      clear hfz2
      go_wp2
      go_roundw
      case rel =>
        have P0 := HG2.out.put hlt (show 0 < 3 by omega) (m * 3) (by omega) (by rw [E0.out]; exact .int _ _ hi0) (t1 := wr.heap.size) (t2 := wr.heap.size) (by omega) (by omega) (by first | exact HG2.out.htop | omega | (simp only [World.size_setCell]; first | exact HG2.out.htop | omega))
        have P1 := P0.put hlt (show 1 < 3 by omega) (m * 3 + 1) (by omega) (by rw [E1.out]; exact .int _ _ hi1) (t1 := wr.heap.size) (t2 := wr.heap.size) (by omega) (by omega) (by first | exact HG2.out.htop | omega | (simp only [World.size_setCell]; first | exact HG2.out.htop | omega))
        have P2 := P1.put hlt (show 2 < 3 by omega) (m * 3 + 2) (by omega) (by rw [E2.out]; exact .int _ _ hi2) (t1 := wr.heap.size) (t2 := wr.heap.size) (by omega) (by omega) (by first | exact HG2.out.htop | omega | (simp only [World.size_setCell]; first | exact HG2.out.htop | omega))
        exact ⟨m + 1, _, by omega, by go_num, Lib.hid P2.next⟩
      case measure => simp [intOf]; omega
    · obtain rfl : m = n := by omega
      go_wp2
      go_ret
      exact ⟨_, rfl, HG.out.own (Nat.le_refl _) hm, HG.out.below⟩

set_option maxRecDepth 100000 in
set_option maxHeartbeats 2000000 in
theorem toStroke_calls (A0 : Option Addr) (n0 c0 : Nat) (f0 : Nat → Nat → Dat) (w : World) (hq0 : cost (.sl n0 3 f0) ≤ 1048576) (hm0 : n0 ≤ maxLen) (hr0 : RowsAt w A0 n0 3 f0) (ht0 : tyPointS (.sl n0 3 f0)) :
    Calls Try.prog 35 #[.agg #[.slice A0 n0 c0]] w fun e w' => ∃ G0, e = .returned (.agg #[.slice (some ⟨G0, 0, none⟩) n0 n0]) ∧ Own w' (.slice (some ⟨G0, 0, none⟩) n0 n0) (.sl n0 3 f0) (iv w.heap.size w'.heap.size) ∧ w.heap.size ≤ w'.heap.size ∧ Below w.heap.size w w' := by
  have HR0 := Lib.hid hr0
  have HT0 := Lib.hid ht0
  have HQ0 := Lib.hid hq0
  clear hr0 ht0 hq0
  go_enter Try.func35, Try.ntmps35
  go_wp2_with fail
  refine (toPointS_calls A0 n0 c0 f0 _ HQ0.out hm0 (HR0.out.below (below_alloc3 _ _ _ _)) HT0.out).mono ?_
  rintro e w0 ⟨G0, rfl, ho, hb⟩
  have HS0 := Lib.hid (Stage.start hb)
  have HB0 := Lib.hid ((below_alloc3 w _ _ _).trans (hb.mono (below_alloc3 w _ _ _).size))
  have hw0 : w.heap.size + 1 + 1 < w0.heap.size := HS0.out.lz2
  have HO0 := Lib.hid (ho.iv_mono (lo' := w.heap.size + 1 + 1 + 1) (by simp) (Nat.le_refl _))
  obtain ⟨hc0_0, hc1_0, hc2_0, hf1_0, hf2_0⟩ := HS0.out.facts
  have lz1_0 := HS0.out.lz1
  have lz2_0 := HS0.out.lz2
  clear hb ho
  go_wp2
  refine bodyPost_ret (v := .agg #[.slice (some ⟨G0, 0, none⟩) n0 n0]) (by simp [results, Try.results35, go_sem, hc1_0, hc2_0]) rfl ⟨G0, rfl, ?_, ?_, ((HB0.out.setCell (p := ⟨w.heap.size + 1 + 1, 0, none⟩) (show w.heap.size ≤ w.heap.size + 1 + 1 by omega) (.slice (some ⟨G0, 0, none⟩) n0 n0)).setCell (p := ⟨w.heap.size + 1, 0, none⟩) (show w.heap.size ≤ w.heap.size + 1 by omega) _)⟩
  · exact Own.iv_mono (hi := w0.heap.size) (((HO0.out.far (g := w.heap.size + 1 + 1) (by unfold iv; omega) _).far (g := w.heap.size + 1) (by unfold iv; omega) _).iv_mono (lo' := w.heap.size) (by omega) (Nat.le_refl _)) (Nat.le_refl _) (by simp [World.setCell])
  · simp only [World.size_setCell]; omega

theorem infoStrokeS : (Try.prog.info? 57).map (fun i => (i.zero, i.size, i.bytes)) = some (some (.agg #[.slice none 0 0]), 1, 24) := by kernel_rfl
theorem makeStrokeS (n : Nat) (hn : n ≤ 1048576) (w : World) : ∃ cur : Array Value, cur.size = n * 1 ∧
    (Instr.makeSlice 66 (.int .i64 (n : Int)) (.int .i64 (n : Int))).run Try.prog w = .ok (.slice (some ⟨w.heap.size, 0, none⟩) n n) (w.alloc (.cells cur 57)) := by
  obtain ⟨i0, hi, hz0, hz1, hz2⟩ := info_parts infoStrokeS
  have hr := run_make (P := Try.prog) w 66 57 i0 _ Try.underlying66 hi hz0 .i64 .i64 n n (by omega) (by omega) (by rw [hz2]; omega) (by omega)
  simp only [Int.toNat_natCast] at hr
  refine ⟨_, ?_, hr⟩
  rw [hz1]
  simp [madeCells]

set_option maxRecDepth 100000 in
set_option maxHeartbeats 2000000 in
theorem toStrokeS_calls (A : Option Addr) (n c : Nat) (f : Nat → Nat → Dat) (w : World) (hq : cost (.sl n 1 f) ≤ 1048576) (hm : n ≤ maxLen) (hr : RowsAt w A n 1 f) (ht : tyStrokeS (.sl n 1 f)) :
    Calls Try.prog 69 #[.slice A n c] w fun e w' => ∃ G, e = .returned (.slice (some ⟨G, 0, none⟩) n n) ∧ Own w' (.slice (some ⟨G, 0, none⟩) n n) (.sl n 1 f) (iv w.heap.size w'.heap.size) ∧ Below w.heap.size w w' := by
  have HR := Lib.hid hr
  have HT := Lib.hid (tyStrokeS_at ht)
  have HQ := Lib.hid hq
  have hcap : n ≤ 1048576 := by simp only [cost] at hq; omega
  clear hr ht hq
  obtain ⟨cur, hcs, hmk⟩ := makeStrokeS n hcap w
  have HC := Lib.hid hcs
  clear hcs
  go_enter Try.func69, Try.ntmps69
  go_wp2
  go_loopw [4] (fun i w' => ∃ m top : Nat, m ≤ n ∧ i = .int .i64 (m : Int) ∧ Hid (Built w n 1 f m 0 top w')) (fun i _ => n - (intOf i).toNat)
  case atStart => exact ⟨0, w.heap.size + 1, Nat.zero_le _, rfl, Lib.hid (Built.start cur 57 HC.out)⟩
  case round =>
    obtain ⟨m, top, hmn, rfl, HG⟩ := hrel
    clear hmk
    by_cases hlt : m < n
    · obtain ⟨b, o, rfl, hbl, hj⟩ := HR.out m hlt
      have hT := HT.out m hlt
      have HB := Lib.hid HG.out.below
      have ht0 := hT
      have HT0 := Lib.hid ht0
      obtain ⟨n0, f0, e0, -⟩ := ht0
      rw [e0] at HT0
      obtain ⟨u0, q0, r0⟩ := hj 0 (by omega)
      rw [e0] at r0
      obtain ⟨A0, c0, rfl, hm0, hr0⟩ := r0.sl_inv
      have HR0 := Lib.hid (hr0.below HB.out)
      clear hr0
      replace q0 := (HB.out.cell (p := ⟨b, o + m * 1 + 0, none⟩) hbl).trans q0
      clear r0
      simp only [Nat.add_zero, Nat.mul_one] at q0
      clear hj
      have HQ0 := Lib.hid (show cost (.sl n0 3 f0) ≤ 1048576 by rw [← e0]; exact cost_at HQ.out hlt (by omega))
      have E0 := Lib.hid e0
      clear e0
      have hli : (m : Int) < (n : Int) := by omega
      go_wp2_with fail
      refine (toStroke_calls A0 n0 c0 f0 _ HQ0.out hm0 HR0.out HT0.out).mono ?_
      rintro e w2 ⟨G0, rfl, ho0, hl0, hb2⟩
      have hz2 := hb2.size
      have HG2 := Lib.hid ((HG.out.kept hb2).raise (t := wr.heap.size) HG.out.htop hb2.size)
      have HO0 := Lib.hid ho0
      clear hb2 HG HB q0 ho0
      obtain ⟨⟨v0, g0⟩, hfz⟩ := HG2.out.at_ (m) (a := m) (b := 0) (by omega) (mul_add_lt hlt (by omega))
      go_wp2
      go_roundw
      case rel =>
        have P0 := HG2.out.put hlt (show 0 < 1 by omega) (m) (by omega) (by rw [E0.out]; exact HO0.out) (t1 := wr.heap.size) (t2 := w2.heap.size) (by omega) (by omega) (by first | exact HG2.out.htop | omega | (simp only [World.size_setCell]; first | exact HG2.out.htop | omega))
        exact ⟨m + 1, _, by omega, by go_num, Lib.hid P0.next⟩
      case measure => simp [intOf]; omega
    · obtain rfl : m = n := by omega
      go_wp2
      go_ret
      exact ⟨_, rfl, HG.out.own (Nat.le_refl _) hm, HG.out.below⟩

set_option maxRecDepth 100000 in
set_option maxHeartbeats 2000000 in
theorem toInk_calls (A0 : Option Addr) (n0 c0 : Nat) (f0 : Nat → Nat → Dat) (w : World) (hq0 : cost (.sl n0 1 f0) ≤ 1048576) (hm0 : n0 ≤ maxLen) (hr0 : RowsAt w A0 n0 1 f0) (ht0 : tyStrokeS (.sl n0 1 f0)) :
    Calls Try.prog 40 #[.agg #[.slice A0 n0 c0]] w fun e w' => ∃ G0, e = .returned (.agg #[.slice (some ⟨G0, 0, none⟩) n0 n0]) ∧ Own w' (.slice (some ⟨G0, 0, none⟩) n0 n0) (.sl n0 1 f0) (iv w.heap.size w'.heap.size) ∧ w.heap.size ≤ w'.heap.size ∧ Below w.heap.size w w' := by
  have HR0 := Lib.hid hr0
  have HT0 := Lib.hid ht0
  have HQ0 := Lib.hid hq0
  clear hr0 ht0 hq0
  go_enter Try.func40, Try.ntmps40
  go_wp2_with fail
  refine (toStrokeS_calls A0 n0 c0 f0 _ HQ0.out hm0 (HR0.out.below (below_alloc3 _ _ _ _)) HT0.out).mono ?_
  rintro e w0 ⟨G0, rfl, ho, hb⟩
  have HS0 := Lib.hid (Stage.start hb)
  have HB0 := Lib.hid ((below_alloc3 w _ _ _).trans (hb.mono (below_alloc3 w _ _ _).size))
  have hw0 : w.heap.size + 1 + 1 < w0.heap.size := HS0.out.lz2
  have HO0 := Lib.hid (ho.iv_mono (lo' := w.heap.size + 1 + 1 + 1) (by simp) (Nat.le_refl _))
  obtain ⟨hc0_0, hc1_0, hc2_0, hf1_0, hf2_0⟩ := HS0.out.facts
  have lz1_0 := HS0.out.lz1
  have lz2_0 := HS0.out.lz2
  clear hb ho
  go_wp2
  refine bodyPost_ret (v := .agg #[.slice (some ⟨G0, 0, none⟩) n0 n0]) (by simp [results, Try.results40, go_sem, hc1_0, hc2_0]) rfl ⟨G0, rfl, ?_, ?_, ((HB0.out.setCell (p := ⟨w.heap.size + 1 + 1, 0, none⟩) (show w.heap.size ≤ w.heap.size + 1 + 1 by omega) (.slice (some ⟨G0, 0, none⟩) n0 n0)).setCell (p := ⟨w.heap.size + 1, 0, none⟩) (show w.heap.size ≤ w.heap.size + 1 by omega) _)⟩
  · exact Own.iv_mono (hi := w0.heap.size) (((HO0.out.far (g := w.heap.size + 1 + 1) (by unfold iv; omega) _).far (g := w.heap.size + 1) (by unfold iv; omega) _).iv_mono (lo' := w.heap.size) (by omega) (Nat.le_refl _)) (Nat.le_refl _) (by simp [World.setCell])
  · simp only [World.size_setCell]; omega

set_option maxRecDepth 100000 in
set_option maxHeartbeats 2000000 in
theorem toSetting_calls (x0 : Int) (x1 : Int) (x2 : Int) (w : World)  :
    Calls Try.prog 13 #[.agg #[.int .i64 x0, .int .i64 x1, .int .i64 x2]] w fun e w' => e = .returned (.agg #[.int .i64 x0, .int .i64 x1, .int .i64 x2]) ∧ Below w.heap.size w w' := by
  go_enter Try.func13, Try.ntmps13
  go_wp2
  exact bodyPost_ret (v := .agg #[.int .i64 x0, .int .i64 x1, .int .i64 x2]) (by simp [results, Try.results13, go_sem]) rfl ⟨rfl, below_alloc3 _ _ _ _⟩

set_option maxRecDepth 100000 in
set_option maxHeartbeats 2000000 in
theorem toHyp_calls (s0 : ByteArray) (x1 : Int) (w : World)  :
    Calls Try.prog 47 #[.agg #[.string s0, .int .i64 x1]] w fun e w' => e = .returned (.agg #[.string s0, .int .i64 x1]) ∧ Below w.heap.size w w' := by
  go_enter Try.func47, Try.ntmps47
  go_wp2
  exact bodyPost_ret (v := .agg #[.string s0, .int .i64 x1]) (by simp [results, Try.results47, go_sem]) rfl ⟨rfl, below_alloc3 _ _ _ _⟩

theorem infoHypS : (Try.prog.info? 40).map (fun i => (i.zero, i.size, i.bytes)) = some (some (.agg #[.string ⟨#[]⟩, .int .i64 0]), 2, 24) := by kernel_rfl
theorem makeHypS (n : Nat) (hn : n ≤ 1048576) (w : World) : ∃ cur : Array Value, cur.size = n * 2 ∧
    (Instr.makeSlice 31 (.int .i64 (n : Int)) (.int .i64 (n : Int))).run Try.prog w = .ok (.slice (some ⟨w.heap.size, 0, none⟩) n n) (w.alloc (.cells cur 40)) := by
  obtain ⟨i0, hi, hz0, hz1, hz2⟩ := info_parts infoHypS
  have hr := run_make (P := Try.prog) w 31 40 i0 _ Try.underlying31 hi hz0 .i64 .i64 n n (by omega) (by omega) (by rw [hz2]; omega) (by omega)
  simp only [Int.toNat_natCast] at hr
  refine ⟨_, ?_, hr⟩
  rw [hz1]
  simp [madeCells]

set_option maxRecDepth 100000 in
set_option maxHeartbeats 2000000 in
theorem toHypS_calls (A : Option Addr) (n c : Nat) (f : Nat → Nat → Dat) (w : World) (hq : cost (.sl n 2 f) ≤ 1048576) (hm : n ≤ maxLen) (hr : RowsAt w A n 2 f) (ht : tyHypS (.sl n 2 f)) :
    Calls Try.prog 17 #[.slice A n c] w fun e w' => ∃ G, e = .returned (.slice (some ⟨G, 0, none⟩) n n) ∧ Own w' (.slice (some ⟨G, 0, none⟩) n n) (.sl n 2 f) (iv w.heap.size w'.heap.size) ∧ Below w.heap.size w w' := by
  have HR := Lib.hid hr
  have HT := Lib.hid (tyHypS_at ht)
  have HQ := Lib.hid hq
  have hcap : n ≤ 1048576 := by simp only [cost] at hq; omega
  clear hr ht hq
  obtain ⟨cur, hcs, hmk⟩ := makeHypS n hcap w
  have HC := Lib.hid hcs
  clear hcs
  go_enter Try.func17, Try.ntmps17
  go_wp2
  go_loopw [4] (fun i w' => ∃ m top : Nat, m ≤ n ∧ i = .int .i64 (m : Int) ∧ Hid (Built w n 2 f m 0 top w')) (fun i _ => n - (intOf i).toNat)
  case atStart => exact ⟨0, w.heap.size + 1, Nat.zero_le _, rfl, Lib.hid (Built.start cur 40 HC.out)⟩
  case round =>
    obtain ⟨m, top, hmn, rfl, HG⟩ := hrel
    clear hmk
    by_cases hlt : m < n
    · obtain ⟨b, o, rfl, hbl, hj⟩ := HR.out m hlt
      have hT := HT.out m hlt
      have HB := Lib.hid HG.out.below
      obtain ⟨⟨s0, e0⟩, ⟨x1, e1⟩⟩ := hT
      obtain ⟨u0, q0, r0⟩ := hj 0 (by omega)
      rw [e0] at r0
      obtain ⟨rfl, hs0⟩ := r0.str_inv
      have hS0 : s0.size ≤ 9223372036854775807 := by unfold maxLen at hs0; omega
      replace q0 := (HB.out.cell (p := ⟨b, o + m * 2 + 0, none⟩) hbl).trans q0
      clear r0
      simp only [Nat.add_zero, Nat.mul_one] at q0
      obtain ⟨u1, q1, r1⟩ := hj 1 (by omega)
      rw [e1] at r1
      obtain ⟨rfl, hi1⟩ := r1.int_inv
      replace q1 := (HB.out.cell (p := ⟨b, o + m * 2 + 1, none⟩) hbl).trans q1
      clear r1
      clear hj
      have E0 := Lib.hid e0
      have E1 := Lib.hid e1
      clear e0 e1
      have hli : (m : Int) < (n : Int) := by omega
      go_wp2_with fail
      refine (toHyp_calls s0 x1 _ ).mono ?_
      rintro e w2 ⟨rfl, hb2⟩
      have hz2 := hb2.size
      have HG2 := Lib.hid ((HG.out.kept hb2).raise (t := wr.heap.size) HG.out.htop hb2.size)
      clear hb2 HG HB q0 q1
      obtain ⟨⟨v0, g0⟩, hfz⟩ := HG2.out.at_ (m * 2) (a := m) (b := 0) (by omega) (mul_add_lt hlt (by omega))
      obtain ⟨⟨v1, g1⟩, hfz1⟩ := HG2.out.at_ (m * 2 + 1) (a := m) (b := 1) (by omega) (mul_add_lt hlt (by omega))
      clear hfz1
      go_wp2
      go_roundw
      case rel =>
        have P0 := HG2.out.put hlt (show 0 < 2 by omega) (m * 2) (by omega) (by rw [E0.out]; exact .str _ _ hs0) (t1 := wr.heap.size) (t2 := wr.heap.size) (by omega) (by omega) (by first | exact HG2.out.htop | omega | (simp only [World.size_setCell]; first | exact HG2.out.htop | omega))
        have P1 := P0.put hlt (show 1 < 2 by omega) (m * 2 + 1) (by omega) (by rw [E1.out]; exact .int _ _ hi1) (t1 := wr.heap.size) (t2 := wr.heap.size) (by omega) (by omega) (by first | exact HG2.out.htop | omega | (simp only [World.size_setCell]; first | exact HG2.out.htop | omega))
        exact ⟨m + 1, _, by omega, by go_num, Lib.hid P1.next⟩
      case measure => simp [intOf]; omega
    · obtain rfl : m = n := by omega
      go_wp2
      go_ret
      exact ⟨_, rfl, HG.out.own (Nat.le_refl _) hm, HG.out.below⟩

end Go.Proofs.Ytofgdgdmmlgmnaa.core
