/-
  Proved: what the functions that copy an argument return (contracts of callees of the exact laws).
  Conditions: the argument is read out of memory, and is small.
-/
import Derived.Test.YtjhndncmeedffaaShape
namespace Go.Proofs.Ytjhndncmeedffaa.core
open Go.ChangeShapes Go.WideShapes Go.ChangeAt Go.RowKit Go.Joins
set_option linter.unusedVariables false
set_option linter.unusedSimpArgs false

theorem cost_at {n k L : Nat} {f : Nat → Nat → Dat} (h : cost (.sl n k f) ≤ L) {i j : Nat} (hi : i < n) (hj : j < k) : cost (f i j) ≤ L := by
  simp only [cost] at h
  have h1 := sumTo_lt (fun i => sumTo (fun j => cost (f i j)) k) hi
  have h2 := sumTo_lt (fun j => cost (f i j)) hj
  omega
/-- The three blocks of a call that copies a struct: its argument, its result, the new struct. -/
structure Stage (w : World) (C0 C1 C2 : Array Value) (T1 T2 : Nat) (W : World) : Prop where
  lz2 : w.heap.size + 1 + 1 < W.heap.size
  b0 : ∃ T0, W.heap[w.heap.size]? = some (.cells C0 T0 (0, 0))
  b1 : W.heap[w.heap.size + 1]? = some (.cells C1 T1 (0, 0))
  b2 : W.heap[w.heap.size + 1 + 1]? = some (.cells C2 T2 (0, 0))
section
variable {w W W' : World} {C0 C1 C2 : Array Value} {T0 T1 T2 : Nat}
theorem Stage.lz1 (h : Stage w C0 C1 C2 T1 T2 W) : w.heap.size + 1 < W.heap.size := by have := h.lz2; omega
theorem Stage.kept (h : Stage w C0 C1 C2 T1 T2 W) (hb : Below W.heap.size W W') : Stage w C0 C1 C2 T1 T2 W' := by
  have := h.lz2
  obtain ⟨T0, h0⟩ := h.b0
  exact ⟨Nat.lt_of_lt_of_le h.lz2 hb.size, ⟨T0, (hb.block _ (by omega)).trans h0⟩, (hb.block _ (by omega)).trans h.b1, (hb.block _ (by omega)).trans h.b2⟩
theorem Stage.start (hb : Below (((w.alloc (.cells C0 T0)).alloc (.cells C1 T1)).alloc (.cells C2 T2)).heap.size (((w.alloc (.cells C0 T0)).alloc (.cells C1 T1)).alloc (.cells C2 T2)) W) : Stage w C0 C1 C2 T1 T2 W := by
  have hs := hb.size
  simp at hs
  refine ⟨by omega, ⟨T0, (hb.block _ (by simp; omega)).trans ?_⟩, (hb.block _ (by simp)).trans ?_, (hb.block _ (by simp)).trans ?_⟩
  · rw [Below.heap_alloc _ _ _ (by simp; omega), Below.heap_alloc _ _ _ (by simp)]; exact heap_alloc_new w _
  · rw [Below.heap_alloc _ _ _ (by simp)]; simpa using heap_alloc_new (w.alloc (.cells C0 T0)) (.cells C1 T1)
  · simpa using heap_alloc_new ((w.alloc (.cells C0 T0)).alloc (.cells C1 T1)) (.cells C2 T2)
theorem Stage.set (h : Stage w C0 C1 C2 T1 T2 W) (q : Nat) (v : Value) : Stage w C0 C1 (C2.setIfInBounds q v) T1 T2 (W.setCell ⟨w.heap.size + 1 + 1, q, none⟩ v) := by
  obtain ⟨T0, h0⟩ := h.b0
  refine ⟨by simpa [World.setCell] using h.lz2, ⟨T0, ?_⟩, ?_, block_setCell h.b2 v⟩
  · rw [Below.heap_setCell _ _ _ _ (by simp; omega)]; exact h0
  · rw [Below.heap_setCell _ _ _ _ (by simp)]; exact h.b1
theorem Stage.facts (h : Stage w C0 C1 C2 T1 T2 W) : (∀ q, W.cell? ⟨w.heap.size, q, none⟩ = C0[q]?) ∧ (∀ q, W.cell? ⟨w.heap.size + 1, q, none⟩ = C1[q]?) ∧ (∀ q, W.cell? ⟨w.heap.size + 1 + 1, q, none⟩ = C2[q]?) ∧ (∀ q, W.frozen? ⟨w.heap.size + 1, q, none⟩ = false) ∧ (∀ q, W.frozen? ⟨w.heap.size + 1 + 1, q, none⟩ = false) := by
  obtain ⟨T0, h0⟩ := h.b0
  exact ⟨fun q => cell_of_block h0 q, fun q => cell_of_block h.b1 q, fun q => cell_of_block h.b2 q, fun q => unfrozen_of_block h.b1 q, fun q => unfrozen_of_block h.b2 q⟩
end

theorem infoInt64S : (Try.prog.info? 2).map (fun i => (i.zero, i.size, i.bytes)) = some (some (.int .i64 0), 1, 8) := by kernel_rfl
theorem makeInt64S (n : Nat) (hn : n ≤ 1048576) (w : World) : ∃ cur : Array Value, cur.size = n * 1 ∧
    (Instr.makeSlice 27 (.int .i64 (n : Int)) (.int .i64 (n : Int))).run Try.prog w = .ok (.slice (some ⟨w.heap.size, 0, none⟩) n n) (w.alloc (.cells cur 2)) := by
  obtain ⟨i0, hi, hz0, hz1, hz2⟩ := info_parts infoInt64S
  have hr := run_make (P := Try.prog) w 27 2 i0 _ Try.underlying27 hi hz0 .i64 .i64 n n (by omega) (by omega) (by rw [hz2]; omega) (by omega)
  simp only [Int.toNat_natCast] at hr
  refine ⟨_, ?_, hr⟩
  rw [hz1]
  simp [madeCells]

set_option maxRecDepth 100000 in
set_option maxHeartbeats 2000000 in
theorem toInt64S_calls (A : Option Addr) (n c : Nat) (f : Nat → Nat → Dat) (w : World) (hq : cost (.sl n 1 f) ≤ 1048576) (hm : n ≤ maxLen) (hr : RowsAt w A n 1 f) (ht : tyInt64S (.sl n 1 f)) :
    Calls Try.prog 18 #[.slice A n c] w fun e w' => ∃ G, e = .returned (.slice (some ⟨G, 0, none⟩) n n) ∧ Own w' (.slice (some ⟨G, 0, none⟩) n n) (.sl n 1 f) (iv w.heap.size w'.heap.size) ∧ Below w.heap.size w w' := by
  have HR := Lib.hid hr
  have HT := Lib.hid (tyInt64S_at ht)
  have HQ := Lib.hid hq
  have hcap : n ≤ 1048576 := by simp only [cost] at hq; omega
  clear hr ht hq
  obtain ⟨cur, hcs, hmk⟩ := makeInt64S n hcap w
  have HC := Lib.hid hcs
  clear hcs
  go_enter Try.func18, Try.ntmps18
  go_wp2
  go_loopw [4] (fun i w' => ∃ m top : Nat, m ≤ n ∧ i = .int .i64 (m : Int) ∧ Hid (Built w n 1 f m 0 top w')) (fun i _ => n - (intOf i).toNat)
  case atStart => exact ⟨0, w.heap.size + 1, Nat.zero_le _, rfl, Lib.hid (Built.start cur 2 HC.out)⟩
  case round =>
    obtain ⟨m, top, hmn, rfl, HG⟩ := hrel
    clear hmk
    by_cases hlt : m < n
    · obtain ⟨b, o, rfl, hbl, hj⟩ := HR.out m hlt
      have hT := HT.out m hlt
      have HB := Lib.hid HG.out.below
      obtain ⟨x0, e0⟩ := hT
      obtain ⟨u0, q0, r0⟩ := hj 0 (by omega)
      rw [e0] at r0
      obtain ⟨rfl, hi0⟩ := r0.int_inv
      replace q0 := (HB.out.cell (p := ⟨b, o + m * 1 + 0, none⟩) hbl).trans q0
      clear r0
      simp only [Nat.add_zero, Nat.mul_one] at q0
      clear hj
      have E0 := Lib.hid e0
      clear e0
      have hli : (m : Int) < (n : Int) := by omega
      have HG2 := HG
      clear HG
      obtain ⟨⟨v0, g0⟩, hfz⟩ := HG2.out.at_ (m) (a := m) (b := 0) (by omega) (mul_add_lt hlt (by omega))
      go_wp2
      go_roundw
      case rel =>
        have P0 := HG2.out.put hlt (show 0 < 1 by omega) (m) (by omega) (by rw [E0.out]; exact .int _ _ hi0) (t1 := top) (t2 := top) (by omega) (by omega) (by first | exact HG2.out.htop | omega | (simp only [World.size_setCell]; first | exact HG2.out.htop | omega))
        exact ⟨m + 1, _, by omega, by go_num, Lib.hid P0.next⟩
      case measure => simp [intOf]; omega
    · obtain rfl : m = n := by omega
      go_wp2
      go_ret
      exact ⟨_, rfl, HG.out.own (Nat.le_refl _) hm, HG.out.below⟩

end Go.Proofs.Ytjhndncmeedffaa.core
