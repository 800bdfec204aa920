/-
  Proved: what the program's functions that ask whether the channels, strokes and notes of a file fit return (contracts of callees of the exact laws of chapter 3).
  Conditions: the file is read out of memory.
-/
import Derived.Test.YtnmlnlcbnjepkaaFileI
namespace Go.Proofs.Ytnmlnlcbnjepkaa.fileI
open Go.ChangeShapes Go.WideShapes Go.ChangeAt Go.RowKit Go.Joins Go.WideMaps Go.Maps
open Go.Proofs.Ytnmlnlcbnjepkaa.core Go.Proofs.Ytnmlnlcbnjepkaa.names Go.Proofs.Ytnmlnlcbnjepkaa.fileS
set_option linter.unusedVariables false
set_option linter.unusedSimpArgs false

def VChP (n : Nat) (fc : Nat → Nat → Dat) : Prop := (1 ≤ n ∧ n ≤ 6) ∧ ChansP n fc n

set_option maxRecDepth 100000 in
set_option maxHeartbeats 4000000 in
theorem validChannels_calls (A : Option Addr) (n c : Nat) (fc : Nat → Nat → Dat) (w : World) (hn : n ≤ maxLen) (hr : RowsAt w A n 4 fc) (ht : tyChannelS (.sl n 4 fc)) :
    Calls Try.prog 113 #[.slice A n c] w fun e w' => e = .returned (.bool (tf (VChP n fc))) ∧ Below w.heap.size w w' := by
  have hn' : n ≤ 9223372036854775807 := by unfold maxLen at hn; omega
  clear hn
  by_cases h6 : 1 ≤ n ∧ n ≤ 6
  · have HR := Lib.hid hr
    have HT := Lib.hid ht
    have h1 : ¬ ((n : Int) < 1) := by omega
    have h2 : ¬ ((6 : Int) < (n : Int)) := by omega
    have d1 : decide ((n : Int) < 1) = false := decide_eq_false h1
    have d2 : decide ((6 : Int) < (n : Int)) = false := decide_eq_false h2
    have H6 := Lib.hid h6
    clear hr ht
    go_enter Try.func113, Try.ntmps113
    go_wp2
    go_loopw [15] (fun i w' => ∃ k : Nat, k ≤ n ∧ i = .int .i64 k ∧ Hid (∀ i, i < k → ChP (dStr (fc i 0)) (dStr (fc i 1)) (dInt (fc i 2)) (dInt (fc i 3))) ∧ Hid (Below w.heap.size w w')) (fun i _ => n - (intOf i).toNat)
    case atStart => exact ⟨0, Nat.zero_le _, rfl, Lib.hid all_zero, Lib.hid (Below.refl _ _)⟩
    case round =>
      clear d1 d2 h1 h2
      obtain ⟨k, hk, rfl, HA, HB⟩ := hrel
      by_cases hlt : k < n
      · obtain ⟨b, o, rfl, hbl, ⟨s0, z0⟩, ⟨s1, z1⟩, ⟨s2, -⟩, ⟨s3, -⟩⟩ := viewChannelS (HR.out.below HB.out) HT.out k hlt
        have hli : (k : Int) < (n : Int) := by omega
        by_cases h1 : ChP (dStr (fc k 0)) (dStr (fc k 1)) (dInt (fc k 2)) (dInt (fc k 3))
        · have H1 := Lib.hid (tf_t h1)
          have HA2 := Lib.hid (all_step HA.out h1)
          clear h1
          generalize dStr (fc k 0) = x0 at s0 z0 H1
          generalize dStr (fc k 1) = x1 at s1 z1 H1
          generalize dInt (fc k 2) = x2 at s2 H1
          generalize dInt (fc k 3) = x3 at s3 H1
          go_wp2_with fail
          refine (chValid_calls _ _ _ _ _ z0 z1 true H1.out).mono ?_
          rintro e w2 ⟨rfl, hb2⟩
          have HB2 := Lib.hid ((HB.out.alloc HB.out.size _).trans (hb2.mono (HB.out.alloc HB.out.size _).size))
          clear hb2 s0 s1 s2 s3
          go_wp2
          go_roundw
          case rel => exact ⟨k + 1, by omega, by go_num, HA2, HB2⟩
          case measure => simp [intOf]; omega
        · have H1 := Lib.hid (tf_f h1)
          have HF := Lib.hid (tf_f (P := VChP n fc) fun h => h1 (h.2 k hlt).1)
          clear h1
          generalize dStr (fc k 0) = x0 at s0 z0 H1
          generalize dStr (fc k 1) = x1 at s1 z1 H1
          generalize dInt (fc k 2) = x2 at s2 H1
          generalize dInt (fc k 3) = x3 at s3 H1
          go_wp2_with fail
          refine (chValid_calls _ _ _ _ _ z0 z1 false H1.out).mono ?_
          rintro e w2 ⟨rfl, hb2⟩
          have HB2 := Lib.hid ((HB.out.alloc HB.out.size _).trans (hb2.mono (HB.out.alloc HB.out.size _).size))
          clear hb2 s0 s1 s2 s3
          go_wp2
          go_ret
          exact ⟨ret_bool HF.out.symm, HB2.out⟩
      · obtain rfl : n = k := by omega
        have HF := Lib.hid (show tf (VChP n fc) = decide (((size (PL (fun i => dStr (fc i 0)) n) : Nat) : Int) = (n : Int)) by
          rw [Bool.eq_iff_iff, tf_iff, decide_eq_true_eq]
          rw [show ((((size (PL (fun i => dStr (fc i 0)) n) : Nat) : Int) = (n : Int)) ↔ size (PL (fun i => dStr (fc i 0)) n) = n) from by omega, PL_size, dst_fnd]
          exact ⟨fun h i hi => (h.2 i hi).2, fun h => ⟨H6.out, fun i hi => ⟨HA.out i hi, h i hi⟩⟩⟩)
        clear HA hlt hk
        go_wp2_with fail
        refine (places_calls A n c fc _ (by have := H6.out; omega) (HR.out.below HB.out) HT.out).mono ?_
        rintro e w2 ⟨rfl, hown, hb2⟩
        have HB2 := Lib.hid (HB.out.trans (hb2.mono HB.out.size))
        clear hb2
        go_wp2_with ((at_len; refine wpList_len_own _ rfl _ 150 rfl 9 3 Try.underlying150 _ wr.heap.size n _ rfl hown ?_))
        go_ret
        exact ⟨ret_bool HF.out.symm, HB2.out⟩
  · have HF := Lib.hid (tf_f (P := VChP n fc) fun h => h6 h.1)
    clear hr ht
    by_cases h1 : (n : Int) < 1
    · go_enter Try.func113, Try.ntmps113
      go_wp2
      go_ret
      exact ⟨ret_bool HF.out.symm, Below.refl _ _⟩
    · have h2 : (6 : Int) < (n : Int) := by omega
      have d2 : decide ((6 : Int) < (n : Int)) = true := decide_eq_true h2
      go_enter Try.func113, Try.ntmps113
      go_wp2
      go_ret
      exact ⟨ret_bool HF.out.symm, Below.refl _ _⟩

set_option maxRecDepth 100000 in
set_option maxHeartbeats 2000000 in
theorem spans_calls (x y : Int) (t : ByteArray) (A : Option Addr) (ns c : Nat) (w : World) (hn : ns ≤ maxLen) (v : Bool) (hv : tf (PlaceP ns x y) = v) :
    Calls Try.prog 68 #[.agg #[.int .i64 x, .int .i64 y, .string t], .slice A ns c] w fun e w' => e = .returned (.bool v) ∧ Below w.heap.size w w' := by
  have hn' : ns ≤ 9223372036854775807 := by unfold maxLen at hn; omega
  clear hn
  have hc : (¬ 0 ≤ x ∧ v = false) ∨ (0 ≤ x ∧ ¬ x < y ∧ v = false) ∨ (0 ≤ x ∧ x < y ∧ ¬ y ≤ (ns : Int) ∧ v = false) ∨ (0 ≤ x ∧ x < y ∧ y ≤ (ns : Int) ∧ v = true) := by
    by_cases h1 : 0 ≤ x
    · by_cases h2 : x < y
      · by_cases h3 : y ≤ (ns : Int)
        · exact .inr (.inr (.inr ⟨h1, h2, h3, by rw [← hv]; exact tf_t ⟨h1, h2, h3⟩⟩))
        · exact .inr (.inr (.inl ⟨h1, h2, h3, by rw [← hv]; exact tf_f fun h => h3 h.2.2⟩))
      · exact .inr (.inl ⟨h1, h2, by rw [← hv]; exact tf_f fun h => h2 h.2.1⟩)
    · exact .inl ⟨h1, by rw [← hv]; exact tf_f fun h => h1 h.1⟩
  clear hv
  rcases hc with ⟨h1, rfl⟩ | ⟨h1, h2, rfl⟩ | ⟨h1, h2, h3, rfl⟩ | ⟨h1, h2, h3, rfl⟩
  · have d1 : decide (0 ≤ x) = false := decide_eq_false h1
    go_enter Try.func68, Try.ntmps68
    go_wp2
    go_ret
    exact ⟨rfl, below_alloc1 _ _⟩
  · have d1 : decide (0 ≤ x) = true := decide_eq_true h1
    have d2 : decide (x < y) = false := decide_eq_false h2
    go_enter Try.func68, Try.ntmps68
    go_wp2
    go_ret
    exact ⟨rfl, below_alloc1 _ _⟩
  · have d1 : decide (0 ≤ x) = true := decide_eq_true h1
    have d2 : decide (x < y) = true := decide_eq_true h2
    have d3 : decide (y ≤ (ns : Int)) = false := decide_eq_false h3
    go_enter Try.func68, Try.ntmps68
    go_wp2
    go_ret
    exact ⟨rfl, below_alloc1 _ _⟩
  · have d1 : decide (0 ≤ x) = true := decide_eq_true h1
    have d2 : decide (x < y) = true := decide_eq_true h2
    have d3 : decide (y ≤ (ns : Int)) = true := decide_eq_true h3
    go_enter Try.func68, Try.ntmps68
    go_wp2
    go_ret
    exact ⟨rfl, below_alloc1 _ _⟩

set_option maxRecDepth 100000 in
set_option maxHeartbeats 2000000 in
theorem refuses_calls (v0 v2 : Value) (A1 : Option Addr) (ns c1 : Nat) (x y : Int) (t : ByteArray) (w : World) (hns : ns ≤ maxLen) (ht : t.size ≤ maxLen) (v : Bool) (hv : tf (PlaceP ns x y ∧ nameB t = true) = !v) :
    Calls Try.prog 117 #[.agg #[v0, .slice A1 ns c1, v2], .agg #[.int .i64 x, .int .i64 y, .string t]] w fun e w' => e = .returned (.bool v) ∧ Below w.heap.size w w' := by
  have HN := Lib.hid hns
  clear hns
  have bl := below_alloc2 w (.cells #[v0, .slice A1 ns c1, v2] 35) (.cells #[.int .i64 x, .int .i64 y, .string t] 59)
  have BL := Lib.hid bl
  clear bl
  by_cases h1 : PlaceP ns x y
  · have H1 := Lib.hid (tf_t h1)
    cases h2 : nameB t
    · have hvv : v = true := by
        rw [tf_f (fun h => absurd (h2.symm.trans h.2) (by simp))] at hv
        simpa using hv.symm
      have H2 := Lib.hid h2
      subst hvv
      clear h1 h2 hv
      go_enter Try.func117, Try.ntmps117
      go_wp2_with fail
      refine (spans_calls x y t A1 ns c1 _ HN.out true H1.out).mono ?_
      rintro e w1 ⟨rfl, hb⟩
      have HB := Lib.hid (BL.out.trans (hb.mono BL.out.size))
      have d2 := (hb.cell (p := ⟨w.heap.size + 1, 2, none⟩) (by simp)).trans (show _ = some (.string t) by simp)
      have lz : w.heap.size + 1 < w1.heap.size := by have := hb.size; simp at this; omega
      clear hb
      go_wp2_with fail
      refine (nameI_b t _ ht false H2.out).mono ?_
      rintro e w2 ⟨rfl, hb⟩
      have HB2 := Lib.hid (HB.out.trans (hb.mono HB.out.size))
      clear hb d2
      go_wp2
      go_ret
      exact ⟨rfl, HB2.out⟩
    · have hvv : v = false := by
        rw [tf_t ⟨h1, h2⟩] at hv
        simpa using hv.symm
      have H2 := Lib.hid h2
      subst hvv
      clear h1 h2 hv
      go_enter Try.func117, Try.ntmps117
      go_wp2_with fail
      refine (spans_calls x y t A1 ns c1 _ HN.out true H1.out).mono ?_
      rintro e w1 ⟨rfl, hb⟩
      have HB := Lib.hid (BL.out.trans (hb.mono BL.out.size))
      have d2 := (hb.cell (p := ⟨w.heap.size + 1, 2, none⟩) (by simp)).trans (show _ = some (.string t) by simp)
      have lz : w.heap.size + 1 < w1.heap.size := by have := hb.size; simp at this; omega
      clear hb
      go_wp2_with fail
      refine (nameI_b t _ ht true H2.out).mono ?_
      rintro e w2 ⟨rfl, hb⟩
      have HB2 := Lib.hid (HB.out.trans (hb.mono HB.out.size))
      clear hb d2
      go_wp2
      go_ret
      exact ⟨rfl, HB2.out⟩
  · have H1 := Lib.hid (tf_f h1)
    have hvv : v = true := by
      rw [tf_f (fun h => h1 h.1)] at hv
      simpa using hv.symm
    subst hvv
    clear h1 hv
    go_enter Try.func117, Try.ntmps117
    go_wp2_with fail
    refine (spans_calls x y t A1 ns c1 _ HN.out false H1.out).mono ?_
    rintro e w1 ⟨rfl, hb⟩
    have HB := Lib.hid (BL.out.trans (hb.mono BL.out.size))
    clear hb
    go_wp2
    go_ret
    exact ⟨rfl, HB.out⟩

set_option maxRecDepth 100000 in
set_option maxHeartbeats 4000000 in
theorem fits_calls (A : Option Addr) (n c : Nat) (fc : Nat → Nat → Dat) (R : Option Addr) (m d : Nat) (fv : Nat → Nat → Dat) (w : World) (hm : m ≤ maxLen) (hn : n ≤ maxLen)
    (hc : RowsAt w A n 4 fc) (htc : tyChannelS (.sl n 4 fc)) (hr : RowsAt w R m 1 fv) (htr : tyInt64S (.sl m 1 fv)) (v : Bool) (hv : tf (RowP n fc m fv) = v) :
    Calls Try.prog 155 #[.slice R m d, .slice A n c] w fun e w' => e = .returned (.bool v) ∧ Below w.heap.size w w' := by
  have hm' : m ≤ 9223372036854775807 := by unfold maxLen at hm; omega
  have hn' : n ≤ 9223372036854775807 := by unfold maxLen at hn; omega
  have HC := Lib.hid (fun (W : World) (hB : Below w.heap.size w W) => viewChannelS (hc.below hB) htc)
  have HR := Lib.hid (fun (W : World) (hB : Below w.heap.size w W) => viewInt64S (hr.below hB) htr)
  clear hm hn hc htc hr htr
  subst hv
  have hmix := mixedR
  by_cases e : m = n
  · subst e
    go_enter Try.func155, Try.ntmps155
    go_wp2
    go_loopw [14] (fun i w' => ∃ k : Nat, k ≤ m ∧ i = .int .i64 (k : Int) ∧ Hid (∀ q, q < k → dInt (fc q 2) ≤ dInt (fv q 0) ∧ dInt (fv q 0) ≤ dInt (fc q 3)) ∧ Hid (Below w.heap.size w w')) (fun i _ => m - (intOf i).toNat)
    case atStart => exact ⟨0, Nat.zero_le _, rfl, Lib.hid all_zero, Lib.hid (Below.refl _ _)⟩
    case round =>
      obtain ⟨k, hk, rfl, HA, HB⟩ := hrel
      by_cases hlt : k < m
      · obtain ⟨b1, o1, rfl, hl1, ⟨q0, z0⟩, ⟨q1, z1⟩, ⟨q2, -⟩, ⟨q3, -⟩⟩ := HC.out wr HB.out k hlt
        obtain ⟨b2, o2, rfl, hl2, ⟨p0, -⟩⟩ := HR.out wr HB.out k hlt
        have hli : (k : Int) < (m : Int) := by omega
        have HA2 := Lib.hid (fun (h : dInt (fc k 2) ≤ dInt (fv k 0) ∧ dInt (fv k 0) ≤ dInt (fc k 3)) => all_step HA.out h)
        have HF := Lib.hid (fun (h : ¬ (dInt (fc k 2) ≤ dInt (fv k 0) ∧ dInt (fv k 0) ≤ dInt (fc k 3))) => tf_f (P := RowP m fc m fv) fun hh => h (hh.2 k hlt))
        generalize dStr (fc k 0) = x0 at q0 z0
        generalize dStr (fc k 1) = x1 at q1 z1
        generalize dInt (fc k 2) = x at *
        generalize dInt (fc k 3) = y at *
        generalize dInt (fv k 0) = z at *
        have HBz := Lib.hid (HB.out.alloc HB.out.size (.cells #[.string x0, .string x1, .int .i64 x, .int .i64 y] 98))
        have hk0 := cell_kept (w := wr.alloc (.cells #[.string x0, .string x1, .int .i64 x, .int .i64 y] 98)) (a := ⟨b2, o2 + k, none⟩) (by simp; omega) ((World.cell?_alloc_lt _ _ _ hl2).trans p0)
        have hk2 := cell_kept (w := wr.alloc (.cells #[.string x0, .string x1, .int .i64 x, .int .i64 y] 98)) (a := ⟨wr.heap.size, 2, none⟩) (v := .int .i64 x) (by simp) (by simp)
        have hk3 := cell_kept (w := wr.alloc (.cells #[.string x0, .string x1, .int .i64 x, .int .i64 y] 98)) (a := ⟨wr.heap.size, 3, none⟩) (v := .int .i64 y) (by simp) (by simp)
        have hcase : (z < x) ∨ (¬ z < x ∧ y < z) ∨ (¬ z < x ∧ ¬ y < z) := by omega
        rcases hcase with h1 | ⟨h1, h2⟩ | ⟨h1, h2⟩
        · have HG := Lib.hid (HF.out (by omega))
          have d1 : decide (z < x) = true := decide_eq_true h1
          clear HA2 HF
          go_wp2
          refine wp_region_quiet_kept (by assumption) (by kernel_rfl) ?_
          repeat (first | go_big_quiet_step (fail) | quiet_step (fail))
          refine wpQuiet_nil ?_
          intro w2 hw'
          have hB : Below (wr.alloc (.cells #[.string x0, .string x1, .int .i64 x, .int .i64 y] 98)).heap.size (wr.alloc (.cells #[.string x0, .string x1, .int .i64 x, .int .i64 y] 98)) w2 := by obtain ⟨⟨wk, hb0⟩, hw''⟩ := hw'; rw [hw'']; exact hb0
          have HB2 := Lib.hid (HBz.out.trans (hB.mono HBz.out.size))
          clear hw' hB q0 q1 q2 q3 p0 hk0 hk2 hk3
          go_wp2
          go_ret
          exact ⟨ret_bool HG.out.symm, HB2.out⟩
        · have HG := Lib.hid (HF.out (by omega))
          have d1 : decide (z < x) = false := decide_eq_false h1
          have d2 : decide (y < z) = true := decide_eq_true h2
          clear HA2 HF
          go_wp2
          refine wp_region_quiet_kept (by assumption) (by kernel_rfl) ?_
          repeat (first | go_big_quiet_step (fail) | quiet_step (fail))
          refine wpQuiet_nil ?_
          intro w2 hw'
          have hB : Below (wr.alloc (.cells #[.string x0, .string x1, .int .i64 x, .int .i64 y] 98)).heap.size (wr.alloc (.cells #[.string x0, .string x1, .int .i64 x, .int .i64 y] 98)) w2 := by obtain ⟨⟨wk, hb0⟩, hw''⟩ := hw'; rw [hw'']; exact hb0
          have HB2 := Lib.hid (HBz.out.trans (hB.mono HBz.out.size))
          clear hw' hB q0 q1 q2 q3 p0 hk0 hk2 hk3
          go_wp2
          go_ret
          exact ⟨ret_bool HG.out.symm, HB2.out⟩
        · have HG := Lib.hid (HA2.out (by omega))
          have d1 : decide (z < x) = false := decide_eq_false h1
          have d2 : decide (y < z) = false := decide_eq_false h2
          clear HA2 HF
          go_wp2
          refine wp_region_quiet_kept (by assumption) (by kernel_rfl) ?_
          repeat (first | go_big_quiet_step (fail) | quiet_step (fail))
          refine wpQuiet_nil ?_
          intro w2 hw'
          have hB : Below (wr.alloc (.cells #[.string x0, .string x1, .int .i64 x, .int .i64 y] 98)).heap.size (wr.alloc (.cells #[.string x0, .string x1, .int .i64 x, .int .i64 y] 98)) w2 := by obtain ⟨⟨wk, hb0⟩, hw''⟩ := hw'; rw [hw'']; exact hb0
          have HB2 := Lib.hid (HBz.out.trans (hB.mono HBz.out.size))
          clear hw' hB q0 q1 q2 q3 p0 hk0 hk2 hk3
          go_wp2
          go_roundw
          case rel => exact ⟨k + 1, by omega, by go_num, HG, HB2⟩
          case measure => simp [intOf]; omega
      · obtain rfl : m = k := by omega
        have HF := Lib.hid (tf_t (P := RowP m fc m fv) ⟨rfl, HA.out⟩)
        go_wp2
        go_ret
        exact ⟨ret_bool HF.out.symm, HB.out⟩
  · have HF := Lib.hid (tf_f (P := RowP n fc m fv) fun h => e h.1)
    have e1 : ((m : Int) != (n : Int)) = true := by simp; omega
    have e2 : ¬ (m : Int) = (n : Int) := by omega
    go_enter Try.func155, Try.ntmps155
    go_wp2
    go_ret
    exact ⟨ret_bool HF.out.symm, Below.refl _ _⟩
end Go.Proofs.Ytnmlnlcbnjepkaa.fileI
