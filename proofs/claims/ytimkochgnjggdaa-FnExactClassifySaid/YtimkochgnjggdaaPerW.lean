/-
  Proved: what both functions that ask whether a perceptron is valid return.
  Conditions: none.
-/
import Derived.Test.YtimkochgnjggdaaPer
namespace Go.Proofs.Ytimkochgnjggdaa.per
open Go.ChangeShapes Go.WideShapes Go.ChangeAt Go.RowKit Go.Joins
open Go.Proofs.Ytimkochgnjggdaa.core Go.Proofs.Ytimkochgnjggdaa.rown Go.Proofs.Ytimkochgnjggdaa.stk Go.Proofs.Ytimkochgnjggdaa.boxed Go.Proofs.Ytimkochgnjggdaa.ft Go.Proofs.Ytimkochgnjggdaa.one1 Go.Proofs.Ytimkochgnjggdaa.lab
set_option linter.unusedVariables false
set_option linter.unusedSimpArgs false
def InW (x : Int) : Prop := -1000000 ≤ x ∧ x ≤ 1000000
def RowOk (n : Nat) (f : Nat → Int) : Prop := n = 25 ∧ ∀ j, j < 25 → InW (f j)
def PeOk (n m : Nat) (s : Nat → ByteArray) (wn : Nat → Nat) (wf : Nat → Nat → Int) : Prop := LabsOk n s ∧ m = n ∧ ∀ i, i < m → RowOk (wn i) (wf i)
noncomputable def rowB (n : Nat) (f : Nat → Int) : Bool := @decide (RowOk n f) (Classical.propDecidable _)
theorem row_iff {n : Nat} {f : Nat → Int} : rowB n f = true ↔ RowOk n f := by unfold rowB; exact @decide_eq_true_iff _ (Classical.propDecidable _)
theorem row_no {n : Nat} {f : Nat → Int} (h : ¬ RowOk n f) : rowB n f = false := by unfold rowB; exact @decide_eq_false _ (Classical.propDecidable _) h
noncomputable def peB (n m : Nat) (s : Nat → ByteArray) (wn : Nat → Nat) (wf : Nat → Nat → Int) : Bool := @decide (PeOk n m s wn wf) (Classical.propDecidable _)
theorem pe_iff {n m : Nat} {s : Nat → ByteArray} {wn : Nat → Nat} {wf : Nat → Nat → Int} : peB n m s wn wf = true ↔ PeOk n m s wn wf := by unfold peB; exact @decide_eq_true_iff _ (Classical.propDecidable _)
theorem pe_no {n m : Nat} {s : Nat → ByteArray} {wn : Nat → Nat} {wf : Nat → Nat → Int} (h : ¬ PeOk n m s wn wf) : peB n m s wn wf = false := by unfold peB; exact @decide_eq_false _ (Classical.propDecidable _) h
/-- No length is out of bounds. -/
structure PeL (n m : Nat) (s : Nat → ByteArray) (wn : Nat → Nat) : Prop where
  hn : n ≤ 1048576
  hm : m ≤ 1048576
  hs : ∀ i, i < n → (s i).size ≤ maxLen
  hw : ∀ i, i < m → wn i ≤ 1048576
set_option maxRecDepth 100000 in
set_option maxHeartbeats 2000000 in
theorem withinI (A : Option Addr) (n c : Nat) (f : Nat → Int) (w : World) (hn : n ≤ 1048576) (h : NumAt w A n f) (r : Bool) (hr : r = true ↔ ∀ j, j < n → InW (f j)) :
    Calls Try.prog 107 #[.int .i64 1000000, .slice A n c] w fun e w' => e = .returned (.bool r) ∧ w = w' := by
  have H := Lib.hid h
  have HR := Lib.hid hr
  clear h hr
  go_enter Try.func107, Try.ntmps107
  go_wp2
  go_loop [9] (fun i => ∃ k : Nat, k ≤ n ∧ i = .int .i64 (k : Int) ∧ Hid (∀ j, j < k → InW (f j))) (fun i => n - (intOf i).toNat)
  case atStart => exact ⟨0, Nat.zero_le _, rfl, Lib.hid fun i hi => absurd hi (by omega)⟩
  case round =>
    obtain ⟨k, hk, rfl, HA⟩ := hrel
    by_cases hlt : k < n
    · obtain ⟨b, o, rfl, hb, hc⟩ := H.out k hlt
      by_cases hok : InW (f k)
      · have HS := Lib.hid (all_next HA.out hok)
        obtain ⟨a1, a2⟩ := hok
        have d2 : decide (1000000 < f k) = false := decide_eq_false (by omega)
        generalize f k = x at *
        go_wp2
        go_round
        case rel => exact ⟨k + 1, by omega, by go_num, HS⟩
        case measure => simp [intOf]; omega
      · have hrf : r = false := by
          cases hh : r
          · rfl
          · exact absurd ((HR.out.1 hh) k hlt) hok
        subst hrf
        unfold InW at hok
        by_cases a1 : -1000000 ≤ f k
        · have d2 : decide (1000000 < f k) = true := decide_eq_true (by omega)
          clear hok HA
          generalize f k = x at *
          go_wp2
          go_ret
          exact ⟨rfl, by trivial⟩
        · clear hok HA
          generalize f k = x at *
          go_wp2
          go_ret
          exact ⟨rfl, by trivial⟩
    · obtain rfl : k = n := by omega
      have hrt : r = true := HR.out.2 HA.out
      subst hrt
      go_wp2
      go_ret
      exact ⟨rfl, by trivial⟩
set_option maxRecDepth 100000 in
set_option maxHeartbeats 2000000 in
theorem noRowI (A : Option Addr) (n c : Nat) (f : Nat → Int) (w : World) (hn : n ≤ 1048576) (h : NumAt w A n f) :
    Calls Try.prog 75 #[.slice A n c] w fun e w' => e = .returned (.bool (!rowB n f)) ∧ w = w' := by
  by_cases h25 : n = 25
  · subst h25
    have HC := Lib.hid (withinI A 25 c f w (by omega) h (rowB 25 f) (by rw [row_iff]; exact ⟨fun h => h.2, fun h => ⟨rfl, h⟩⟩))
    clear h
    generalize rowB 25 f = r at *
    go_enter Try.func75, Try.ntmps75
    go_wp2_with fail
    refine HC.out.mono ?_
    rintro e _ ⟨rfl, rfl⟩
    go_wp2
    go_ret
    exact ⟨rfl, rfl⟩
  · have HF := Lib.hid (row_no (fun h : RowOk n f => h25 h.1))
    have h25i : ¬ (n : Int) = 25 := by omega
    have h25b : ((n : Int) == 25) = false := by simp; omega
    clear h h25
    go_enter Try.func75, Try.ntmps75
    go_wp2
    go_ret
    exact ⟨by rw [HF.out]; rfl, rfl⟩
set_option maxRecDepth 100000 in
set_option maxHeartbeats 2000000 in
theorem indexWI {cb : Nat} (B : Option Addr) (n : Nat) (ln : Nat → Nat) (lf : Nat → Nat → Int) (r : Bool) (w : World) (hn : n ≤ 1048576) (hl : ∀ i, i < n → ln i ≤ 1048576) (hr : r = true ↔ ∀ i, i < n → RowOk (ln i) (lf i)) (hp : WsAt w B n ln lf) :
    Calls Try.prog 106 #[.slice B n cb, .func (.func 75) #[] #[]] w fun e w' => (∃ k : Int, e = .returned (.int .i64 k) ∧ decide (0 ≤ k) = !r) ∧ Below w.heap.size w w' := by
  have HP := Lib.hid hp
  have HR := Lib.hid hr
  have HLN := Lib.hid hl
  clear hp hr hl
  go_enter Try.func106, Try.ntmps106
  go_wp2
  go_loopw [8] (fun i w' => ∃ k : Nat, k ≤ n ∧ i = .int .i64 (k : Int) ∧ Hid (∀ j, j < k → RowOk (ln j) (lf j)) ∧ Hid (Below w.heap.size w w')) (fun i _ => n - (intOf i).toNat)
  case atStart => exact ⟨0, Nat.zero_le _, rfl, Lib.hid (fun j hj => absurd hj (by omega)), Lib.hid (Below.refl _ _)⟩
  case round =>
    obtain ⟨k, hk, rfl, HE, HB⟩ := hrel
    by_cases hlt : k < n
    · obtain ⟨g, o, Ai, ci, rfl, hg, c0, hq⟩ := (HP.out.kept HB.out) k hlt
      have hli : (k : Int) < (n : Int) := by omega
      have HI := Lib.hid (noRowI Ai (ln k) ci (lf k) wr (HLN.out k hlt) hq)
      cases hi : rowB (ln k) (lf k) with
      | true =>
        have HE2 := Lib.hid (show ∀ j, j < k + 1 → RowOk (ln j) (lf j) from all_next HE.out (row_iff.1 hi))
        rw [hi] at HI
        clear hi hq HE
        generalize ln k = q at *
        go_wp2_with fail
        refine HI.out.mono ?_
        rintro e _ ⟨rfl, rfl⟩
        clear c0 HI
        go_wp2
        go_roundw
        case rel => exact ⟨k + 1, by omega, by go_num, HE2, HB⟩
        case measure => simp [intOf]; omega
      | false =>
        have HF := Lib.hid (show r = false by
          cases hh : r
          · rfl
          · have := row_iff.2 (HR.out.1 hh k hlt)
            rw [hi] at this
            cases this)
        rw [hi] at HI
        clear hi hq HE
        generalize ln k = q at *
        go_wp2_with fail
        refine HI.out.mono ?_
        rintro e _ ⟨rfl, rfl⟩
        clear c0 HI
        go_wp2
        go_ret
        exact ⟨⟨_, rfl, by rw [HF.out]; simp⟩, HB.out⟩
    · obtain rfl : k = n := by omega
      have HF := Lib.hid (show r = true from HR.out.2 HE.out)
      go_wp2
      go_ret
      exact ⟨⟨-1, rfl, by rw [HF.out]; rfl⟩, HB.out⟩
set_option maxRecDepth 100000 in
set_option maxHeartbeats 2000000 in
theorem containsWI {cb : Nat} (B : Option Addr) (n : Nat) (ln : Nat → Nat) (lf : Nat → Nat → Int) (r : Bool) (w : World) (hn : n ≤ 1048576) (hl : ∀ i, i < n → ln i ≤ 1048576) (hr : r = true ↔ ∀ i, i < n → RowOk (ln i) (lf i)) (hp : WsAt w B n ln lf) :
    Calls Try.prog 74 #[.slice B n cb, .func (.func 75) #[] #[]] w fun e w' => e = .returned (.bool (!r)) ∧ Below w.heap.size w w' := by
  have HC := Lib.hid (indexWI (cb := cb) B n ln lf r w hn hl hr hp)
  clear hr hp hl
  go_enter Try.func74, Try.ntmps74
  go_wp2_with fail
  refine HC.out.mono ?_
  rintro e w1 ⟨⟨k, rfl, hk⟩, hb⟩
  have HK := Lib.hid hk
  have HB := Lib.hid hb
  clear hk hb
  by_cases h : 0 ≤ k
  · have HK2 := Lib.hid (show true = !r by rw [← HK.out, decide_eq_true h])
    go_wp2
    go_ret
    exact ⟨by first | exact ret_bool HK2.out | exact ret_bool HK.out, HB.out⟩
  · have HK2 := Lib.hid (show false = !r by rw [← HK.out, decide_eq_false h])
    go_wp2
    go_ret
    exact ⟨by first | exact ret_bool HK2.out | exact ret_bool HK.out, HB.out⟩
set_option maxRecDepth 100000 in
set_option maxHeartbeats 4000000 in
theorem validPI {c d : Nat} (A B : Option Addr) (n m : Nat) (s : Nat → ByteArray) (wn : Nat → Nat) (wf : Nat → Nat → Int) (w : World) (hl : PeL n m s wn) (hp : SsAt w A n s) (hq : WsAt w B m wn wf) :
    Calls Try.prog 34 #[.agg #[.slice A n c, .slice B m d]] w fun e w' => e = .returned (.bool (peB n m s wn wf)) ∧ Below w.heap.size w w' := by
  have BL := below_alloc1 w (.cells #[.slice A n c, .slice B m d] 38)
  have hund : undef = Value.tuple #[] := rfl
  have hn := hl.hn
  have hm := hl.hm
  have HL := Lib.hid (labelsI (c := c) A n s (w.alloc (.cells #[.slice A n c, .slice B m d] 38)) hn hl.hs (hp.kept BL))
  cases hv : labsB n s with
  | false =>
    rw [hv] at HL
    rw [pe_no (fun h => by have := labs_iff.2 h.1; rw [hv] at this; cases this)]
    have HBL := Lib.hid BL
    clear hp hq hl BL hv
    go_enter Try.func34, Try.ntmps34
    go_wp2_with fail
    refine HL.out.mono ?_
    rintro e w1 ⟨rfl, hb⟩
    have HB := Lib.hid (HBL.out.trans (hb.mono HBL.out.size))
    clear hb
    go_wp2
    go_ret
    exact ⟨rfl, HB.out⟩
  | true =>
    rw [hv] at HL
    by_cases e : m = n
    · subst e
      have HC := Lib.hid (fun (W : World) (hW : Below w.heap.size w W) => containsWI (cb := d) B m wn wf (peB m m s wn wf) W hm hl.hw (by rw [pe_iff]; exact ⟨fun h => h.2.2, fun h => ⟨labs_iff.1 hv, rfl, h⟩⟩) (hq.kept hW))
      have hK := heap_alloc_new w (.cells #[.slice A m c, .slice B m d] 38)
      have HBL := Lib.hid BL
      clear hp hq hl BL hv
      generalize peB m m s wn wf = r at *
      go_enter Try.func34, Try.ntmps34
      go_wp2_with fail
      refine HL.out.mono ?_
      rintro e w1 ⟨rfl, hb⟩
      have HB := Lib.hid (HBL.out.trans (hb.mono HBL.out.size))
      have q0 : w1.cell? ⟨w.heap.size, 0, none⟩ = some (.slice A m c) := by rw [cell_of_block ((hb.block _ (by simp)).trans hK)]; rfl
      have q1 : w1.cell? ⟨w.heap.size, 1, none⟩ = some (.slice B m d) := by rw [cell_of_block ((hb.block _ (by simp)).trans hK)]; rfl
      have hlt : w.heap.size < w1.heap.size := Nat.lt_of_lt_of_le (by simp) hb.size
      clear hb hK HL HBL
      go_wp2_with fail
      refine (HC.out _ HB.out).mono ?_
      rintro e w2 ⟨rfl, hb⟩
      have HB2 := Lib.hid (HB.out.trans (hb.mono HB.out.size))
      clear hb
      go_wp2
      go_ret
      exact ⟨by cases r <;> rfl, HB2.out⟩
    · rw [pe_no (fun h => e h.2.1)]
      have ei : ¬ (m : Int) = (n : Int) := by omega
      have eb : ((m : Int) == (n : Int)) = false := by simp; omega
      have hK := heap_alloc_new w (.cells #[.slice A n c, .slice B m d] 38)
      have HBL := Lib.hid BL
      clear hp hq hl BL hv e
      go_enter Try.func34, Try.ntmps34
      go_wp2_with fail
      refine HL.out.mono ?_
      rintro e w1 ⟨rfl, hb⟩
      have HB := Lib.hid (HBL.out.trans (hb.mono HBL.out.size))
      have q0 : w1.cell? ⟨w.heap.size, 0, none⟩ = some (.slice A n c) := by rw [cell_of_block ((hb.block _ (by simp)).trans hK)]; rfl
      have q1 : w1.cell? ⟨w.heap.size, 1, none⟩ = some (.slice B m d) := by rw [cell_of_block ((hb.block _ (by simp)).trans hK)]; rfl
      have hlt : w.heap.size < w1.heap.size := Nat.lt_of_lt_of_le (by simp) hb.size
      clear hb hK HL HBL
      go_wp2
      go_ret
      exact ⟨rfl, HB.out⟩
set_option maxRecDepth 100000 in
set_option maxHeartbeats 4000000 in
theorem okPS {c d : Nat} (b0 q : Nat) (A B : Option Addr) (n m : Nat) (s : Nat → ByteArray) (wn : Nat → Nat) (wf : Nat → Nat → Int) (w : World) (hb0 : b0 < w.heap.size) (c0 : w.cell? ⟨b0, q, none⟩ = some (.slice A n c)) (c1 : w.cell? ⟨b0, q + 1, none⟩ = some (.slice B m d)) (hl : PeL n m s wn) (hp : SsAt w A n s) (hq : WsAt w B m wn wf) :
    Calls Try.prog 72 #[.pointer (some ⟨b0, q, none⟩)] w fun e w' => e = .returned (.bool (peB n m s wn wf)) ∧ Below w.heap.size w w' := by
  have hund : undef = Value.tuple #[] := rfl
  have hn := hl.hn
  have hm := hl.hm
  have HW := Lib.hid hl.hw
  have hls := hl.hs
  have HL := Lib.hid (fun (W : World) (hW : Below w.heap.size w W) => labelsS (c := c) A n s W hn hls (hp.kept hW))
  have hmix := mixedP
  have HQ := Lib.hid hq
  have C0 := Lib.hid c0
  have C1 := Lib.hid c1
  clear hl hp hq
  cases hv : labsB n s with
  | false =>
    rw [hv] at HL
    rw [pe_no (fun h => by have := labs_iff.2 h.1; rw [hv] at this; cases this)]
    clear hv HQ HW
    go_enter Try.func72, Try.ntmps72
    replace c0 := cell_kept hb0 c0
    replace c1 := cell_kept hb0 c1
    go_wp2
    refine wp_region_quiet_kept (by assumption) (by kernel_rfl) ?_
    repeat (first | go_big_quiet_step ((go_at_call 63; exact Calls.kept_of (HL.out _ (Kept.below _)))) | quiet_step ((go_at_call 63; exact Calls.kept_of (HL.out _ (Kept.below _)))))
    refine wpQuiet_nil ?_
    intro w1 hw'
    have hb : Below w.heap.size w w1 := by obtain ⟨⟨wk, hb0⟩, hw''⟩ := hw'; rw [hw'']; exact hb0
    clear hw'
    have HB := Lib.hid hb
    clear hb
    go_wp2
    go_ret
    exact ⟨rfl, HB.out⟩
  | true =>
    rw [hv] at HL
    by_cases e : m = n
    rotate_left
    · rw [pe_no (fun h => e h.2.1)]
      have ei : ¬ (m : Int) = (n : Int) := by omega
      have eb : ((m : Int) == (n : Int)) = false := by simp; omega
      clear hv HQ e HW
      go_enter Try.func72, Try.ntmps72
      replace c0 := cell_kept hb0 c0
      replace c1 := cell_kept hb0 c1
      go_wp2
      refine wp_region_quiet_kept (by assumption) (by kernel_rfl) ?_
      repeat (first | go_big_quiet_step ((go_at_call 63; exact Calls.kept_of (HL.out _ (Kept.below _)))) | quiet_step ((go_at_call 63; exact Calls.kept_of (HL.out _ (Kept.below _)))))
      refine wpQuiet_nil ?_
      intro w1 hw'
      have hb : Below w.heap.size w w1 := by obtain ⟨⟨wk, hb0⟩, hw''⟩ := hw'; rw [hw'']; exact hb0
      clear hw'
      have HB := Lib.hid hb
      have q0 := (hb.cell (p := ⟨b0, q, none⟩) hb0).trans C0.out
      have q1 := (hb.cell (p := ⟨b0, q + 1, none⟩) hb0).trans C1.out
      have hbr := Nat.lt_of_lt_of_le hb0 hb.size
      clear hb
      go_wp2
      go_ret
      exact ⟨rfl, HB.out⟩
    subst e
    have HV := Lib.hid (labs_iff.1 hv)
    clear hv hund
    go_enter Try.func72, Try.ntmps72
    replace c0 := cell_kept hb0 c0
    replace c1 := cell_kept hb0 c1
    go_wp2
    refine wp_region_quiet_kept (by assumption) (by kernel_rfl) ?_
    repeat (first | go_big_quiet_step ((go_at_call 63; exact Calls.kept_of (HL.out _ (Kept.below _)))) | quiet_step ((go_at_call 63; exact Calls.kept_of (HL.out _ (Kept.below _)))))
    refine wpQuiet_nil ?_
    intro w1 hw'
    have hb : Below w.heap.size w w1 := by obtain ⟨⟨wk, hb0⟩, hw''⟩ := hw'; rw [hw'']; exact hb0
    clear hw'
    have HB1 := Lib.hid hb
    have q0 := (hb.cell (p := ⟨b0, q, none⟩) hb0).trans C0.out
    have q1 := (hb.cell (p := ⟨b0, q + 1, none⟩) hb0).trans C1.out
    have hbr := Nat.lt_of_lt_of_le hb0 hb.size
    clear hb HL c0 c1
    go_wp2
    clear q0 q1 hbr
    go_loopw [3] (fun i w' => ∃ k : Nat, k ≤ m ∧ i = .int .i64 (k : Int) ∧ Hid (∀ j, j < k → RowOk (wn j) (wf j)) ∧ Hid (Below w.heap.size w w')) (fun i _ => m - (intOf i).toNat)
    case atStart => exact ⟨0, Nat.zero_le _, rfl, Lib.hid (fun j hj => absurd hj (by omega)), HB1⟩
    case round =>
      obtain ⟨k, hk, rfl, HE, HB⟩ := hrel
      have q0 := (HB.out.cell (p := ⟨b0, q, none⟩) hb0).trans C0.out
      have q1 := (HB.out.cell (p := ⟨b0, q + 1, none⟩) hb0).trans C1.out
      have hbr := Nat.lt_of_lt_of_le hb0 HB.out.size
      by_cases hlt : k < m
      · obtain ⟨b1, o1, Ai, ci, rfl, hb1, p0, hq⟩ := (HQ.out.kept HB.out) k hlt
        have hli : (k : Int) < (m : Int) := by omega
        have HN := Lib.hid hq
        have hwl := HW.out k hlt
        obtain ⟨M, hM⟩ : ∃ M, wn k = M := ⟨_, rfl⟩
        rw [hM] at HN p0 hwl
        by_cases h25 : M = 25
        rotate_left
        · have HF := Lib.hid (pe_no (fun h : PeOk m m s wn wf => h25 (hM ▸ (h.2.2 k hlt).1)))
          have h25i : ¬ (M : Int) = 25 := by omega
          have h25b : ((M : Int) == 25) = false := by simp; omega
          clear hq h25 HN
          go_wp2
          go_ret
          exact ⟨by rw [HF.out]; rfl, HB.out⟩
        subst h25
        have HM := Lib.hid hM
        clear hq hM
        go_wp2
        clear p0 q0 q1
        go_loopw [4] (fun i w' => ∃ j : Nat, j ≤ 25 ∧ i = .int .i64 (j : Int) ∧ Hid (∀ x, x < j → InW (wf k x)) ∧ Hid (Below w.heap.size w w') ∧ Hid (Below wr.heap.size wr w')) (fun i _ => 25 - (intOf i).toNat)
        case atStart => exact ⟨0, Nat.zero_le _, rfl, Lib.hid (fun j hj => absurd hj (by omega)), HB, Lib.hid (Below.refl _ _)⟩
        case round =>
          rename_i wq
          obtain ⟨j, hj, rfl, HX, HB2, HB3⟩ := hrel
          have q0 := (HB2.out.cell (p := ⟨b0, q, none⟩) hb0).trans C0.out
          have q1 := (HB2.out.cell (p := ⟨b0, q + 1, none⟩) hb0).trans C1.out
          have hbr := Nat.lt_of_lt_of_le hb0 HB2.out.size
          by_cases hlt2 : j < 25
          · obtain ⟨b2, o2, A2, c2, e2, hb2, p0, hq⟩ := (HQ.out.kept HB2.out) k hlt
            obtain ⟨rfl, rfl⟩ : b2 = b1 ∧ o2 = o1 := by
              injection e2 with e2
              injection e2 with e3 e4
              exact ⟨e3.symm, e4.symm⟩
            obtain ⟨b3, o3, rfl, hb3, p1⟩ := hq j (by rw [HM.out]; exact hlt2)
            rw [HM.out] at p0
            have hji : (j : Int) < 25 := by omega
            by_cases hok : InW (wf k j)
            · have HI := Lib.hid (fun W => in_t (wf k j) (-1000000) 1000000 hok W)
              have HX2 := Lib.hid (all_next HX.out hok)
              obtain ⟨x, hx⟩ : ∃ x, wf k j = x := ⟨_, rfl⟩
              rw [hx] at HI p1
              clear hx hok hq
              go_wp2_with fail
              with_reducible refine (HI.out _).mono ?_
              rintro e _ ⟨rfl, rfl⟩
              go_wp2
              go_roundw
              case rel => exact ⟨j + 1, by omega, by go_num, HX2, HB2, HB3⟩
              case measure => simp [intOf]; omega
            · have HI := Lib.hid (fun W => in_f (wf k j) (-1000000) 1000000 hok W)
              have HF := Lib.hid (pe_no (fun h : PeOk m m s wn wf => hok ((h.2.2 k hlt).2 j hlt2)))
              obtain ⟨x, hx⟩ : ∃ x, wf k j = x := ⟨_, rfl⟩
              rw [hx] at HI p1
              clear hx hok hq
              go_wp2_with fail
              with_reducible refine (HI.out _).mono ?_
              rintro e _ ⟨rfl, rfl⟩
              go_wp2
              go_ret
              exact ⟨by rw [HF.out]; rfl, HB2.out⟩
          · obtain rfl : j = 25 := by omega
            have HE2 := Lib.hid (show ∀ j, j < k + 1 → RowOk (wn j) (wf j) from all_next HE.out ⟨HM.out, HX.out⟩)
            go_wp2
            go_roundw
            case rel => exact ⟨k + 1, by omega, by go_num, HE2, HB2⟩
            case measure => simp [intOf]; omega
      · obtain rfl : k = m := by omega
        have HF := Lib.hid (pe_iff.2 (show PeOk k k s wn wf from ⟨HV.out, rfl, HE.out⟩))
        go_wp2
        go_ret
        exact ⟨by rw [HF.out]; rfl, HB.out⟩
set_option maxRecDepth 100000 in
set_option maxHeartbeats 2000000 in
theorem validPS {c d : Nat} (A B : Option Addr) (n m : Nat) (s : Nat → ByteArray) (wn : Nat → Nat) (wf : Nat → Nat → Int) (w : World) (hl : PeL n m s wn) (hp : SsAt w A n s) (hq : WsAt w B m wn wf) :
    Calls Try.prog 32 #[.agg #[.slice A n c, .slice B m d]] w fun e w' => e = .returned (.bool (peB n m s wn wf)) ∧ Below w.heap.size w w' := by
  have BL := below_alloc1 w (.cells #[.slice A n c, .slice B m d] 38)
  have HC := Lib.hid (okPS (c := c) (d := d) w.heap.size 0 A B n m s wn wf (w.alloc (.cells #[.slice A n c, .slice B m d] 38)) (by simp) (by simp) (by simp) hl (hp.kept BL) (hq.kept BL))
  have HBL := Lib.hid BL
  clear hp hq hl BL
  go_enter Try.func32, Try.ntmps32
  go_wp2_with fail
  refine HC.out.mono ?_
  rintro e w1 ⟨rfl, hb⟩
  have HB := Lib.hid (HBL.out.trans (hb.mono HBL.out.size))
  clear hb
  go_wp2
  go_ret
  exact ⟨rfl, HB.out⟩
end Go.Proofs.Ytimkochgnjggdaa.per
