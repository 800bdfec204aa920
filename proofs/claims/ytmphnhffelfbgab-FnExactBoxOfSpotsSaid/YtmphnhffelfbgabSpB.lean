/-
  Proved: both functions that tell the box of places return the same box.
  Conditions: none.
-/
import Derived.Test.YtmphnhffelfbgabSps
import Derived.Test.YtmphnhffelfbgabBox
import Derived.Test.YtmphnhffelfbgabAll
import Derived.Test.YtmphnhffelfbgabBoxed
import Derived.Test.YtmphnhffelfbgabRowN
import Derived.Test.YtmphnhffelfbgabSeg
import Derived.Test.YtmphnhffelfbgabWid
import Derived.StillTailTactics
namespace Go.Proofs.Ytmphnhffelfbgab.spB
open Go.ChangeShapes Go.WideShapes Go.ChangeAt Go.RowKit Go.Joins
open Go.Proofs.Ytmphnhffelfbgab.core Go.Proofs.Ytmphnhffelfbgab.stk Go.Proofs.Ytmphnhffelfbgab.seg Go.Proofs.Ytmphnhffelfbgab.all Go.Proofs.Ytmphnhffelfbgab.rown Go.Proofs.Ytmphnhffelfbgab.boxed Go.Proofs.Ytmphnhffelfbgab.sps Go.Proofs.Ytmphnhffelfbgab.box
set_option linter.unusedVariables false
set_option linter.unusedSimpArgs false
/-- Places as points. -/
def pf (f : Nat → P2) (i : Nat) : P3 := ((f i).1, (f i).2, 0)
def inS (p : P2) : Bool := decide ((0 ≤ p.1 ∧ p.1 ≤ 4095) ∧ 0 ≤ p.2 ∧ p.2 ≤ 4095)
theorem inS_of {p : P2} (h : inS p = true) : (0 ≤ p.1 ∧ p.1 ≤ 4095) ∧ 0 ≤ p.2 ∧ p.2 ≤ 4095 := of_decide_eq_true h
theorem inP_pf (f : Nat → P2) (i : Nat) : inP (pf f i) = inS (f i) := by
  unfold inP inR inS pf
  exact decide_eq_decide.2 (by constructor <;> intro h <;> simp at h ⊢ <;> omega)
theorem pts_of_row {w : World} {base n d E : Nat} {B : Option Addr} {f : Nat → P3} (h : w.ownsRow base E 3 (.slice B n d) n (rws (row3 f) n)) : PtsAt w B n f := fun i hi => by
  have h' := h
  rcases h with ⟨-, ⟨-, h0⟩ | ⟨g, c, cur, e, -, -⟩⟩
  · omega
  · injection e with e1 e2 e3
    subst e1 e3
    have hg := row_lt h'
    refine ⟨g, 0, rfl, hg, ?_, ?_, ?_⟩
    · have := row_cell h' (row3_len f) hi (show 0 < 3 by omega) rfl; simpa using this
    · have := row_cell h' (row3_len f) hi (show 1 < 3 by omega) rfl; simpa using this
    · have := row_cell h' (row3_len f) hi (show 2 < 3 by omega) rfl; simpa using this
theorem make_row3 (w : World) (E n : Nat) (cur : Array Value) (hc : cur.size = n * 3) (hn : n ≤ maxLen) : (w.alloc (.cells cur E)).ownsRow w.heap.size E 3 (.slice (some ⟨w.heap.size, 0, none⟩) 0 n) 0 [] :=
  ⟨by simp, .inr ⟨w.heap.size, n, _, rfl, Nat.le_refl _, heap_alloc_new _ _, Nat.zero_le _, hn, hc, by simp⟩⟩
theorem make3 (n : Nat) (hn : n ≤ 1048576) (w : World) : ∃ cur : Array Value, cur.size = n * 3 ∧
    (Instr.makeSlice 66 (.int .i64 0) (.int .i64 (n : Int))).run Try.prog w = .ok (.slice (some ⟨w.heap.size, 0, none⟩) 0 n) (w.alloc (.cells cur 68)) := by
  obtain ⟨i0, hi, hz0, hz1, hz2⟩ := rown.info_get infoPoint
  have hr := run_make (P := Try.prog) w 66 68 i0 _ Try.underlying66 hi hz0 .i64 .i64 0 n (by omega) (by omega) (by rw [hz2]; omega) (by omega)
  simp only [Int.toNat_natCast] at hr
  refine ⟨_, ?_, hr⟩
  rw [hz1]
  simp [madeCells]
theorem point_calls (x y : Int) (w : World) : Calls Try.prog 43 #[.agg #[.int .i64 x, .int .i64 y]] w fun e w' => e = .returned (.agg #[.int .i64 x, .int .i64 y, .int .i64 0]) ∧ Below w.heap.size w w' := by
  go_enter Try.func43, Try.ntmps43
  go_wp2
  exact bodyPost_ret (v := .agg #[.int .i64 x, .int .i64 y, .int .i64 0]) (by simp [results, Try.results43, go_sem]) rfl ⟨rfl, below_alloc2 _ _ _⟩
theorem spot_calls (p : P2) (r : Bool) (hr : inS p = r) (w : World) : Calls Try.prog 40 #[.agg #[.int .i64 p.1, .int .i64 p.2]] w fun e w' => e = .returned (.bool r) ∧ Below w.heap.size w w' := by
  subst hr
  obtain ⟨x, y⟩ := p
  go_enter Try.func40, Try.ntmps40
  by_cases hx : 0 ≤ x ∧ x ≤ 4095
  · go_wp2_with fail
    refine (in_t _ _ _ hx _).mono ?_
    rintro e w2 ⟨rfl, rfl⟩
    by_cases hy : 0 ≤ y ∧ y ≤ 4095
    · go_wp2_with fail
      refine (in_t _ _ _ hy _).mono ?_
      rintro e w2 ⟨rfl, rfl⟩
      go_wp2
      go_ret
      exact ⟨by rw [show inS (x, y) = true from decide_eq_true ⟨hx, hy⟩]; rfl, below_alloc1 _ _⟩
    · go_wp2_with fail
      refine (in_f _ _ _ hy _).mono ?_
      rintro e w2 ⟨rfl, rfl⟩
      go_wp2
      go_ret
      exact ⟨by rw [show inS (x, y) = false from decide_eq_false (fun h => hy h.2)]; rfl, below_alloc1 _ _⟩
  · go_wp2_with fail
    refine (in_f _ _ _ hx _).mono ?_
    rintro e w2 ⟨rfl, rfl⟩
    go_wp2
    go_ret
    exact ⟨by rw [show inS (x, y) = false from decide_eq_false (fun h => hx h.1)]; rfl, below_alloc1 _ _⟩
theorem min_calls (a b : Int) (w : World) : Calls Try.prog 82 #[.int .i64 a, .int .i64 b] w fun e w' => e = .returned (.int .i64 (min a b)) ∧ w = w' := by
  go_enter Try.func82, Try.ntmps82
  by_cases h : a < b
  · go_wp2
    go_ret
    exact ⟨by rw [show min a b = a by omega]; rfl, rfl⟩
  · go_wp2
    go_ret
    exact ⟨by rw [show min a b = b by omega]; rfl, rfl⟩
theorem max_calls (a b : Int) (w : World) : Calls Try.prog 83 #[.int .i64 a, .int .i64 b] w fun e w' => e = .returned (.int .i64 (max a b)) ∧ w = w' := by
  go_enter Try.func83, Try.ntmps83
  by_cases h : b < a
  · go_wp2
    go_ret
    exact ⟨by rw [show max a b = a by omega]; rfl, rfl⟩
  · go_wp2
    go_ret
    exact ⟨by rw [show max a b = b by omega]; rfl, rfl⟩
set_option maxRecDepth 100000 in
set_option maxHeartbeats 2000000 in
theorem join_calls (a b c d a' b' c' d' : Int) (w : World) :
    Calls Try.prog 41 #[box a b c d, box a' b' c' d'] w fun e w' => e = .returned (box (min a a') (min b b') (max c c') (max d d')) ∧ Below w.heap.size w w' := by
  go_enter Try.func41, Try.ntmps41
  go_wp2
  go_region_held3 (fun w' => w'.cell? ⟨w.heap.size, 0, none⟩ = some (.int .i64 a) ∧ w'.cell? ⟨w.heap.size, 1, none⟩ = some (.int .i64 b) ∧ w'.cell? ⟨w.heap.size, 2, none⟩ = some (.int .i64 c) ∧ w'.cell? ⟨w.heap.size, 3, none⟩ = some (.int .i64 d) ∧ w'.cell? ⟨w.heap.size + 1, 0, none⟩ = some (.int .i64 a') ∧ w'.cell? ⟨w.heap.size + 1, 1, none⟩ = some (.int .i64 b') ∧ w'.cell? ⟨w.heap.size + 1, 2, none⟩ = some (.int .i64 c') ∧ w'.cell? ⟨w.heap.size + 1, 3, none⟩ = some (.int .i64 d')) (go_keep)
    (first | (go_at_call 82; refine (min_calls _ _ _).mono ?_; rintro e w' ⟨rfl, rfl⟩) | (go_at_call 83; refine (max_calls _ _ _).mono ?_; rintro e w' ⟨rfl, rfl⟩))
  rename_i hh
  clear hh
  go_wp2
  exact bodyPost_ret (v := box (min a a') (min b b') (max c c') (max d d')) (by simp [results, Try.results41, go_sem]) rfl ⟨rfl, (below_alloc3 _ _ _ _).drew⟩
set_option maxRecDepth 100000 in
set_option maxHeartbeats 2000000 in
theorem allIn2_calls (A : Option Addr) (n c : Nat) (pts : Nat → P3) (r : Bool) (w : World) (hn : n ≤ 1048576) (hp : PtsAt w A n pts) (hr : r = true ↔ ∀ i, i < n → inP (pts i) = true) :
    Calls Try.prog 44 #[.slice A n c] w fun e w' => e = .returned (.bool r) ∧ Below w.heap.size w w' := by
  have HP := Lib.hid hp
  have HR := Lib.hid hr
  clear hp hr
  go_enter Try.func44, Try.ntmps44
  go_wp2
  go_loopw [7] (fun i w' => ∃ k : Nat, k ≤ n ∧ i = .int .i64 k ∧ Hid (Below w.heap.size w w') ∧ Hid (∀ j, j < k → inP (pts j) = true)) (fun i _ => n - (intOf i).toNat)
  case atStart => exact ⟨0, Nat.zero_le _, rfl, Lib.hid (Below.refl _ _), Lib.hid fun j hj => absurd hj (by omega)⟩
  case round =>
    obtain ⟨k, hk, rfl, HB, HA⟩ := hrel
    by_cases hlt : k < n
    · obtain ⟨g, o', rfl, hg, p0, p1, p2⟩ := HP.out k hlt
      obtain ⟨p, hpk⟩ : ∃ p, pts k = p := ⟨_, rfl⟩
      rw [hpk] at p0 p1 p2
      have q0 := (HB.out.cell hg).trans p0
      have q1 := (HB.out.cell hg).trans p1
      have q2 := (HB.out.cell hg).trans p2
      have HK := Lib.hid hpk
      clear p0 p1 p2 hpk
      cases hi : inP p with
      | true =>
        have HI := Lib.hid (fun W => implPoint p true hi W)
        have HA2 := Lib.hid (show ∀ j, j < k + 1 → inP (pts j) = true from fun j hj => by
          rcases Nat.lt_or_ge j k with h' | h'
          · exact HA.out j h'
          · obtain rfl : j = k := by omega
            rw [HK.out]; exact hi)
        clear hi HA
        go_wp2_with fail
        with_reducible refine (HI.out _).mono ?_
        rintro e w2 ⟨rfl, hb2⟩
        have HB2 := Lib.hid (HB.out.trans (((below_alloc1 wr _).trans (hb2.mono (below_alloc1 wr _).size)).mono HB.out.size))
        clear hb2 q0 q1 q2
        go_wp2
        go_roundw
        case rel => exact ⟨k + 1, by omega, by go_num, HB2, HA2⟩
        case measure => simp [intOf]; omega
      | false =>
        have HI := Lib.hid (fun W => implPoint p false hi W)
        have HF := Lib.hid (show false = r by
          cases hh : r
          · rfl
          · have := HR.out.1 hh k hlt
            rw [HK.out, hi] at this
            cases this)
        clear hi HA
        go_wp2_with fail
        with_reducible refine (HI.out _).mono ?_
        rintro e w2 ⟨rfl, hb2⟩
        have HB2 := Lib.hid (HB.out.trans (((below_alloc1 wr _).trans (hb2.mono (below_alloc1 wr _).size)).mono HB.out.size))
        clear hb2 q0 q1 q2
        go_wp2
        go_ret
        exact ⟨ret_bool HF.out, HB2.out⟩
    · have HF := Lib.hid (show true = r from (HR.out.2 fun i hi => HA.out i (by omega)).symm)
      go_wp2
      go_ret
      exact ⟨ret_bool HF.out, HB.out⟩
/-- A point that is read out of memory. -/
def ptOf (g : Nat → Dat) : P3 := (dInt (g 0), dInt (g 1), dInt (g 2))
end Go.Proofs.Ytmphnhffelfbgab.spB
