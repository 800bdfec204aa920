/-
  Proved: a list of features that is read out of memory, and what the functions that tell whether features are valid return.
  Conditions: none.
-/
import Derived.Test.YtimkochgnjggdaaView
import Derived.Test.YtimkochgnjggdaaBoxed
import Derived.Test.YtimkochgnjggdaaWid
import Derived.BigQuiet
import Derived.BigRegion
namespace Go.Proofs.Ytimkochgnjggdaa.ft
open Go.ChangeShapes Go.WideShapes Go.ChangeAt Go.RowKit Go.Joins
open Go.Proofs.Ytimkochgnjggdaa.core Go.Proofs.Ytimkochgnjggdaa.rown Go.Proofs.Ytimkochgnjggdaa.stk Go.Proofs.Ytimkochgnjggdaa.boxed
set_option linter.unusedVariables false
set_option linter.unusedSimpArgs false
abbrev pv (p : P3) : Value := pt p.1 p.2.1 p.2.2
def inF (p : P3) : Bool := decide ((0 ≤ p.1 ∧ p.1 ≤ 255) ∧ (0 ≤ p.2.1 ∧ p.2.1 ≤ 255) ∧ 0 ≤ p.2.2 ∧ p.2.2 ≤ 7)
theorem inF_of {p : P3} (h : inF p = true) : (0 ≤ p.1 ∧ p.1 ≤ 255) ∧ (0 ≤ p.2.1 ∧ p.2.1 ≤ 255) ∧ 0 ≤ p.2.2 ∧ p.2.2 ≤ 7 := of_decide_eq_true h
/-- The list is one of 1 to 384 valid features. -/
noncomputable def okF (n : Nat) (f : Nat → P3) : Bool := @decide (1 ≤ n ∧ n ≤ 384 ∧ ∀ i, i < n → inF (f i) = true) (Classical.propDecidable _)
theorem okF_true {n : Nat} {f : Nat → P3} (h1 : 1 ≤ n) (h2 : n ≤ 384) (h : ∀ i, i < n → inF (f i) = true) : okF n f = true := by
  unfold okF; exact @decide_eq_true _ (Classical.propDecidable _) ⟨h1, h2, h⟩
theorem okF_of {n : Nat} {f : Nat → P3} (h : okF n f = true) : 1 ≤ n ∧ n ≤ 384 ∧ ∀ i, i < n → inF (f i) = true := by
  unfold okF at h; exact @of_decide_eq_true _ (Classical.propDecidable _) h
theorem okF_size {n : Nat} {f : Nat → P3} (h : ¬ (1 ≤ n ∧ n ≤ 384)) : okF n f = false := by
  unfold okF; exact @decide_eq_false _ (Classical.propDecidable _) fun ⟨a, b, _⟩ => h ⟨a, b⟩
theorem okF_at {n : Nat} {f : Nat → P3} (i : Nat) (hi : i < n) (h : inF (f i) = false) : okF n f = false := by
  unfold okF; exact @decide_eq_false _ (Classical.propDecidable _) fun ⟨_, _, c⟩ => by have := c i hi; rw [h] at this; cases this
theorem more {f : Nat → P3} {k : Nat} (hall : ∀ j, j < k → inF (f j) = true) (h : inF (f k) = true) : ∀ j, j < k + 1 → inF (f j) = true := by
  intro j hj
  rcases Nat.lt_or_ge j k with h' | h'
  · exact hall j h'
  · obtain rfl : j = k := by omega
    exact h
theorem le_cost (n k : Nat) (f : Nat → Nat → Dat) : n ≤ cost (.sl n k f) := by
  simp only [cost]
  omega
abbrev P2 := Int × Int
/-- A list of places. -/
def SpAt (w : World) (A : Option Addr) (n : Nat) (f : Nat → P2) : Prop :=
  ∀ i, i < n → ∃ b o : Nat, A = some ⟨b, o, none⟩ ∧ b < w.heap.size ∧ w.cell? ⟨b, o + i * 2, none⟩ = some (.int .i64 (f i).1) ∧ w.cell? ⟨b, o + i * 2 + 1, none⟩ = some (.int .i64 (f i).2)
theorem SpAt.kept {w w' : World} {A : Option Addr} {n : Nat} {f : Nat → P2} (h : SpAt w A n f) (hb : Below w.heap.size w w') : SpAt w' A n f := fun i hi => by
  obtain ⟨b, o, e, h1, h2, h3⟩ := h i hi
  exact ⟨b, o, e, Nat.lt_of_lt_of_le h1 hb.size, (hb.cell (p := ⟨b, o + i * 2, none⟩) h1).trans h2, (hb.cell (p := ⟨b, o + i * 2 + 1, none⟩) h1).trans h3⟩
/-- Rows of two numbers. -/
def sp2 (f : Nat → P2) (i : Nat) : List Value := [.int .i64 (f i).1, .int .i64 (f i).2]
theorem sp2_len (f : Nat → P2) : ∀ i, (sp2 f i).length = 2 := fun i => rfl
theorem sp_row {w : World} {base n d E : Nat} {B : Option Addr} {f : Nat → P2} (h : w.ownsRow base E 2 (.slice B n d) n (rws (sp2 f) n)) : SpAt w B n f := fun i hi => by
  have h' := h
  rcases h with ⟨-, ⟨-, h0⟩ | ⟨g, c, cur, e, -, -⟩⟩
  · omega
  · injection e with e1 e2 e3
    subst e1 e3
    have hg := row_lt h'
    refine ⟨g, 0, rfl, hg, ?_, ?_⟩
    · have := row_cell h' (sp2_len f) hi (show 0 < 2 by omega) rfl; simpa using this
    · have := row_cell h' (sp2_len f) hi (show 1 < 2 by omega) rfl; simpa using this
theorem two_new {w : World} {a b : Value} {E H : Nat} (h : w.heap.size = H) : ∀ j u, [a, b][j]? = some u → (w.alloc (.cells #[a, b] E)).cell? ((⟨H, 0, none⟩ : Addr).add j) = some u := by
  subst h
  exact new_cells (l := [a, b])
def ftN (g : Nat → Dat) : Nat := dLen (g 0)
def ftF (g : Nat → Dat) : Nat → P3 := fun i => (dInt (dFun (g 0) i 0), dInt (dFun (g 0) i 1), dInt (dFun (g 0) i 2))
theorem reads_fts {W : World} {us : Nat → Value} {g : Nat → Dat} (h : ReadsRec W 1 us g) (ht : tyrFeatS g) (hq : costRec 1 g ≤ 1048576) :
    ∃ A c, us 0 = .slice A (ftN g) c ∧ ftN g ≤ 1048576 ∧ PtsAt W A (ftN g) (ftF g) := by
  have ht' := ht
  obtain ⟨n, f, hg, hf⟩ := ht
  have h0 := h 0 (by omega)
  rw [hg] at h0
  obtain ⟨A, c, hv, hn, hR⟩ := h0.sl_inv
  have hT : tyFeatS (.sl n 3 f) := ⟨n, f, rfl, hf⟩
  have e1 : ftN g = n := by simp [ftN, hg, dLen]
  have hc := le_cost n 3 f
  have hq' : cost (.sl n 3 f) ≤ 1048576 := by
    have e : costRec 1 g = cost (.sl n 3 f) := by simp [costRec, sumTo, hg]
    rw [← e]; exact hq
  refine ⟨A, c, by rw [hv, e1], by omega, fun i hi => ?_⟩
  rw [e1] at hi
  obtain ⟨b, o, e, hb, ⟨c0, -⟩, ⟨c1, -⟩, ⟨c2, -⟩⟩ := viewFeatS hR hT i hi
  refine ⟨b, o, e, hb, ?_, ?_, ?_⟩
  · rw [c0]; simp [ftF, hg, dFun]
  · rw [c1]; simp [ftF, hg, dFun]
  · rw [c2]; simp [ftF, hg, dFun]
theorem in_calls (x lo hi : Int) (w : World) : Calls Try.prog 89 #[.int .i64 x, .int .i64 lo, .int .i64 hi] w fun e w' => e = .returned (.bool (decide (lo ≤ x ∧ x ≤ hi))) ∧ w = w' := by
  go_enter Try.func89, Try.ntmps89
  go_wp2
  all_goals go_ret
  all_goals exact ⟨ret_bool (by first | rfl | (rw [Bool.eq_iff_iff]; simp; try omega)), rfl⟩
theorem in_t (x lo hi : Int) (h : lo ≤ x ∧ x ≤ hi) (w : World) : Calls Try.prog 89 #[.int .i64 x, .int .i64 lo, .int .i64 hi] w fun e w' => e = .returned (.bool true) ∧ w = w' :=
  (in_calls x lo hi w).mono fun _ _ ⟨he, hw⟩ => ⟨by rw [he, decide_eq_true h], hw⟩
theorem in_f (x lo hi : Int) (h : ¬ (lo ≤ x ∧ x ≤ hi)) (w : World) : Calls Try.prog 89 #[.int .i64 x, .int .i64 lo, .int .i64 hi] w fun e w' => e = .returned (.bool false) ∧ w = w' :=
  (in_calls x lo hi w).mono fun _ _ ⟨he, hw⟩ => ⟨by rw [he, decide_eq_false h], hw⟩
set_option maxHeartbeats 1000000 in
theorem featS (p : P3) (r : Bool) (hr : inF p = r) (w : World) : Calls Try.prog 97 #[pv p] w fun e w' => e = .returned (.bool r) ∧ Below w.heap.size w w' := by
  subst hr
  obtain ⟨x, y, d⟩ := p
  go_enter Try.func97, Try.ntmps97
  by_cases hx : 0 ≤ x ∧ x ≤ 255
  · go_wp2_with fail
    refine (in_t _ _ _ hx _).mono ?_
    rintro e w2 ⟨rfl, rfl⟩
    by_cases hy : 0 ≤ y ∧ y ≤ 255
    · go_wp2_with fail
      refine (in_t _ _ _ hy _).mono ?_
      rintro e w2 ⟨rfl, rfl⟩
      by_cases hd : 0 ≤ d ∧ d ≤ 7
      · go_wp2_with fail
        refine (in_t _ _ _ hd _).mono ?_
        rintro e w2 ⟨rfl, rfl⟩
        go_wp2
        go_ret
        exact ⟨by rw [show inF (x, y, d) = true from decide_eq_true ⟨hx, hy, hd⟩]; rfl, below_alloc1 _ _⟩
      · go_wp2_with fail
        refine (in_f _ _ _ hd _).mono ?_
        rintro e w2 ⟨rfl, rfl⟩
        go_wp2
        go_ret
        exact ⟨by rw [show inF (x, y, d) = false from decide_eq_false (fun h => hd h.2.2)]; rfl, below_alloc1 _ _⟩
    · go_wp2_with fail
      refine (in_f _ _ _ hy _).mono ?_
      rintro e w2 ⟨rfl, rfl⟩
      go_wp2
      go_ret
      exact ⟨by rw [show inF (x, y, d) = false from decide_eq_false (fun h => hy h.2.1)]; rfl, below_alloc1 _ _⟩
  · go_wp2_with fail
    refine (in_f _ _ _ hx _).mono ?_
    rintro e w2 ⟨rfl, rfl⟩
    go_wp2
    go_ret
    exact ⟨by rw [show inF (x, y, d) = false from decide_eq_false (fun h => hx h.1)]; rfl, below_alloc1 _ _⟩
set_option maxHeartbeats 1000000 in
theorem featI (p : P3) (r : Bool) (hr : inF p = r) (w : World) : Calls Try.prog 99 #[pv p] w fun e w' => e = .returned (.bool r) ∧ Below w.heap.size w w' := by
  subst hr
  obtain ⟨x, y, d⟩ := p
  go_enter Try.func99, Try.ntmps99
  go_wp2
  all_goals go_ret
  all_goals refine ⟨ret_bool ?_, below_alloc1 _ _⟩
  all_goals
    unfold inF
    rw [Bool.eq_iff_iff]
    simp
    try omega
set_option maxRecDepth 100000 in
set_option maxHeartbeats 2000000 in
theorem okS {c : Nat} (A : Option Addr) (n : Nat) (f : Nat → P3) (w : World) (hn : n ≤ 1048576) (hp : PtsAt w A n f) :
    Calls Try.prog 57 #[.slice A n c] w fun e w' => e = .returned (.bool (okF n f)) ∧ Below w.heap.size w w' := by
  have HP := Lib.hid hp
  clear hp
  go_enter Try.func57, Try.ntmps57
  go_wp2
  go_loopw [3] (fun i w' => ∃ k : Nat, k ≤ n ∧ i = .int .i64 (k : Int) ∧ Hid (∀ j, j < k → inF (f j) = true) ∧ Hid (Below w.heap.size w w')) (fun i _ => n - (intOf i).toNat)
  case atStart => exact ⟨0, Nat.zero_le _, rfl, Lib.hid (fun j hj => absurd hj (by omega)), Lib.hid (Below.refl _ _)⟩
  case round =>
    obtain ⟨k, hk, rfl, HE, HB⟩ := hrel
    by_cases hlt : k < n
    · obtain ⟨b, o, rfl, hb, p0, p1, p2⟩ := (HP.out.kept HB.out) k hlt
      have hli : (k : Int) < (n : Int) := by omega
      cases hi : inF (f k) with
      | true =>
        have HE2 := Lib.hid (more HE.out hi)
        have HI := Lib.hid (fun W => featS (f k) true hi W)
        obtain ⟨p, hpk⟩ : ∃ p, f k = p := ⟨_, rfl⟩
        rw [hpk] at p0 p1 p2 HI
        clear hi hpk HE
        go_wp2_with fail
        with_reducible refine (HI.out _).mono ?_
        rintro e w2 ⟨rfl, hb2⟩
        have HB2 := Lib.hid (HB.out.trans (hb2.mono HB.out.size))
        clear hb2 p0 p1 p2
        go_wp2
        go_roundw
        case rel => exact ⟨k + 1, by omega, by go_num, HE2, HB2⟩
        case measure => simp [intOf]; omega
      | false =>
        have HF := Lib.hid (okF_at (f := f) k hlt hi)
        have HI := Lib.hid (fun W => featS (f k) false hi W)
        obtain ⟨p, hpk⟩ : ∃ p, f k = p := ⟨_, rfl⟩
        rw [hpk] at p0 p1 p2 HI
        clear hi hpk HE
        go_wp2_with fail
        with_reducible refine (HI.out _).mono ?_
        rintro e w2 ⟨rfl, hb2⟩
        have HB2 := Lib.hid (HB.out.trans (hb2.mono HB.out.size))
        clear hb2 p0 p1 p2
        go_wp2
        go_ret
        exact ⟨by rw [HF.out]; rfl, HB2.out⟩
    · obtain rfl : k = n := by omega
      by_cases hs : 1 ≤ k ∧ k ≤ 384
      · have HI := Lib.hid (fun W => in_t (k : Int) 1 384 (by omega) W)
        have HF := Lib.hid (okF_true hs.1 hs.2 HE.out)
        clear hs
        go_wp2_with fail
        with_reducible refine (HI.out _).mono ?_
        rintro e w2 ⟨rfl, rfl⟩
        go_wp2
        go_ret
        exact ⟨by rw [HF.out]; rfl, HB.out⟩
      · have HI := Lib.hid (fun W => in_f (k : Int) 1 384 (by omega) W)
        have HF := Lib.hid (okF_size (f := f) hs)
        clear hs
        go_wp2_with fail
        with_reducible refine (HI.out _).mono ?_
        rintro e w2 ⟨rfl, rfl⟩
        go_wp2
        go_ret
        exact ⟨by rw [HF.out]; rfl, HB.out⟩
set_option maxRecDepth 100000 in
set_option maxHeartbeats 2000000 in
theorem okI {c : Nat} (A : Option Addr) (n : Nat) (f : Nat → P3) (w : World) (hn : n ≤ 1048576) (hp : PtsAt w A n f) :
    Calls Try.prog 60 #[.slice A n c] w fun e w' => e = .returned (.bool (okF n f)) ∧ Below w.heap.size w w' := by
  have HP := Lib.hid hp
  clear hp
  by_cases hs : 1 ≤ n ∧ n ≤ 384
  · obtain ⟨h1, h2⟩ := hs
    have h1i : ¬ (n : Int) < 1 := by omega
    have h2i : ¬ (384 : Int) < (n : Int) := by omega
    go_enter Try.func60, Try.ntmps60
    go_wp2
    go_loopw [15] (fun i w' => ∃ k : Nat, k ≤ n ∧ i = .int .i64 (k : Int) ∧ Hid (∀ j, j < k → inF (f j) = true) ∧ Hid (Below w.heap.size w w')) (fun i _ => n - (intOf i).toNat)
    case atStart => exact ⟨0, Nat.zero_le _, rfl, Lib.hid (fun j hj => absurd hj (by omega)), Lib.hid (Below.refl _ _)⟩
    case round =>
      obtain ⟨k, hk, rfl, HE, HB⟩ := hrel
      by_cases hlt : k < n
      · obtain ⟨b, o, rfl, hb, p0, p1, p2⟩ := (HP.out.kept HB.out) k hlt
        have hli : (k : Int) < (n : Int) := by omega
        cases hi : inF (f k) with
        | true =>
          have HE2 := Lib.hid (more HE.out hi)
          have HI := Lib.hid (fun W => featI (f k) true hi W)
          obtain ⟨p, hpk⟩ : ∃ p, f k = p := ⟨_, rfl⟩
          rw [hpk] at p0 p1 p2 HI
          clear hi hpk HE
          go_wp2_with fail
          with_reducible refine (HI.out _).mono ?_
          rintro e w2 ⟨rfl, hb2⟩
          have HB2 := Lib.hid (HB.out.trans (((below_alloc1 wr _).trans (hb2.mono (below_alloc1 wr _).size)).mono HB.out.size))
          clear hb2 p0 p1 p2
          go_wp2
          go_roundw
          case rel => exact ⟨k + 1, by omega, by go_num, HE2, HB2⟩
          case measure => simp [intOf]; omega
        | false =>
          have HF := Lib.hid (okF_at (f := f) k hlt hi)
          have HI := Lib.hid (fun W => featI (f k) false hi W)
          obtain ⟨p, hpk⟩ : ∃ p, f k = p := ⟨_, rfl⟩
          rw [hpk] at p0 p1 p2 HI
          clear hi hpk HE
          go_wp2_with fail
          with_reducible refine (HI.out _).mono ?_
          rintro e w2 ⟨rfl, hb2⟩
          have HB2 := Lib.hid (HB.out.trans (((below_alloc1 wr _).trans (hb2.mono (below_alloc1 wr _).size)).mono HB.out.size))
          clear hb2 p0 p1 p2
          go_wp2
          go_ret
          exact ⟨by rw [HF.out]; rfl, HB2.out⟩
      · obtain rfl : k = n := by omega
        have HF := Lib.hid (okF_true h1 h2 HE.out)
        go_wp2
        go_ret
        exact ⟨by rw [HF.out]; rfl, HB.out⟩
  · have HF := Lib.hid (okF_size (f := f) hs)
    by_cases h1 : n < 1
    · have h1i : (n : Int) < 1 := by omega
      obtain rfl : n = 0 := by omega
      clear h1 hs
      go_enter Try.func60, Try.ntmps60
      go_wp2
      go_ret
      exact ⟨by rw [HF.out]; rfl, Below.refl _ _⟩
    · have h1i : ¬ (n : Int) < 1 := by omega
      have h2i : (384 : Int) < (n : Int) := by omega
      clear h1 hs
      go_enter Try.func60, Try.ntmps60
      go_wp2
      go_ret
      exact ⟨by rw [HF.out]; rfl, Below.refl _ _⟩
/-- A list of features of one's own reads as such. -/
theorem pts_row {w : World} {base n d E : Nat} {B : Option Addr} {f : Nat → P3} (h : w.ownsRow base E 3 (.slice B n d) n (rws (row3 f) n)) : PtsAt w B n f := fun i hi => by
  have h' := h
  rcases h with ⟨-, ⟨-, h0⟩ | ⟨g, c, cur, e, -, -⟩⟩
  · omega
  · injection e with e1 e2 e3
    subst e1 e3
    have hg := row_lt h'
    refine ⟨g, 0, rfl, hg, ?_, ?_, ?_⟩
    · have := row_cell h' (row3_len f) hi (show 0 < 3 by omega) rfl; simpa using this
    · have := row_cell h' (row3_len f) hi (show 1 < 3 by omega) rfl; simpa using this
    · have := row_cell h' (row3_len f) hi (show 2 < 3 by omega) rfl; simpa using this
theorem make_row (w : World) (E n : Nat) (cur : Array Value) (hc : cur.size = n * 3) (hn : n ≤ maxLen) : (w.alloc (.cells cur E)).ownsRow w.heap.size E 3 (.slice (some ⟨w.heap.size, 0, none⟩) 0 n) 0 [] :=
  ⟨by simp, .inr ⟨w.heap.size, n, _, rfl, Nat.le_refl _, heap_alloc_new _ _, Nat.zero_le _, hn, hc, by simp⟩⟩
theorem infoFeat : (Try.prog.info? 83).map (fun i => (i.zero, i.size, i.bytes)) = some (some (.agg #[.int .i64 0, .int .i64 0, .int .i64 0]), 3, 24) := by kernel_rfl
theorem makeF (n : Nat) (hn : n ≤ 1048576) (w : World) : ∃ cur : Array Value, cur.size = n * 3 ∧
    (Instr.makeSlice 27 (.int .i64 0) (.int .i64 (n : Int))).run Try.prog w = .ok (.slice (some ⟨w.heap.size, 0, none⟩) 0 n) (w.alloc (.cells cur 83)) := by
  obtain ⟨i0, hi, hz0, hz1, hz2⟩ := rown.info_get infoFeat
  have hr := run_make (P := Try.prog) w 27 83 i0 _ Try.underlying27 hi hz0 .i64 .i64 0 n (by omega) (by omega) (by rw [hz2]; omega) (by omega)
  simp only [Int.toNat_natCast] at hr
  refine ⟨_, ?_, hr⟩
  rw [hz1]
  simp [madeCells]
end Go.Proofs.Ytimkochgnjggdaa.ft
