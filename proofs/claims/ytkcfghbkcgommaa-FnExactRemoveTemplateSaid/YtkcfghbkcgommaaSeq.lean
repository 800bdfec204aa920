/-
  Proved: what the document's functions on sequences of features return, and the cost of matching two features.
  Conditions: none.
-/
import Derived.Test.YtkcfghbkcgommaaFt
namespace Go.Proofs.Ytkcfghbkcgommaa.seq
open Go.ChangeShapes Go.WideShapes Go.ChangeAt Go.RowKit Go.Joins
open Go.Proofs.Ytkcfghbkcgommaa.core Go.Proofs.Ytkcfghbkcgommaa.rown Go.Proofs.Ytkcfghbkcgommaa.stk Go.Proofs.Ytkcfghbkcgommaa.boxed Go.Proofs.Ytkcfghbkcgommaa.ft
set_option linter.unusedVariables false
set_option linter.unusedSimpArgs false
/-- The list is a sequence: 1 to 72 valid features. -/
noncomputable def okQ (n : Nat) (f : Nat → P3) : Bool := @decide (1 ≤ n ∧ n ≤ 72 ∧ ∀ i, i < n → inF (f i) = true) (Classical.propDecidable _)
theorem okQ_true {n : Nat} {f : Nat → P3} (h1 : 1 ≤ n) (h2 : n ≤ 72) (h : ∀ i, i < n → inF (f i) = true) : okQ n f = true := by
  unfold okQ; exact @decide_eq_true _ (Classical.propDecidable _) ⟨h1, h2, h⟩
theorem okQ_of {n : Nat} {f : Nat → P3} (h : okQ n f = true) : 1 ≤ n ∧ n ≤ 72 ∧ ∀ i, i < n → inF (f i) = true := by
  unfold okQ at h; exact @of_decide_eq_true _ (Classical.propDecidable _) h
theorem okQ_size {n : Nat} {f : Nat → P3} (h : ¬ (1 ≤ n ∧ n ≤ 72)) : okQ n f = false := by
  unfold okQ; exact @decide_eq_false _ (Classical.propDecidable _) fun ⟨a, b, _⟩ => h ⟨a, b⟩
theorem okQ_at {n : Nat} {f : Nat → P3} (i : Nat) (hi : i < n) (h : inF (f i) = false) : okQ n f = false := by
  unfold okQ; exact @decide_eq_false _ (Classical.propDecidable _) fun ⟨_, _, c⟩ => by have := c i hi; rw [h] at this; cases this
set_option maxHeartbeats 1000000 in
theorem featQ (p : P3) (r : Bool) (hr : inF p = r) (w : World) : Calls Try.prog 92 #[pv p] w fun e w' => e = .returned (.bool r) ∧ Below w.heap.size w w' := by
  subst hr
  obtain ⟨x, y, d⟩ := p
  go_enter Try.func92, Try.ntmps92
  by_cases hx : 0 ≤ x ∧ x ≤ 255
  · go_wp2_with fail
    refine (in_t _ _ _ hx _).mono ?_
    rintro e w2 ⟨rfl, rfl⟩
    by_cases hy : 0 ≤ y ∧ y ≤ 255
    · go_wp2_with fail
      refine (in_t _ _ _ hy _).mono ?_
      rintro e w2 ⟨rfl, rfl⟩
      by_cases hd : 0 ≤ d ∧ d ≤ 7
      · go_wp2_with fail
        refine (in_t _ _ _ hd _).mono ?_
        rintro e w2 ⟨rfl, rfl⟩
        go_wp2
        go_ret
        exact ⟨by rw [show inF (x, y, d) = true from decide_eq_true ⟨hx, hy, hd⟩]; rfl, below_alloc1 _ _⟩
      · go_wp2_with fail
        refine (in_f _ _ _ hd _).mono ?_
        rintro e w2 ⟨rfl, rfl⟩
        go_wp2
        go_ret
        exact ⟨by rw [show inF (x, y, d) = false from decide_eq_false (fun h => hd h.2.2)]; rfl, below_alloc1 _ _⟩
    · go_wp2_with fail
      refine (in_f _ _ _ hy _).mono ?_
      rintro e w2 ⟨rfl, rfl⟩
      go_wp2
      go_ret
      exact ⟨by rw [show inF (x, y, d) = false from decide_eq_false (fun h => hy h.2.1)]; rfl, below_alloc1 _ _⟩
  · go_wp2_with fail
    refine (in_f _ _ _ hx _).mono ?_
    rintro e w2 ⟨rfl, rfl⟩
    go_wp2
    go_ret
    exact ⟨by rw [show inF (x, y, d) = false from decide_eq_false (fun h => hx h.1)]; rfl, below_alloc1 _ _⟩
set_option maxRecDepth 100000 in
set_option maxHeartbeats 2000000 in
theorem okQS {c : Nat} (A : Option Addr) (n : Nat) (f : Nat → P3) (w : World) (hn : n ≤ 1048576) (hp : PtsAt w A n f) :
    Calls Try.prog 71 #[.slice A n c] w fun e w' => e = .returned (.bool (okQ n f)) ∧ Below w.heap.size w w' := by
  have HP := Lib.hid hp
  clear hp
  go_enter Try.func71, Try.ntmps71
  go_wp2
  go_loopw [3] (fun i w' => ∃ k : Nat, k ≤ n ∧ i = .int .i64 (k : Int) ∧ Hid (∀ j, j < k → inF (f j) = true) ∧ Hid (Below w.heap.size w w')) (fun i _ => n - (intOf i).toNat)
  case atStart => exact ⟨0, Nat.zero_le _, rfl, Lib.hid (fun j hj => absurd hj (by omega)), Lib.hid (Below.refl _ _)⟩
  case round =>
    obtain ⟨k, hk, rfl, HE, HB⟩ := hrel
    by_cases hlt : k < n
    · obtain ⟨b, o, rfl, hb, p0, p1, p2⟩ := (HP.out.kept HB.out) k hlt
      have hli : (k : Int) < (n : Int) := by omega
      cases hi : inF (f k) with
      | true =>
        have HE2 := Lib.hid (ft.more HE.out hi)
        have HI := Lib.hid (fun W => featQ (f k) true hi W)
        obtain ⟨p, hpk⟩ : ∃ p, f k = p := ⟨_, rfl⟩
        rw [hpk] at p0 p1 p2 HI
        clear hi hpk HE
        go_wp2_with fail
        with_reducible refine (HI.out _).mono ?_
        rintro e w2 ⟨rfl, hb2⟩
        have HB2 := Lib.hid (HB.out.trans (hb2.mono HB.out.size))
        clear hb2 p0 p1 p2
        go_wp2
        go_roundw
        case rel => exact ⟨k + 1, by omega, by go_num, HE2, HB2⟩
        case measure => simp [intOf]; omega
      | false =>
        have HF := Lib.hid (okQ_at (f := f) k hlt hi)
        have HI := Lib.hid (fun W => featQ (f k) false hi W)
        obtain ⟨p, hpk⟩ : ∃ p, f k = p := ⟨_, rfl⟩
        rw [hpk] at p0 p1 p2 HI
        clear hi hpk HE
        go_wp2_with fail
        with_reducible refine (HI.out _).mono ?_
        rintro e w2 ⟨rfl, hb2⟩
        have HB2 := Lib.hid (HB.out.trans (hb2.mono HB.out.size))
        clear hb2 p0 p1 p2
        go_wp2
        go_ret
        exact ⟨by rw [HF.out]; rfl, HB2.out⟩
    · obtain rfl : k = n := by omega
      by_cases hs : 1 ≤ k ∧ k ≤ 72
      · have HI := Lib.hid (fun W => in_t (k : Int) 1 72 (by omega) W)
        have HF := Lib.hid (okQ_true hs.1 hs.2 HE.out)
        clear hs
        go_wp2_with fail
        with_reducible refine (HI.out _).mono ?_
        rintro e w2 ⟨rfl, rfl⟩
        go_wp2
        go_ret
        exact ⟨by rw [HF.out]; rfl, HB.out⟩
      · have HI := Lib.hid (fun W => in_f (k : Int) 1 72 (by omega) W)
        have HF := Lib.hid (okQ_size (f := f) hs)
        clear hs
        go_wp2_with fail
        with_reducible refine (HI.out _).mono ?_
        rintro e w2 ⟨rfl, rfl⟩
        go_wp2
        go_ret
        exact ⟨by rw [HF.out]; rfl, HB.out⟩
def absv (n : Int) : Int := if n < 0 then -n else n
theorem absv_in {n B : Int} (h1 : -B ≤ n) (h2 : n ≤ B) : 0 ≤ absv n ∧ absv n ≤ B := by unfold absv; split <;> omega
theorem sizeS (n : Int) (h1 : -9223372036854775807 ≤ n) (h2 : n ≤ 9223372036854775807) (w : World) : Calls Try.prog 133 #[.int .i64 n] w fun e w' => e = .returned (.int .i64 (absv n)) ∧ w = w' := by
  by_cases h : n < 0
  · have hd : decide (n < 0) = true := decide_eq_true h
    have HA := Lib.hid (show -n = absv n by unfold absv; rw [if_pos h])
    go_enter Try.func133, Try.ntmps133
    go_wp2
    go_ret
    exact ⟨by rw [← HA.out]; rfl, rfl⟩
  · have hd : decide (n < 0) = false := decide_eq_false h
    have HA := Lib.hid (show n = absv n by unfold absv; rw [if_neg h])
    go_enter Try.func133, Try.ntmps133
    go_wp2
    go_ret
    exact ⟨by rw [← HA.out]; rfl, rfl⟩
theorem minS (a b : Int) (w : World) : Calls Try.prog 97 #[.int .i64 a, .int .i64 b] w fun e w' => e = .returned (.int .i64 (min a b)) ∧ w = w' := by
  go_enter Try.func97, Try.ntmps97
  by_cases h : a < b
  · go_wp2
    go_ret
    exact ⟨by rw [show min a b = a by omega]; rfl, rfl⟩
  · go_wp2
    go_ret
    exact ⟨by rw [show min a b = b by omega]; rfl, rfl⟩
/-- The cost of matching two features. -/
def cst (p q : P3) : Int := absv (p.1 - q.1) + absv (p.2.1 - q.2.1) + 16 * min (absv (p.2.2 - q.2.2)) (8 - absv (p.2.2 - q.2.2))
theorem cst_in {p q : P3} (hp : inF p = true) (hq : inF q = true) : 0 ≤ cst p q ∧ cst p q ≤ 574 := by
  have h1 := inF_of hp
  have h2 := inF_of hq
  unfold cst absv
  split <;> split <;> split <;> omega
theorem still_b {P : Program} {f : FuncId} {args : Array Value} {w : World} {v : Value} (h : Calls P f args w fun e w' => e = .returned v ∧ w = w') : Calls P f args w fun e w' => e = .returned v ∧ Below w.heap.size w w' :=
  h.mono fun _ _ ⟨he, hw⟩ => ⟨he, by rw [← hw]; exact Below.refl _ _⟩
set_option maxRecDepth 100000 in
set_option maxHeartbeats 2000000 in
theorem costS (p q : P3) (hp : inF p = true) (hq : inF q = true) (w : World) : Calls Try.prog 134 #[pv p, pv q] w fun e w' => e = .returned (.int .i64 (cst p q)) ∧ Below w.heap.size w w' := by
  have h1 := inF_of hp
  have h2 := inF_of hq
  obtain ⟨x, y, d⟩ := p
  obtain ⟨x', y', d'⟩ := q
  simp only at h1 h2
  have HC := Lib.hid (show absv (x - x') + absv (y - y') + 16 * min (absv (d - d')) (8 - absv (d - d')) = cst (x, y, d) (x', y', d') from rfl)
  have H1 := Lib.hid (fun W => sizeS (x - x') (by omega) (by omega) W)
  have H2 := Lib.hid (fun W => sizeS (y - y') (by omega) (by omega) W)
  have H3 := Lib.hid (fun W => sizeS (d - d') (by omega) (by omega) W)
  have b1 := absv_in (n := x - x') (B := 255) (by omega) (by omega)
  have b2 := absv_in (n := y - y') (B := 255) (by omega) (by omega)
  have b3 := absv_in (n := d - d') (B := 7) (by omega) (by omega)
  obtain ⟨u1, hu1⟩ : ∃ u, x - x' = u := ⟨_, rfl⟩
  obtain ⟨u2, hu2⟩ : ∃ u, y - y' = u := ⟨_, rfl⟩
  have E1 : IntKind.i64.wrap (x - x') = u1 := by rw [hu1]; exact IntWalk.i64_in _ (by omega)
  have E2 : IntKind.i64.wrap (y - y') = u2 := by rw [hu2]; exact IntWalk.i64_in _ (by omega)
  have F1 : wrap64 (x - x') = u1 := by rw [← IntWalk.i64_left]; exact E1
  have F2 : wrap64 (y - y') = u2 := by rw [← IntWalk.i64_left]; exact E2
  rw [hu1] at H1 HC b1
  rw [hu2] at H2 HC b2
  obtain ⟨A, hA⟩ : ∃ u, absv u1 = u := ⟨_, rfl⟩
  obtain ⟨B, hB⟩ : ∃ u, absv u2 = u := ⟨_, rfl⟩
  obtain ⟨D, hD⟩ : ∃ u, absv (d - d') = u := ⟨_, rfl⟩
  rw [hA] at H1 HC b1
  rw [hB] at H2 HC b2
  rw [hD] at H3 HC b3
  have HM := Lib.hid (fun W => minS D (8 - D) W)
  obtain ⟨M, hM⟩ : ∃ u, min D (8 - D) = u := ⟨_, rfl⟩
  have bM : 0 ≤ M + 1 ∧ M ≤ 7 := by omega
  rw [hM] at HC HM
  obtain ⟨T, hT⟩ : ∃ u, A + B + 16 * M = u := ⟨_, rfl⟩
  rw [hT] at HC
  have E3 : IntKind.i64.wrap (A + B) = A + B := IntWalk.i64_in _ (by omega)
  have E4 : IntKind.i64.wrap (8 - D) = 8 - D := IntWalk.i64_in _ (by omega)
  have E5 : IntKind.i64.wrap (16 * M) = 16 * M := IntWalk.i64_in _ (by omega)
  have E6 : IntKind.i64.wrap (A + B + 16 * M) = T := by rw [hT]; exact IntWalk.i64_in _ (by omega)
  have F3 : wrap64 (A + B) = A + B := by rw [← IntWalk.i64_left]; exact E3
  have F4 : wrap64 (8 - D) = 8 - D := by rw [← IntWalk.i64_left]; exact E4
  have F5 : wrap64 (16 * M) = 16 * M := by rw [← IntWalk.i64_left]; exact E5
  have F6 : wrap64 (A + B + 16 * M) = T := by rw [← IntWalk.i64_left]; exact E6
  have BA := Lib.hid (below_alloc2 w (.cells #[.int .i64 x, .int .i64 y, .int .i64 d] 95) (.cells #[.int .i64 x', .int .i64 y', .int .i64 d'] 95))
  have K0 := Lib.hid (show ((w.alloc (.cells #[.int .i64 x, .int .i64 y, .int .i64 d] 95)).alloc (.cells #[.int .i64 x', .int .i64 y', .int .i64 d'] 95)).heap[w.heap.size]? = some (.cells #[.int .i64 x, .int .i64 y, .int .i64 d] 95 (0, 0)) by rw [Below.heap_alloc _ _ _ (by simp)]; exact heap_alloc_new _ _)
  have K1 := Lib.hid (show ((w.alloc (.cells #[.int .i64 x, .int .i64 y, .int .i64 d] 95)).alloc (.cells #[.int .i64 x', .int .i64 y', .int .i64 d'] 95)).heap[w.heap.size + 1]? = some (.cells #[.int .i64 x', .int .i64 y', .int .i64 d'] 95 (0, 0)) by have := heap_alloc_new (w.alloc (.cells #[.int .i64 x, .int .i64 y, .int .i64 d] 95)) (.cells #[.int .i64 x', .int .i64 y', .int .i64 d'] 95); simpa using this)
  obtain ⟨w0, hw0⟩ : ∃ v, v = (w.alloc (.cells #[.int .i64 x, .int .i64 y, .int .i64 d] 95)).alloc (.cells #[.int .i64 x', .int .i64 y', .int .i64 d'] 95) := ⟨_, rfl⟩
  rw [← hw0] at BA K0 K1
  have c0 := cell_kept (w := w0) (a := ⟨w.heap.size, 0, none⟩) (v := .int .i64 x) (block_size K0.out) (by rw [cell_of_block K0.out]; rfl)
  have c1 := cell_kept (w := w0) (a := ⟨w.heap.size, 1, none⟩) (v := .int .i64 y) (block_size K0.out) (by rw [cell_of_block K0.out]; rfl)
  have c2 := cell_kept (w := w0) (a := ⟨w.heap.size + 1, 0, none⟩) (v := .int .i64 x') (block_size K1.out) (by rw [cell_of_block K1.out]; rfl)
  have c3 := cell_kept (w := w0) (a := ⟨w.heap.size + 1, 1, none⟩) (v := .int .i64 y') (block_size K1.out) (by rw [cell_of_block K1.out]; rfl)
  clear hA hB hD hM hT hu1 hu2
  go_enter Try.func134, Try.ntmps134
  go_wp2_with fail
  with_reducible refine (H3.out _).mono ?_
  rintro e w2 ⟨rfl, rfl⟩
  rw [← hw0]
  clear hw0
  have hmx : Try.prog.follows .mixedOrders = true := by kernel_rfl
  go_wp2
  refine wp_region_quiet_kept (by assumption) (by kernel_rfl) ?_
  repeat (first | go_big_quiet_step ((first | (go_at_call 133; first | with_reducible exact Calls.kept_of (still_b (H1.out _)) | with_reducible exact Calls.kept_of (still_b (H2.out _))) | (go_at_call 97; with_reducible exact Calls.kept_of (still_b (HM.out _))))) | quiet_step ((first | (go_at_call 133; first | with_reducible exact Calls.kept_of (still_b (H1.out _)) | with_reducible exact Calls.kept_of (still_b (H2.out _))) | (go_at_call 97; with_reducible exact Calls.kept_of (still_b (HM.out _))))))
  refine wpQuiet_nil ?_
  intro w1 hw'
  have hB : Below w0.heap.size w0 w1 := by obtain ⟨⟨wk, hb0⟩, hw''⟩ := hw'; rw [hw'']; exact hb0
  have HB := Lib.hid (BA.out.trans (hB.mono BA.out.size))
  clear hw' hB c0 c1 c2 c3
  go_wp2
  go_ret
  exact ⟨by rw [← HC.out]; rfl, HB.out⟩
end Go.Proofs.Ytkcfghbkcgommaa.seq
