/-
  Proved: what the document's functions on sequences of features return, and the cost of matching two features.
  Conditions: none.
-/
import Derived.Test.YtghaddpicedenaaFt
namespace Go.Proofs.Ytghaddpicedenaa.seq
open Go.ChangeShapes Go.WideShapes Go.ChangeAt Go.RowKit Go.Joins
open Go.Proofs.Ytghaddpicedenaa.core Go.Proofs.Ytghaddpicedenaa.rown Go.Proofs.Ytghaddpicedenaa.stk Go.Proofs.Ytghaddpicedenaa.boxed Go.Proofs.Ytghaddpicedenaa.ft
set_option linter.unusedVariables false
set_option linter.unusedSimpArgs false
/-- The list is a sequence: 1 to 72 valid features. -/
noncomputable def okQ (n : Nat) (f : Nat → P3) : Bool := @decide (1 ≤ n ∧ n ≤ 72 ∧ ∀ i, i < n → inF (f i) = true) (Classical.propDecidable _)
theorem okQ_true {n : Nat} {f : Nat → P3} (h1 : 1 ≤ n) (h2 : n ≤ 72) (h : ∀ i, i < n → inF (f i) = true) : okQ n f = true := by
  unfold okQ; exact @decide_eq_true _ (Classical.propDecidable _) ⟨h1, h2, h⟩
theorem okQ_of {n : Nat} {f : Nat → P3} (h : okQ n f = true) : 1 ≤ n ∧ n ≤ 72 ∧ ∀ i, i < n → inF (f i) = true := by
  unfold okQ at h; exact @of_decide_eq_true _ (Classical.propDecidable _) h
theorem okQ_size {n : Nat} {f : Nat → P3} (h : ¬ (1 ≤ n ∧ n ≤ 72)) : okQ n f = false := by
  unfold okQ; exact @decide_eq_false _ (Classical.propDecidable _) fun ⟨a, b, _⟩ => h ⟨a, b⟩
theorem okQ_at {n : Nat} {f : Nat → P3} (i : Nat) (hi : i < n) (h : inF (f i) = false) : okQ n f = false := by
  unfold okQ; exact @decide_eq_false _ (Classical.propDecidable _) fun ⟨_, _, c⟩ => by have := c i hi; rw [h] at this; cases this
set_option maxHeartbeats 1000000 in
theorem featQ (p : P3) (r : Bool) (hr : inF p = r) (w : World) : Calls Try.prog 43 #[pv p] w fun e w' => e = .returned (.bool r) ∧ Below w.heap.size w w' := by
  subst hr
  obtain ⟨x, y, d⟩ := p
  go_enter Try.func43, Try.ntmps43
  by_cases hx : 0 ≤ x ∧ x ≤ 255
  · go_wp2_with fail
    refine (in_t _ _ _ hx _).mono ?_
    rintro e w2 ⟨rfl, rfl⟩
    by_cases hy : 0 ≤ y ∧ y ≤ 255
    · go_wp2_with fail
      refine (in_t _ _ _ hy _).mono ?_
      rintro e w2 ⟨rfl, rfl⟩
      by_cases hd : 0 ≤ d ∧ d ≤ 7
      · go_wp2_with fail
        refine (in_t _ _ _ hd _).mono ?_
        rintro e w2 ⟨rfl, rfl⟩
        go_wp2
        go_ret
        exact ⟨by rw [show inF (x, y, d) = true from decide_eq_true ⟨hx, hy, hd⟩]; rfl, below_alloc1 _ _⟩
      · go_wp2_with fail
        refine (in_f _ _ _ hd _).mono ?_
        rintro e w2 ⟨rfl, rfl⟩
        go_wp2
        go_ret
        exact ⟨by rw [show inF (x, y, d) = false from decide_eq_false (fun h => hd h.2.2)]; rfl, below_alloc1 _ _⟩
    · go_wp2_with fail
      refine (in_f _ _ _ hy _).mono ?_
      rintro e w2 ⟨rfl, rfl⟩
      go_wp2
      go_ret
      exact ⟨by rw [show inF (x, y, d) = false from decide_eq_false (fun h => hy h.2.1)]; rfl, below_alloc1 _ _⟩
  · go_wp2_with fail
    refine (in_f _ _ _ hx _).mono ?_
    rintro e w2 ⟨rfl, rfl⟩
    go_wp2
    go_ret
    exact ⟨by rw [show inF (x, y, d) = false from decide_eq_false (fun h => hx h.1)]; rfl, below_alloc1 _ _⟩
set_option maxRecDepth 100000 in
set_option maxHeartbeats 2000000 in
theorem okQS {c : Nat} (A : Option Addr) (n : Nat) (f : Nat → P3) (w : World) (hn : n ≤ 1048576) (hp : PtsAt w A n f) :
    Calls Try.prog 33 #[.slice A n c] w fun e w' => e = .returned (.bool (okQ n f)) ∧ Below w.heap.size w w' := by
  have HP := Lib.hid hp
  clear hp
  go_enter Try.func33, Try.ntmps33
  go_wp2
  go_loopw [3] (fun i w' => ∃ k : Nat, k ≤ n ∧ i = .int .i64 (k : Int) ∧ Hid (∀ j, j < k → inF (f j) = true) ∧ Hid (Below w.heap.size w w')) (fun i _ => n - (intOf i).toNat)
  case atStart => exact ⟨0, Nat.zero_le _, rfl, Lib.hid (fun j hj => absurd hj (by omega)), Lib.hid (Below.refl _ _)⟩
  case round =>
    obtain ⟨k, hk, rfl, HE, HB⟩ := hrel
    by_cases hlt : k < n
    · obtain ⟨b, o, rfl, hb, p0, p1, p2⟩ := (HP.out.kept HB.out) k hlt
      have hli : (k : Int) < (n : Int) := by omega
      cases hi : inF (f k) with
      | true =>
        have HE2 := Lib.hid (ft.more HE.out hi)
        have HI := Lib.hid (fun W => featQ (f k) true hi W)
        obtain ⟨p, hpk⟩ : ∃ p, f k = p := ⟨_, rfl⟩
        rw [hpk] at p0 p1 p2 HI
        clear hi hpk HE
        go_wp2_with fail
        with_reducible refine (HI.out _).mono ?_
        rintro e w2 ⟨rfl, hb2⟩
        have HB2 := Lib.hid (HB.out.trans (hb2.mono HB.out.size))
        clear hb2 p0 p1 p2
        go_wp2
        go_roundw
        case rel => exact ⟨k + 1, by omega, by go_num, HE2, HB2⟩
        case measure => simp [intOf]; omega
      | false =>
        have HF := Lib.hid (okQ_at (f := f) k hlt hi)
        have HI := Lib.hid (fun W => featQ (f k) false hi W)
        obtain ⟨p, hpk⟩ : ∃ p, f k = p := ⟨_, rfl⟩
        rw [hpk] at p0 p1 p2 HI
        clear hi hpk HE
        go_wp2_with fail
        with_reducible refine (HI.out _).mono ?_
        rintro e w2 ⟨rfl, hb2⟩
        have HB2 := Lib.hid (HB.out.trans (hb2.mono HB.out.size))
        clear hb2 p0 p1 p2
        go_wp2
        go_ret
        exact ⟨by rw [HF.out]; rfl, HB2.out⟩
    · obtain rfl : k = n := by omega
      by_cases hs : 1 ≤ k ∧ k ≤ 72
      · have HI := Lib.hid (fun W => in_t (k : Int) 1 72 (by omega) W)
        have HF := Lib.hid (okQ_true hs.1 hs.2 HE.out)
        clear hs
        go_wp2_with fail
        with_reducible refine (HI.out _).mono ?_
        rintro e w2 ⟨rfl, rfl⟩
        go_wp2
        go_ret
        exact ⟨by rw [HF.out]; rfl, HB.out⟩
      · have HI := Lib.hid (fun W => in_f (k : Int) 1 72 (by omega) W)
        have HF := Lib.hid (okQ_size (f := f) hs)
        clear hs
        go_wp2_with fail
        with_reducible refine (HI.out _).mono ?_
        rintro e w2 ⟨rfl, rfl⟩
        go_wp2
        go_ret
        exact ⟨by rw [HF.out]; rfl, HB.out⟩
def absv (n : Int) : Int := if n < 0 then -n else n
theorem absv_in {n B : Int} (h1 : -B ≤ n) (h2 : n ≤ B) : 0 ≤ absv n ∧ absv n ≤ B := by unfold absv; split <;> omega
/-- The cost of matching two features. -/
def cst (p q : P3) : Int := absv (p.1 - q.1) + absv (p.2.1 - q.2.1) + 16 * min (absv (p.2.2 - q.2.2)) (8 - absv (p.2.2 - q.2.2))
theorem cst_in {p q : P3} (hp : inF p = true) (hq : inF q = true) : 0 ≤ cst p q ∧ cst p q ≤ 574 := by
  have h1 := inF_of hp
  have h2 := inF_of hq
  unfold cst absv
  split <;> split <;> split <;> omega
theorem still_b {P : Program} {f : FuncId} {args : Array Value} {w : World} {v : Value} (h : Calls P f args w fun e w' => e = .returned v ∧ w = w') : Calls P f args w fun e w' => e = .returned v ∧ Below w.heap.size w w' :=
  h.mono fun _ _ ⟨he, hw⟩ => ⟨he, by rw [← hw]; exact Below.refl _ _⟩
end Go.Proofs.Ytghaddpicedenaa.seq
