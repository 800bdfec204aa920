/-
  Proved: what the program's functions on sequences and on the cost of matching two features return.
  Conditions: none.
-/
import Derived.Test.YtghaddpicedenaaSeqC
namespace Go.Proofs.Ytghaddpicedenaa.seq
open Go.ChangeShapes Go.WideShapes Go.ChangeAt Go.RowKit Go.Joins
open Go.Proofs.Ytghaddpicedenaa.core Go.Proofs.Ytghaddpicedenaa.rown Go.Proofs.Ytghaddpicedenaa.stk Go.Proofs.Ytghaddpicedenaa.boxed Go.Proofs.Ytghaddpicedenaa.ft
set_option linter.unusedVariables false
set_option linter.unusedSimpArgs false
theorem run_max2 {P : Program} (w : World) (ts : Array TypeId) (t : TypeId) (x y : Int) : (Builtin.max_ ts t #[.int .i64 x, .int .i64 y]).run P w = .ok (.int .i64 (max x y)) w := by
  have e : ∀ p q : Int, (if q > p then q else p) = max p q := fun p q => by
    rw [Int.max_def]
    split <;> split <;> omega
  have e' : ∀ p q : Int, (if p < q then q else p) = max p q := e
  simp [Builtin.max_, Builtin.max2, e, e', go_sem]
theorem run_min2 {P : Program} (w : World) (ts : Array TypeId) (t : TypeId) (x y : Int) : (Builtin.min_ ts t #[.int .i64 x, .int .i64 y]).run P w = .ok (.int .i64 (min x y)) w := by
  have e : ∀ p q : Int, (if q < p then q else p) = min p q := fun p q => by
    rw [Int.min_def]
    split <;> split <;> omega
  have e' : ∀ p q : Int, (if p > q then q else p) = min p q := e
  simp [Builtin.min_, Builtin.min2, e, e', go_sem]
theorem run_min3 {P : Program} (w : World) (ts : Array TypeId) (t : TypeId) (x y z : Int) : (Builtin.min_ ts t #[.int .i64 x, .int .i64 y, .int .i64 z]).run P w = .ok (.int .i64 (min (min x y) z)) w := by
  have e : ∀ p q : Int, (if q < p then q else p) = min p q := fun p q => by
    rw [Int.min_def]
    split <;> split <;> omega
  have e' : ∀ p q : Int, (if p > q then q else p) = min p q := e
  simp [Builtin.min_, Builtin.min2, e, e', go_sem]
/-- How far two numbers are from each other, as the program tells it. -/
def apW (n m : Int) : Int := max (wrap64 (n - m)) (wrap64 (m - n))
theorem apW_in {n m : Int} (h1 : -9223372036854775807 ≤ n - m) (h2 : n - m ≤ 9223372036854775807) : apW n m = absv (n - m) := by
  have e1 : wrap64 (n - m) = n - m := by rw [← IntWalk.i64_left]; exact IntWalk.i64_in _ (by omega)
  have e2 : wrap64 (m - n) = m - n := by rw [← IntWalk.i64_left]; exact IntWalk.i64_in _ (by omega)
  unfold apW absv
  rw [e1, e2]
  split <;> omega
set_option maxRecDepth 100000 in
set_option maxHeartbeats 2000000 in
theorem okQI {c : Nat} (A : Option Addr) (n : Nat) (f : Nat → P3) (w : World) (hn : n ≤ 1048576) (hp : PtsAt w A n f) :
    Calls Try.prog 37 #[.slice A n c] w fun e w' => e = .returned (.bool (okQ n f)) ∧ Below w.heap.size w w' := by
  by_cases hs : n ≤ 72
  · have HC := Lib.hid (okI (c := c) A n f w hn hp)
    have HE := Lib.hid (show okF n f = okQ n f by
      cases h : okQ n f with
      | true => obtain ⟨h1, h2, h3⟩ := okQ_of h; exact okF_true h1 (by omega) h3
      | false =>
        cases h' : okF n f with
        | false => rfl
        | true => obtain ⟨h1, h2, h3⟩ := okF_of h'; rw [okQ_true h1 hs h3] at h; cases h)
    have hsi : (n : Int) ≤ 72 := by omega
    have hd : decide ((n : Int) ≤ 72) = true := decide_eq_true hsi
    clear hp hs
    rw [HE.out] at HC
    generalize okQ n f = r at *
    go_enter Try.func37, Try.ntmps37
    go_wp2_with fail
    refine HC.out.mono ?_
    rintro e w1 ⟨rfl, hb⟩
    go_wp2
    go_ret
    exact ⟨by cases r <;> rfl, hb⟩
  · have HE := Lib.hid (okQ_size (n := n) (f := f) (fun h => hs h.2))
    have hsi : ¬ (n : Int) ≤ 72 := by omega
    have hd : decide ((n : Int) ≤ 72) = false := decide_eq_false hsi
    have hu : undef = Value.tuple #[] := rfl
    clear hp hs
    go_enter Try.func37, Try.ntmps37
    go_wp2
    go_ret
    exact ⟨by rw [HE.out]; rfl, Below.refl _ _⟩
end Go.Proofs.Ytghaddpicedenaa.seq
