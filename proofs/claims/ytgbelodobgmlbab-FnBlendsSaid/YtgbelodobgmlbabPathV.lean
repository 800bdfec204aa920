/-
  Proved: what the document's functions that test paths and both lists return.
  Conditions: none.
-/
import Derived.Test.YtgbelodobgmlbabPath
namespace Go.Proofs.Ytgbelodobgmlbab.path
open Go.ChangeShapes Go.WideShapes Go.ChangeAt Go.RowKit Go.Joins
open Go.Proofs.Ytgbelodobgmlbab.core Go.Proofs.Ytgbelodobgmlbab.rown Go.Proofs.Ytgbelodobgmlbab.stk Go.Proofs.Ytgbelodobgmlbab.boxed Go.Proofs.Ytgbelodobgmlbab.ft Go.Proofs.Ytgbelodobgmlbab.seq
set_option linter.unusedVariables false
set_option linter.unusedSimpArgs false
noncomputable def vP (k : Nat) (f : Nat → P2) (n m band : Int) : Bool := if 1 ≤ n ∧ 1 ≤ m then okPath k f n m band else false
set_option maxRecDepth 100000 in
set_option maxHeartbeats 2000000 in
theorem validPathS {c : Nat} (A : Option Addr) (k : Nat) (f : Nat → P2) (n m band : Int) (w : World) (hk : k ≤ 1048576) (hn : inI64 n) (hm : inI64 m) (hp : SpAt w A k f) :
    Calls Try.prog 15 #[.slice A k c, .int .i64 n, .int .i64 m, .int .i64 band] w fun e w' => e = .returned (.bool (vP k f n m band)) ∧ Below w.heap.size w w' := by
  unfold inI64 at hn hm
  have hu : undef = Value.tuple #[] := rfl
  by_cases h1 : 1 ≤ n
  rotate_left
  · have HV := Lib.hid (show vP k f n m band = false by unfold vP; rw [if_neg (fun h => h1 h.1)])
    have hd : decide (1 ≤ n) = false := decide_eq_false h1
    clear hp
    go_enter Try.func15, Try.ntmps15
    go_wp2
    go_ret
    exact ⟨by rw [HV.out]; rfl, Below.refl _ _⟩
  by_cases h2 : 1 ≤ m
  rotate_left
  · have HV := Lib.hid (show vP k f n m band = false by unfold vP; rw [if_neg (fun h => h2 h.2)])
    have hd : decide (1 ≤ n) = true := decide_eq_true h1
    have hd2 : decide (1 ≤ m) = false := decide_eq_false h2
    clear hp
    go_enter Try.func15, Try.ntmps15
    go_wp2
    go_ret
    exact ⟨by rw [HV.out]; rfl, Below.refl _ _⟩
  have HC := Lib.hid (pathS (c := c) A k f n m band w hk ⟨h1, hn.2⟩ ⟨h2, hm.2⟩ hp)
  have HV := Lib.hid (show vP k f n m band = okPath k f n m band by unfold vP; rw [if_pos ⟨h1, h2⟩])
  have hd : decide (1 ≤ n) = true := decide_eq_true h1
  have hd2 : decide (1 ≤ m) = true := decide_eq_true h2
  clear hp
  obtain ⟨r, hr⟩ : ∃ r, okPath k f n m band = r := ⟨_, rfl⟩
  rw [hr] at HC HV
  clear hr
  go_enter Try.func15, Try.ntmps15
  go_wp2_with fail
  refine HC.out.mono ?_
  rintro e w1 ⟨rfl, hb⟩
  have HB := Lib.hid hb
  clear hb
  cases r
  all_goals
    go_wp2
    go_ret
    exact ⟨by rw [HV.out]; rfl, HB.out⟩
/-- The code of two lists and a path. -/
noncomputable def fitC (na nb k : Nat) (fa fb : Nat → P3) (f : Nat → P2) : Int := if okQ na fa = true ∧ okQ nb fb = true then (if okPath k f na nb 72 = true then 0 else 2) else 1
end Go.Proofs.Ytgbelodobgmlbab.path
