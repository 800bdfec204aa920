/-
  Proved: what the document's functions that test paths and both lists return.
  Conditions: none.
-/
import Derived.Test.YtgbelodobgmlbaaPath
namespace Go.Proofs.Ytgbelodobgmlbaa.path
open Go.ChangeShapes Go.WideShapes Go.ChangeAt Go.RowKit Go.Joins
open Go.Proofs.Ytgbelodobgmlbaa.core Go.Proofs.Ytgbelodobgmlbaa.rown Go.Proofs.Ytgbelodobgmlbaa.stk Go.Proofs.Ytgbelodobgmlbaa.boxed Go.Proofs.Ytgbelodobgmlbaa.ft Go.Proofs.Ytgbelodobgmlbaa.seq
set_option linter.unusedVariables false
set_option linter.unusedSimpArgs false
noncomputable def vP (k : Nat) (f : Nat → P2) (n m band : Int) : Bool := if 1 ≤ n ∧ 1 ≤ m then okPath k f n m band else false
set_option maxRecDepth 100000 in
set_option maxHeartbeats 2000000 in
theorem validPathS {c : Nat} (A : Option Addr) (k : Nat) (f : Nat → P2) (n m band : Int) (w : World) (hk : k ≤ 1048576) (hn : inI64 n) (hm : inI64 m) (hp : SpAt w A k f) :
    Calls Try.prog 29 #[.slice A k c, .int .i64 n, .int .i64 m, .int .i64 band] w fun e w' => e = .returned (.bool (vP k f n m band)) ∧ Below w.heap.size w w' := by
  unfold inI64 at hn hm
  have hu : undef = Value.tuple #[] := rfl
  by_cases h1 : 1 ≤ n
  rotate_left
  · have HV := Lib.hid (show vP k f n m band = false by unfold vP; rw [if_neg (fun h => h1 h.1)])
    have hd : decide (1 ≤ n) = false := decide_eq_false h1
    clear hp
    go_enter Try.func29, Try.ntmps29
    go_wp2
    go_ret
    exact ⟨by rw [HV.out]; rfl, Below.refl _ _⟩
  by_cases h2 : 1 ≤ m
  rotate_left
  · have HV := Lib.hid (show vP k f n m band = false by unfold vP; rw [if_neg (fun h => h2 h.2)])
    have hd : decide (1 ≤ n) = true := decide_eq_true h1
    have hd2 : decide (1 ≤ m) = false := decide_eq_false h2
    clear hp
    go_enter Try.func29, Try.ntmps29
    go_wp2
    go_ret
    exact ⟨by rw [HV.out]; rfl, Below.refl _ _⟩
  have HC := Lib.hid (pathS (c := c) A k f n m band w hk ⟨h1, hn.2⟩ ⟨h2, hm.2⟩ hp)
  have HV := Lib.hid (show vP k f n m band = okPath k f n m band by unfold vP; rw [if_pos ⟨h1, h2⟩])
  have hd : decide (1 ≤ n) = true := decide_eq_true h1
  have hd2 : decide (1 ≤ m) = true := decide_eq_true h2
  clear hp
  obtain ⟨r, hr⟩ : ∃ r, okPath k f n m band = r := ⟨_, rfl⟩
  rw [hr] at HC HV
  clear hr
  go_enter Try.func29, Try.ntmps29
  go_wp2_with fail
  refine HC.out.mono ?_
  rintro e w1 ⟨rfl, hb⟩
  have HB := Lib.hid hb
  clear hb
  cases r
  all_goals
    go_wp2
    go_ret
    exact ⟨by rw [HV.out]; rfl, HB.out⟩
/-- The code of two lists and a path. -/
noncomputable def fitC (na nb k : Nat) (fa fb : Nat → P3) (f : Nat → P2) : Int := if okQ na fa = true ∧ okQ nb fb = true then (if okPath k f na nb 72 = true then 0 else 2) else 1
set_option maxRecDepth 100000 in
set_option maxHeartbeats 4000000 in
theorem fitsS {ca cb c : Nat} (A B C : Option Addr) (na nb k : Nat) (fa fb : Nat → P3) (f : Nat → P2) (w : World) (ha : na ≤ 1048576) (hb : nb ≤ 1048576) (hk : k ≤ 1048576) (pa : PtsAt w A na fa) (pb : PtsAt w B nb fb) (pc : SpAt w C k f) :
    Calls Try.prog 63 #[.slice A na ca, .slice B nb cb, .slice C k c] w fun e w' => e = .returned (.int .i64 (fitC na nb k fa fb f)) ∧ Below w.heap.size w w' := by
  have HA := Lib.hid (okQS (c := ca) A na fa w ha pa)
  have HPB := Lib.hid pb
  have HPC := Lib.hid pc
  clear pa pb pc
  cases va : okQ na fa with
  | false =>
    have HV := Lib.hid (show fitC na nb k fa fb f = 1 by unfold fitC; rw [if_neg (fun h => by rw [va] at h; cases h.1)])
    rw [va] at HA
    clear va
    have hu : undef = Value.tuple #[] := rfl
    go_enter Try.func63, Try.ntmps63
    go_wp2_with fail
    refine HA.out.mono ?_
    rintro e w1 ⟨rfl, hb⟩
    have B1 := Lib.hid hb
    clear hb
    go_wp2
    go_ret
    exact ⟨by rw [HV.out]; rfl, B1.out⟩
  | true =>
    rw [va] at HA
    cases vb : okQ nb fb with
    | false =>
      have HV := Lib.hid (show fitC na nb k fa fb f = 1 by unfold fitC; rw [if_neg (fun h => by rw [vb] at h; cases h.2)])
      have HQ := Lib.hid (fun W hW => okQS (c := cb) B nb fb W hb hW)
      rw [vb] at HQ
      clear va vb
      go_enter Try.func63, Try.ntmps63
      go_wp2_with fail
      refine HA.out.mono ?_
      rintro e w1 ⟨rfl, hb1⟩
      have B1 := Lib.hid hb1
      have HQ1 := Lib.hid (HQ.out w1 (HPB.out.kept hb1))
      clear hb1
      go_wp2_with fail
      refine HQ1.out.mono ?_
      rintro e w2 ⟨rfl, hb2⟩
      have B2 := Lib.hid (B1.out.trans (hb2.mono B1.out.size))
      clear hb2
      go_wp2
      go_ret
      exact ⟨by rw [HV.out]; rfl, B2.out⟩
    | true =>
      have HQ := Lib.hid (fun W hW => okQS (c := cb) B nb fb W hb hW)
      rw [vb] at HQ
      have ba := (okQ_of va).1
      have bb := (okQ_of vb).1
      have HC := Lib.hid (fun W hW => pathS (c := c) C k f na nb 72 W hk (by omega) (by omega) hW)
      have HV := Lib.hid (show fitC na nb k fa fb f = if okPath k f na nb 72 = true then 0 else 2 by unfold fitC; rw [if_pos ⟨va, vb⟩])
      clear va vb
      obtain ⟨r, hr⟩ : ∃ r, okPath k f na nb 72 = r := ⟨_, rfl⟩
      rw [hr] at HC HV
      clear hr
      go_enter Try.func63, Try.ntmps63
      go_wp2_with fail
      refine HA.out.mono ?_
      rintro e w1 ⟨rfl, hb1⟩
      have B1 := Lib.hid hb1
      have HQ1 := Lib.hid (HQ.out w1 (HPB.out.kept hb1))
      clear hb1
      go_wp2_with fail
      refine HQ1.out.mono ?_
      rintro e w2 ⟨rfl, hb2⟩
      have B2 := Lib.hid (B1.out.trans (hb2.mono B1.out.size))
      have HC2 := Lib.hid (HC.out w2 (HPC.out.kept B2.out))
      clear hb2
      go_wp2_with fail
      refine HC2.out.mono ?_
      rintro e w3 ⟨rfl, hb3⟩
      have B3 := Lib.hid (B2.out.trans (hb3.mono B2.out.size))
      clear hb3
      cases r
      all_goals
        go_wp2
        go_ret
        exact ⟨by rw [HV.out]; rfl, B3.out⟩
end Go.Proofs.Ytgbelodobgmlbaa.path
