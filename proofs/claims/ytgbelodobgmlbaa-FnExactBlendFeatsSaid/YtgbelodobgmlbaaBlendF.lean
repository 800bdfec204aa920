/-
  Proved: what the document's function BlendFeats returns.
  Conditions: none.
-/
import Derived.Test.YtgbelodobgmlbaaBlend
namespace Go.Proofs.Ytgbelodobgmlbaa.path
open Go.ChangeShapes Go.WideShapes Go.ChangeAt Go.RowKit Go.Joins
open Go.Proofs.Ytgbelodobgmlbaa.core Go.Proofs.Ytgbelodobgmlbaa.rown Go.Proofs.Ytgbelodobgmlbaa.stk Go.Proofs.Ytgbelodobgmlbaa.boxed Go.Proofs.Ytgbelodobgmlbaa.ft Go.Proofs.Ytgbelodobgmlbaa.seq Go.Proofs.Ytgbelodobgmlbaa.near
set_option linter.unusedVariables false
set_option linter.unusedSimpArgs false
set_option maxRecDepth 100000 in
set_option maxHeartbeats 4000000 in
theorem blendFeatsS_no {ca cb c : Nat} (A B C : Option Addr) (na nb k : Nat) (fa fb : Nat → P3) (f : Nat → P2) (w : World) (ha : na ≤ 1048576) (hb : nb ≤ 1048576) (hk : k ≤ 1048576) (pa : PtsAt w A na fa) (pb : PtsAt w B nb fb) (pc : SpAt w C k f) (h0 : ¬ fitC na nb k fa fb f = 0) :
    Calls Try.prog 36 #[.slice A na ca, .slice B nb cb, .slice C k c] w fun e w' => ∃ v, e = .returned (.tuple #[v, .int .i64 (fitC na nb k fa fb f)]) ∧ w'.ownsRow w.heap.size 33 3 v 0 (rws (row3 fun _ => (0, 0, 0)) 0) ∧ Below w.heap.size w w' := by
  have HF := Lib.hid (fitsS (ca := ca) (cb := cb) (c := c) A B C na nb k fa fb f w ha hb hk pa pb pc)
  have h12 : fitC na nb k fa fb f = 1 ∨ fitC na nb k fa fb f = 2 := by have := fit_any na nb k fa fb f; omega
  clear pa pb pc h0
  rcases h12 with h | h
  all_goals
    rw [h] at HF ⊢
    clear h
    go_enter Try.func36, Try.ntmps36
    go_wp2_with fail
    refine HF.out.mono ?_
    rintro e w1 ⟨rfl, hb1⟩
    have B1 := Lib.hid hb1
    clear hb1
    go_wp2
    go_ret2
    exact ⟨.slice none 0 0, rfl, World.ownsRow_nil _ _ _ _, B1.out⟩
set_option maxRecDepth 100000 in
set_option maxHeartbeats 4000000 in
theorem blendFeatsS_yes {ca cb c : Nat} (A B C : Option Addr) (na nb k : Nat) (fa fb : Nat → P3) (f : Nat → P2) (w : World) (ha : na ≤ 1048576) (hb : nb ≤ 1048576) (hk : k ≤ 1048576) (pa : PtsAt w A na fa) (pb : PtsAt w B nb fb) (pc : SpAt w C k f) (h0 : fitC na nb k fa fb f = 0) :
    Calls Try.prog 36 #[.slice A na ca, .slice B nb cb, .slice C k c] w fun e w' => ∃ v, e = .returned (.tuple #[v, .int .i64 0]) ∧ w'.ownsRow w.heap.size 33 3 v na (rws (row3 (blendAt k fa fb f)) na) ∧ Below w.heap.size w w' := by
  have HF := Lib.hid (fitsS (ca := ca) (cb := cb) (c := c) A B C na nb k fa fb f w ha hb hk pa pb pc)
  have HL := Lib.hid (fun W hA hB hC => l09BlendS (ca := ca) (cb := cb) (c := c) A B C na nb k fa fb f W hk hA hB hC h0)
  have HPA := Lib.hid pa
  have HPB := Lib.hid pb
  have HPC := Lib.hid pc
  rw [h0] at HF
  clear pa pb pc h0
  go_enter Try.func36, Try.ntmps36
  go_wp2_with fail
  refine HF.out.mono ?_
  rintro e w1 ⟨rfl, hb1⟩
  have B1 := Lib.hid hb1
  have HL1 := Lib.hid (HL.out w1 (HPA.out.kept hb1) (HPB.out.kept hb1) (HPC.out.kept hb1))
  clear hb1 HF HL HPA HPB HPC
  go_wp2_with fail
  refine HL1.out.mono ?_
  rintro e w2 ⟨v, rfl, ho, hb2⟩
  have HO := Lib.hid ho
  have B2 := Lib.hid (B1.out.trans (hb2.mono B1.out.size))
  clear hb2 ho
  go_wp2
  go_ret2
  exact ⟨v, rfl, row_low HO.out B1.out.size, B2.out⟩
end Go.Proofs.Ytgbelodobgmlbaa.path
