/-
  Proved: marking a struct in blocks of its own leaves the marks there (contracts of callees of the exact laws).
  Conditions: the value owns its memory.
-/
import Derived.Test.YtofgdgdmmlgmnabMark
namespace Go.Proofs.Ytofgdgdmmlgmnab.core
open Go.ChangeShapes Go.WideShapes Go.ChangeAt Go.RowKit Go.Joins
set_option linter.unusedVariables false
set_option linter.unusedSimpArgs false

set_option maxRecDepth 100000 in
set_option maxHeartbeats 2000000 in
theorem markInk_calls (A0 : Option Addr) (n0 c0 : Nat) (f0 : Nat → Nat → Dat) (F0 : Nat → Prop) (K : Nat) (z : Int) (w : World) (hz : z = (K : Int)) (h1 : 1 ≤ K) (hcap : K + cnt (.sl n0 1 f0) ≤ 1000000000000) (hm0 : n0 ≤ maxLen) (ht0 : tyStrokeS (.sl n0 1 f0)) (ho0 : Own w (.slice A0 n0 c0) (.sl n0 1 f0) F0) (hF0 : ∀ x, F0 x → x < w.heap.size)  :
    Calls Try.prog 13 #[.agg #[.slice A0 n0 c0], .int .i64 z] w fun e w' => e = .returned (.int .i64 ((K + cnt (.sl n0 1 f0) : Nat) : Int)) ∧ Own w' (.slice A0 n0 c0) (mark mt (.sl n0 1 f0) (K)) F0 ∧ OnlyF (fun x => F0 x) w w' := by
  subst hz
  have HT0 := Lib.hid ht0
  have HO0 := Lib.hid (ho0.kept (below_alloc1 w (.cells #[.slice A0 n0 c0] 31)))
  have HF0 := Lib.hid hF0
  clear ht0 ho0 hF0
  have hcap' : K + cnt (.sl n0 1 f0) ≤ 1000000000000 := hcap
  have HC := Lib.hid hcap
  clear hcap hcap'
  go_enter Try.func13, Try.ntmps13
  go_wp2_with fail
  refine (markStrokeS_calls A0 n0 c0 (K) _ f0 F0 _ (by first | rfl | omega) (by omega) (by have := HC.out; omega) hm0 HT0.out HO0.out).mono ?_
  rintro e w0 ⟨rfl, ho, hw⟩
  have HW0 := Lib.hid hw
  have HX0 := Lib.hid ((OnlyF.of_below (below_alloc1 w (.cells #[.slice A0 n0 c0] 31))).trans (hw.mono (F' := fun x => F0 x) fun x hx => hx))
  have HO0 := Lib.hid ho
  have d0_0 := (hw.cell (p := ⟨w.heap.size, 0, none⟩) (by simp) (fun hx => by have := HF0.out _ hx; simp at this)).trans (show _ = some (.slice A0 n0 c0) by simp)
  have lz0 : w.heap.size < w0.heap.size := by have := hw.size; (try simp at this); omega
  clear ho hw
  go_wp2
  go_ret
  exact ⟨ret_int (by omega), HO0.out, HX0.out⟩

end Go.Proofs.Ytofgdgdmmlgmnab.core
