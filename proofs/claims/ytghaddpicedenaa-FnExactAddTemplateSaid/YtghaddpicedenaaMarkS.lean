/-
  Proved: marking a struct in blocks of its own leaves the marks there (contracts of callees of the exact laws).
  Conditions: the value owns its memory.
-/
import Derived.Test.YtghaddpicedenaaMark
namespace Go.Proofs.Ytghaddpicedenaa.core
open Go.ChangeShapes Go.WideShapes Go.ChangeAt Go.RowKit Go.Joins
set_option linter.unusedVariables false
set_option linter.unusedSimpArgs false

set_option maxRecDepth 100000 in
set_option maxHeartbeats 2000000 in
theorem markTemplate_calls (s0 : ByteArray) (A1 : Option Addr) (n1 c1 : Nat) (f1 : Nat → Nat → Dat) (F1 : Nat → Prop) (K : Nat) (z : Int) (w : World) (hz : z = (K : Int)) (h1 : 1 ≤ K) (hcap : K + cnt (.sl n1 3 f1) ≤ 1000000000000) (hm1 : n1 ≤ maxLen) (ht1 : tyFeatS (.sl n1 3 f1)) (ho1 : Own w (.slice A1 n1 c1) (.sl n1 3 f1) F1) (hF1 : ∀ x, F1 x → x < w.heap.size)  :
    Calls Try.prog 13 #[.agg #[.string s0, .slice A1 n1 c1], .int .i64 z] w fun e w' => e = .returned (.int .i64 ((K + cnt (.sl n1 3 f1) : Nat) : Int)) ∧ Own w' (.slice A1 n1 c1) (mark mt (.sl n1 3 f1) (K)) F1 ∧ OnlyF (fun x => F1 x) w w' := by
  subst hz
  have HT1 := Lib.hid ht1
  have HO1 := Lib.hid (ho1.kept (below_alloc1 w (.cells #[.string s0, .slice A1 n1 c1] 38)))
  have HF1 := Lib.hid hF1
  clear ht1 ho1 hF1
  have hcap' : K + cnt (.sl n1 3 f1) ≤ 1000000000000 := hcap
  have HC := Lib.hid hcap
  clear hcap hcap'
  go_enter Try.func13, Try.ntmps13
  go_wp2_with fail
  refine (markFeatS_calls A1 n1 c1 (K) _ f1 F1 _ (by first | rfl | omega) (by omega) (by have := HC.out; omega) hm1 HT1.out HO1.out).mono ?_
  rintro e w1 ⟨rfl, ho, hw⟩
  have HW1 := Lib.hid hw
  have HX1 := Lib.hid ((OnlyF.of_below (below_alloc1 w (.cells #[.string s0, .slice A1 n1 c1] 38))).trans (hw.mono (F' := fun x => F1 x) fun x hx => hx))
  have HO1 := Lib.hid ho
  have d1_0 := (hw.cell (p := ⟨w.heap.size, 0, none⟩) (by simp) (fun hx => by have := HF1.out _ hx; simp at this)).trans (show _ = some (.string s0) by simp)
  have d1_1 := (hw.cell (p := ⟨w.heap.size, 1, none⟩) (by simp) (fun hx => by have := HF1.out _ hx; simp at this)).trans (show _ = some (.slice A1 n1 c1) by simp)
  have lz1 : w.heap.size < w1.heap.size := by have := hw.size; (try simp at this); omega
  clear ho hw
  go_wp2
  go_ret
  exact ⟨ret_int (by omega), HO1.out, HX1.out⟩

set_option maxRecDepth 100000 in
set_option maxHeartbeats 2000000 in
theorem markStore_calls (x0 : Int) (A1 : Option Addr) (n1 c1 : Nat) (f1 : Nat → Nat → Dat) (F1 : Nat → Prop) (K : Nat) (z : Int) (w : World) (hz : z = (K : Int)) (h1 : 1 ≤ K) (hcap : K + cnt (.sl n1 2 f1) ≤ 1000000000000) (hm1 : n1 ≤ maxLen) (ht1 : tyTemplateS (.sl n1 2 f1)) (ho1 : Own w (.slice A1 n1 c1) (.sl n1 2 f1) F1) (hF1 : ∀ x, F1 x → x < w.heap.size)  :
    Calls Try.prog 12 #[.agg #[.int .i64 x0, .slice A1 n1 c1], .int .i64 z] w fun e w' => e = .returned (.int .i64 ((K + cnt (.sl n1 2 f1) : Nat) : Int)) ∧ Own w' (.slice A1 n1 c1) (mark mt (.sl n1 2 f1) (K)) F1 ∧ OnlyF (fun x => F1 x) w w' := by
  subst hz
  have HT1 := Lib.hid ht1
  have HO1 := Lib.hid (ho1.kept (below_alloc1 w (.cells #[.int .i64 x0, .slice A1 n1 c1] 32)))
  have HF1 := Lib.hid hF1
  clear ht1 ho1 hF1
  have hcap' : K + cnt (.sl n1 2 f1) ≤ 1000000000000 := hcap
  have HC := Lib.hid hcap
  clear hcap hcap'
  go_enter Try.func12, Try.ntmps12
  go_wp2_with fail
  refine (markTemplateS_calls A1 n1 c1 (K) _ f1 F1 _ (by first | rfl | omega) (by omega) (by have := HC.out; omega) hm1 HT1.out HO1.out).mono ?_
  rintro e w1 ⟨rfl, ho, hw⟩
  have HW1 := Lib.hid hw
  have HX1 := Lib.hid ((OnlyF.of_below (below_alloc1 w (.cells #[.int .i64 x0, .slice A1 n1 c1] 32))).trans (hw.mono (F' := fun x => F1 x) fun x hx => hx))
  have HO1 := Lib.hid ho
  have d1_0 := (hw.cell (p := ⟨w.heap.size, 0, none⟩) (by simp) (fun hx => by have := HF1.out _ hx; simp at this)).trans (show _ = some (.int .i64 x0) by simp)
  have d1_1 := (hw.cell (p := ⟨w.heap.size, 1, none⟩) (by simp) (fun hx => by have := HF1.out _ hx; simp at this)).trans (show _ = some (.slice A1 n1 c1) by simp)
  have lz1 : w.heap.size < w1.heap.size := by have := hw.size; (try simp at this); omega
  clear ho hw
  go_wp2
  go_ret
  exact ⟨ret_int (by omega), HO1.out, HX1.out⟩

end Go.Proofs.Ytghaddpicedenaa.core
