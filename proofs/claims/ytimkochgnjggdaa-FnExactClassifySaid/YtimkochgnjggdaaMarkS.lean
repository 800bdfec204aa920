/-
  Proved: marking a struct in blocks of its own leaves the marks there (contracts of callees of the exact laws).
  Conditions: the value owns its memory.
-/
import Derived.Test.YtimkochgnjggdaaMark
namespace Go.Proofs.Ytimkochgnjggdaa.core
open Go.ChangeShapes Go.WideShapes Go.ChangeAt Go.RowKit Go.Joins
set_option linter.unusedVariables false
set_option linter.unusedSimpArgs false

set_option maxRecDepth 100000 in
set_option maxHeartbeats 2000000 in
theorem markPerceptron_calls (A0 : Option Addr) (n0 c0 : Nat) (f0 : Nat → Nat → Dat) (A1 : Option Addr) (n1 c1 : Nat) (f1 : Nat → Nat → Dat) (F0 : Nat → Prop) (F1 : Nat → Prop) (K : Nat) (z : Int) (w : World) (hz : z = (K : Int)) (h1 : 1 ≤ K) (hcap : K + cnt (.sl n0 1 f0) + cnt (.sl n1 1 f1) ≤ 1000000000000) (hm0 : n0 ≤ maxLen) (ht0 : tyStringS (.sl n0 1 f0)) (ho0 : Own w (.slice A0 n0 c0) (.sl n0 1 f0) F0) (hF0 : ∀ x, F0 x → x < w.heap.size) (hm1 : n1 ≤ maxLen) (ht1 : tyInt64SS (.sl n1 1 f1)) (ho1 : Own w (.slice A1 n1 c1) (.sl n1 1 f1) F1) (hF1 : ∀ x, F1 x → x < w.heap.size) (hd0_1 : ∀ x, F0 x → F1 x → False) :
    Calls Try.prog 29 #[.agg #[.slice A0 n0 c0, .slice A1 n1 c1], .int .i64 z] w fun e w' => e = .returned (.int .i64 ((K + cnt (.sl n0 1 f0) + cnt (.sl n1 1 f1) : Nat) : Int)) ∧ Own w' (.slice A0 n0 c0) (mark mt (.sl n0 1 f0) (K)) F0 ∧ Own w' (.slice A1 n1 c1) (mark mt (.sl n1 1 f1) (K + cnt (.sl n0 1 f0))) F1 ∧ OnlyF (fun x => F0 x ∨ F1 x) w w' := by
  subst hz
  have HT0 := Lib.hid ht0
  have HO0 := Lib.hid (ho0.kept (below_alloc1 w (.cells #[.slice A0 n0 c0, .slice A1 n1 c1] 38)))
  have HF0 := Lib.hid hF0
  clear ht0 ho0 hF0
  have HT1 := Lib.hid ht1
  have HO1 := Lib.hid (ho1.kept (below_alloc1 w (.cells #[.slice A0 n0 c0, .slice A1 n1 c1] 38)))
  have HF1 := Lib.hid hF1
  clear ht1 ho1 hF1
  have HD0_1 := Lib.hid hd0_1
  clear hd0_1
  have hcap' : K + cnt (.sl n0 1 f0) + cnt (.sl n1 1 f1) ≤ 1000000000000 := hcap
  have HC := Lib.hid hcap
  clear hcap hcap'
  go_enter Try.func29, Try.ntmps29
  go_wp2_with fail
  refine (markStringS_calls A0 n0 c0 (K) _ f0 F0 _ (by first | rfl | omega) (by omega) (by have := HC.out; omega) hm0 HT0.out HO0.out).mono ?_
  rintro e w0 ⟨rfl, ho, hw⟩
  have HW0 := Lib.hid hw
  have HX0 := Lib.hid ((OnlyF.of_below (below_alloc1 w (.cells #[.slice A0 n0 c0, .slice A1 n1 c1] 38))).trans (hw.mono (F' := fun x => F0 x ∨ F1 x) fun x hx => .inl hx))
  have HO0 := Lib.hid ho
  have HO1 := Lib.hid (HO1.out.only hw fun x hx hx' => HD0_1.out x hx' hx)
  have d0_0 := (hw.cell (p := ⟨w.heap.size, 0, none⟩) (by simp) (fun hx => by have := HF0.out _ hx; simp at this)).trans (show _ = some (.slice A0 n0 c0) by simp)
  have d0_1 := (hw.cell (p := ⟨w.heap.size, 1, none⟩) (by simp) (fun hx => by have := HF0.out _ hx; simp at this)).trans (show _ = some (.slice A1 n1 c1) by simp)
  have lz0 : w.heap.size < w0.heap.size := by have := hw.size; (try simp at this); omega
  clear ho hw
  go_wp2_with fail
  refine (markInt64SS_calls A1 n1 c1 (K + cnt (.sl n0 1 f0)) _ f1 F1 _ (by first | rfl | omega) (by omega) (by have := HC.out; omega) hm1 HT1.out HO1.out).mono ?_
  rintro e w1 ⟨rfl, ho, hw⟩
  have HX1 := Lib.hid (HX0.out.trans (hw.mono (F' := fun x => F0 x ∨ F1 x) fun x hx => .inr hx))
  have HO0 := Lib.hid (HO0.out.only hw fun x hx hx' => HD0_1.out x hx hx')
  have HO1 := Lib.hid ho
  have d1_0 := (hw.cell (p := ⟨w.heap.size, 0, none⟩) lz0 (fun hx => by have := HF1.out _ hx; simp at this)).trans d0_0
  have d1_1 := (hw.cell (p := ⟨w.heap.size, 1, none⟩) lz0 (fun hx => by have := HF1.out _ hx; simp at this)).trans d0_1
  have lz1 : w.heap.size < w1.heap.size := by have := hw.size; (try simp at this); omega
  clear d0_0 d0_1
  clear ho hw
  go_wp2
  go_ret
  exact ⟨ret_int (by omega), HO0.out, HO1.out, HX1.out⟩

set_option maxRecDepth 100000 in
set_option maxHeartbeats 2000000 in
theorem markSample_calls (s0 : ByteArray) (A1 : Option Addr) (n1 c1 : Nat) (f1 : Nat → Nat → Dat) (F1 : Nat → Prop) (K : Nat) (z : Int) (w : World) (hz : z = (K : Int)) (h1 : 1 ≤ K) (hcap : K + cnt (.sl n1 3 f1) ≤ 1000000000000) (hm1 : n1 ≤ maxLen) (ht1 : tyFeatS (.sl n1 3 f1)) (ho1 : Own w (.slice A1 n1 c1) (.sl n1 3 f1) F1) (hF1 : ∀ x, F1 x → x < w.heap.size)  :
    Calls Try.prog 46 #[.agg #[.string s0, .slice A1 n1 c1], .int .i64 z] w fun e w' => e = .returned (.int .i64 ((K + cnt (.sl n1 3 f1) : Nat) : Int)) ∧ Own w' (.slice A1 n1 c1) (mark mt (.sl n1 3 f1) (K)) F1 ∧ OnlyF (fun x => F1 x) w w' := by
  subst hz
  have HT1 := Lib.hid ht1
  have HO1 := Lib.hid (ho1.kept (below_alloc1 w (.cells #[.string s0, .slice A1 n1 c1] 62)))
  have HF1 := Lib.hid hF1
  clear ht1 ho1 hF1
  have hcap' : K + cnt (.sl n1 3 f1) ≤ 1000000000000 := hcap
  have HC := Lib.hid hcap
  clear hcap hcap'
  go_enter Try.func46, Try.ntmps46
  go_wp2_with fail
  refine (markFeatS_calls A1 n1 c1 (K) _ f1 F1 _ (by first | rfl | omega) (by omega) (by have := HC.out; omega) hm1 HT1.out HO1.out).mono ?_
  rintro e w1 ⟨rfl, ho, hw⟩
  have HW1 := Lib.hid hw
  have HX1 := Lib.hid ((OnlyF.of_below (below_alloc1 w (.cells #[.string s0, .slice A1 n1 c1] 62))).trans (hw.mono (F' := fun x => F1 x) fun x hx => hx))
  have HO1 := Lib.hid ho
  have d1_0 := (hw.cell (p := ⟨w.heap.size, 0, none⟩) (by simp) (fun hx => by have := HF1.out _ hx; simp at this)).trans (show _ = some (.string s0) by simp)
  have d1_1 := (hw.cell (p := ⟨w.heap.size, 1, none⟩) (by simp) (fun hx => by have := HF1.out _ hx; simp at this)).trans (show _ = some (.slice A1 n1 c1) by simp)
  have lz1 : w.heap.size < w1.heap.size := by have := hw.size; (try simp at this); omega
  clear ho hw
  go_wp2
  go_ret
  exact ⟨ret_int (by omega), HO1.out, HX1.out⟩

end Go.Proofs.Ytimkochgnjggdaa.core
