/-
  Proved: marking a struct in blocks of its own leaves the marks there (contracts of callees of the exact laws).
  Conditions: the value owns its memory.
-/
import Derived.Test.YthpmckfjlbiiiaaMark
namespace Go.Proofs.Ythpmckfjlbiiiaa.core
open Go.ChangeShapes Go.WideShapes Go.ChangeAt Go.RowKit Go.Joins
set_option linter.unusedVariables false
set_option linter.unusedSimpArgs false

set_option maxRecDepth 100000 in
set_option maxHeartbeats 2000000 in
theorem markEnvelope_calls (A0 : Option Addr) (n0 c0 : Nat) (f0 : Nat → Nat → Dat) (A1 : Option Addr) (n1 c1 : Nat) (f1 : Nat → Nat → Dat) (A2 : Option Addr) (n2 c2 : Nat) (f2 : Nat → Nat → Dat) (A3 : Option Addr) (n3 c3 : Nat) (f3 : Nat → Nat → Dat) (F0 : Nat → Prop) (F1 : Nat → Prop) (F2 : Nat → Prop) (F3 : Nat → Prop) (K : Nat) (z : Int) (w : World) (hz : z = (K : Int)) (h1 : 1 ≤ K) (hcap : K + cnt (.sl n0 1 f0) + cnt (.sl n1 1 f1) + cnt (.sl n2 1 f2) + cnt (.sl n3 1 f3) ≤ 1000000000000) (hm0 : n0 ≤ maxLen) (ht0 : tyInt64S (.sl n0 1 f0)) (ho0 : Own w (.slice A0 n0 c0) (.sl n0 1 f0) F0) (hF0 : ∀ x, F0 x → x < w.heap.size) (hm1 : n1 ≤ maxLen) (ht1 : tyInt64S (.sl n1 1 f1)) (ho1 : Own w (.slice A1 n1 c1) (.sl n1 1 f1) F1) (hF1 : ∀ x, F1 x → x < w.heap.size) (hm2 : n2 ≤ maxLen) (ht2 : tyInt64S (.sl n2 1 f2)) (ho2 : Own w (.slice A2 n2 c2) (.sl n2 1 f2) F2) (hF2 : ∀ x, F2 x → x < w.heap.size) (hm3 : n3 ≤ maxLen) (ht3 : tyInt64S (.sl n3 1 f3)) (ho3 : Own w (.slice A3 n3 c3) (.sl n3 1 f3) F3) (hF3 : ∀ x, F3 x → x < w.heap.size) (hd0_1 : ∀ x, F0 x → F1 x → False) (hd0_2 : ∀ x, F0 x → F2 x → False) (hd0_3 : ∀ x, F0 x → F3 x → False) (hd1_2 : ∀ x, F1 x → F2 x → False) (hd1_3 : ∀ x, F1 x → F3 x → False) (hd2_3 : ∀ x, F2 x → F3 x → False) :
    Calls Try.prog 21 #[.agg #[.slice A0 n0 c0, .slice A1 n1 c1, .slice A2 n2 c2, .slice A3 n3 c3], .int .i64 z] w fun e w' => e = .returned (.int .i64 ((K + cnt (.sl n0 1 f0) + cnt (.sl n1 1 f1) + cnt (.sl n2 1 f2) + cnt (.sl n3 1 f3) : Nat) : Int)) ∧ Own w' (.slice A0 n0 c0) (mark mt (.sl n0 1 f0) (K)) F0 ∧ Own w' (.slice A1 n1 c1) (mark mt (.sl n1 1 f1) (K + cnt (.sl n0 1 f0))) F1 ∧ Own w' (.slice A2 n2 c2) (mark mt (.sl n2 1 f2) (K + cnt (.sl n0 1 f0) + cnt (.sl n1 1 f1))) F2 ∧ Own w' (.slice A3 n3 c3) (mark mt (.sl n3 1 f3) (K + cnt (.sl n0 1 f0) + cnt (.sl n1 1 f1) + cnt (.sl n2 1 f2))) F3 ∧ OnlyF (fun x => F0 x ∨ F1 x ∨ F2 x ∨ F3 x) w w' := by
  subst hz
  have HT0 := Lib.hid ht0
  have HO0 := Lib.hid (ho0.kept (below_alloc1 w (.cells #[.slice A0 n0 c0, .slice A1 n1 c1, .slice A2 n2 c2, .slice A3 n3 c3] 26)))
  have HF0 := Lib.hid hF0
  clear ht0 ho0 hF0
  have HT1 := Lib.hid ht1
  have HO1 := Lib.hid (ho1.kept (below_alloc1 w (.cells #[.slice A0 n0 c0, .slice A1 n1 c1, .slice A2 n2 c2, .slice A3 n3 c3] 26)))
  have HF1 := Lib.hid hF1
  clear ht1 ho1 hF1
  have HT2 := Lib.hid ht2
  have HO2 := Lib.hid (ho2.kept (below_alloc1 w (.cells #[.slice A0 n0 c0, .slice A1 n1 c1, .slice A2 n2 c2, .slice A3 n3 c3] 26)))
  have HF2 := Lib.hid hF2
  clear ht2 ho2 hF2
  have HT3 := Lib.hid ht3
  have HO3 := Lib.hid (ho3.kept (below_alloc1 w (.cells #[.slice A0 n0 c0, .slice A1 n1 c1, .slice A2 n2 c2, .slice A3 n3 c3] 26)))
  have HF3 := Lib.hid hF3
  clear ht3 ho3 hF3
  have HD0_1 := Lib.hid hd0_1
  clear hd0_1
  have HD0_2 := Lib.hid hd0_2
  clear hd0_2
  have HD0_3 := Lib.hid hd0_3
  clear hd0_3
  have HD1_2 := Lib.hid hd1_2
  clear hd1_2
  have HD1_3 := Lib.hid hd1_3
  clear hd1_3
  have HD2_3 := Lib.hid hd2_3
  clear hd2_3
  have hcap' : K + cnt (.sl n0 1 f0) + cnt (.sl n1 1 f1) + cnt (.sl n2 1 f2) + cnt (.sl n3 1 f3) ≤ 1000000000000 := hcap
  have HC := Lib.hid hcap
  clear hcap hcap'
  go_enter Try.func21, Try.ntmps21
  go_wp2_with fail
  refine (markInt64S_calls A0 n0 c0 (K) _ f0 F0 _ (by first | rfl | omega) (by omega) (by have := HC.out; omega) hm0 HT0.out HO0.out).mono ?_
  rintro e w0 ⟨rfl, ho, hw⟩
  have HW0 := Lib.hid hw
  have HX0 := Lib.hid ((OnlyF.of_below (below_alloc1 w (.cells #[.slice A0 n0 c0, .slice A1 n1 c1, .slice A2 n2 c2, .slice A3 n3 c3] 26))).trans (hw.mono (F' := fun x => F0 x ∨ F1 x ∨ F2 x ∨ F3 x) fun x hx => .inl hx))
  have HO0 := Lib.hid ho
  have HO1 := Lib.hid (HO1.out.only hw fun x hx hx' => HD0_1.out x hx' hx)
  have HO2 := Lib.hid (HO2.out.only hw fun x hx hx' => HD0_2.out x hx' hx)
  have HO3 := Lib.hid (HO3.out.only hw fun x hx hx' => HD0_3.out x hx' hx)
  have d0_0 := (hw.cell (p := ⟨w.heap.size, 0, none⟩) (by simp) (fun hx => by have := HF0.out _ hx; simp at this)).trans (show _ = some (.slice A0 n0 c0) by simp)
  have d0_1 := (hw.cell (p := ⟨w.heap.size, 1, none⟩) (by simp) (fun hx => by have := HF0.out _ hx; simp at this)).trans (show _ = some (.slice A1 n1 c1) by simp)
  have d0_2 := (hw.cell (p := ⟨w.heap.size, 2, none⟩) (by simp) (fun hx => by have := HF0.out _ hx; simp at this)).trans (show _ = some (.slice A2 n2 c2) by simp)
  have d0_3 := (hw.cell (p := ⟨w.heap.size, 3, none⟩) (by simp) (fun hx => by have := HF0.out _ hx; simp at this)).trans (show _ = some (.slice A3 n3 c3) by simp)
  have lz0 : w.heap.size < w0.heap.size := by have := hw.size; (try simp at this); omega
  clear ho hw
  go_wp2_with fail
  refine (markInt64S_calls A1 n1 c1 (K + cnt (.sl n0 1 f0)) _ f1 F1 _ (by first | rfl | omega) (by omega) (by have := HC.out; omega) hm1 HT1.out HO1.out).mono ?_
  rintro e w1 ⟨rfl, ho, hw⟩
  have HX1 := Lib.hid (HX0.out.trans (hw.mono (F' := fun x => F0 x ∨ F1 x ∨ F2 x ∨ F3 x) fun x hx => .inr (.inl hx)))
  have HO0 := Lib.hid (HO0.out.only hw fun x hx hx' => HD0_1.out x hx hx')
  have HO1 := Lib.hid ho
  have HO2 := Lib.hid (HO2.out.only hw fun x hx hx' => HD1_2.out x hx' hx)
  have HO3 := Lib.hid (HO3.out.only hw fun x hx hx' => HD1_3.out x hx' hx)
  have d1_0 := (hw.cell (p := ⟨w.heap.size, 0, none⟩) lz0 (fun hx => by have := HF1.out _ hx; simp at this)).trans d0_0
  have d1_1 := (hw.cell (p := ⟨w.heap.size, 1, none⟩) lz0 (fun hx => by have := HF1.out _ hx; simp at this)).trans d0_1
  have d1_2 := (hw.cell (p := ⟨w.heap.size, 2, none⟩) lz0 (fun hx => by have := HF1.out _ hx; simp at this)).trans d0_2
  have d1_3 := (hw.cell (p := ⟨w.heap.size, 3, none⟩) lz0 (fun hx => by have := HF1.out _ hx; simp at this)).trans d0_3
  have lz1 : w.heap.size < w1.heap.size := by have := hw.size; (try simp at this); omega
  clear d0_0 d0_1 d0_2 d0_3
  clear ho hw
  go_wp2_with fail
  refine (markInt64S_calls A2 n2 c2 (K + cnt (.sl n0 1 f0) + cnt (.sl n1 1 f1)) _ f2 F2 _ (by first | rfl | omega) (by omega) (by have := HC.out; omega) hm2 HT2.out HO2.out).mono ?_
  rintro e w2 ⟨rfl, ho, hw⟩
  have HX2 := Lib.hid (HX1.out.trans (hw.mono (F' := fun x => F0 x ∨ F1 x ∨ F2 x ∨ F3 x) fun x hx => .inr (.inr (.inl hx))))
  have HO0 := Lib.hid (HO0.out.only hw fun x hx hx' => HD0_2.out x hx hx')
  have HO1 := Lib.hid (HO1.out.only hw fun x hx hx' => HD1_2.out x hx hx')
  have HO2 := Lib.hid ho
  have HO3 := Lib.hid (HO3.out.only hw fun x hx hx' => HD2_3.out x hx' hx)
  have d2_0 := (hw.cell (p := ⟨w.heap.size, 0, none⟩) lz1 (fun hx => by have := HF2.out _ hx; simp at this)).trans d1_0
  have d2_1 := (hw.cell (p := ⟨w.heap.size, 1, none⟩) lz1 (fun hx => by have := HF2.out _ hx; simp at this)).trans d1_1
  have d2_2 := (hw.cell (p := ⟨w.heap.size, 2, none⟩) lz1 (fun hx => by have := HF2.out _ hx; simp at this)).trans d1_2
  have d2_3 := (hw.cell (p := ⟨w.heap.size, 3, none⟩) lz1 (fun hx => by have := HF2.out _ hx; simp at this)).trans d1_3
  have lz2 : w.heap.size < w2.heap.size := by have := hw.size; (try simp at this); omega
  clear d1_0 d1_1 d1_2 d1_3
  clear ho hw
  go_wp2_with fail
  refine (markInt64S_calls A3 n3 c3 (K + cnt (.sl n0 1 f0) + cnt (.sl n1 1 f1) + cnt (.sl n2 1 f2)) _ f3 F3 _ (by first | rfl | omega) (by omega) (by have := HC.out; omega) hm3 HT3.out HO3.out).mono ?_
  rintro e w3 ⟨rfl, ho, hw⟩
  have HX3 := Lib.hid (HX2.out.trans (hw.mono (F' := fun x => F0 x ∨ F1 x ∨ F2 x ∨ F3 x) fun x hx => .inr (.inr (.inr hx))))
  have HO0 := Lib.hid (HO0.out.only hw fun x hx hx' => HD0_3.out x hx hx')
  have HO1 := Lib.hid (HO1.out.only hw fun x hx hx' => HD1_3.out x hx hx')
  have HO2 := Lib.hid (HO2.out.only hw fun x hx hx' => HD2_3.out x hx hx')
  have HO3 := Lib.hid ho
  have d3_0 := (hw.cell (p := ⟨w.heap.size, 0, none⟩) lz2 (fun hx => by have := HF3.out _ hx; simp at this)).trans d2_0
  have d3_1 := (hw.cell (p := ⟨w.heap.size, 1, none⟩) lz2 (fun hx => by have := HF3.out _ hx; simp at this)).trans d2_1
  have d3_2 := (hw.cell (p := ⟨w.heap.size, 2, none⟩) lz2 (fun hx => by have := HF3.out _ hx; simp at this)).trans d2_2
  have d3_3 := (hw.cell (p := ⟨w.heap.size, 3, none⟩) lz2 (fun hx => by have := HF3.out _ hx; simp at this)).trans d2_3
  have lz3 : w.heap.size < w3.heap.size := by have := hw.size; (try simp at this); omega
  clear d2_0 d2_1 d2_2 d2_3
  clear ho hw
  go_wp2
  go_ret
  exact ⟨ret_int (by omega), HO0.out, HO1.out, HO2.out, HO3.out, HX3.out⟩

end Go.Proofs.Ythpmckfjlbiiiaa.core
