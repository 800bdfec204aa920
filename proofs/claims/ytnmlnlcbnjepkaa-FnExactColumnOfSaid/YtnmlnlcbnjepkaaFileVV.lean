/-
  Proved: both functions that ask whether a file is valid answer alike (a contract of the exact laws of chapter 3).
  Conditions: the file is read out of memory.
-/
import Derived.Test.YtnmlnlcbnjepkaaFileV
namespace Go.Proofs.Ytnmlnlcbnjepkaa.fileI
open Go.ChangeShapes Go.WideShapes Go.ChangeAt Go.RowKit Go.Joins Go.WideMaps Go.Maps
open Go.Proofs.Ytnmlnlcbnjepkaa.core Go.Proofs.Ytnmlnlcbnjepkaa.names Go.Proofs.Ytnmlnlcbnjepkaa.fileS
set_option linter.unusedVariables false
set_option linter.unusedSimpArgs false

/-- Whether the record is a valid file. -/
noncomputable def vF (g : Nat → Dat) : Bool := tf (FileP (dLen (g 0)) (dFun (g 0)) (dLen (g 1)) (dFun (g 1)) (dLen (g 2)) (dFun (g 2)))

set_option maxRecDepth 100000 in
set_option maxHeartbeats 8000000 in
theorem validI_calls (us : Nat → Value) (g : Nat → Dat) (w : World) (hr : ReadsRec w 3 us g) (ht : tyrFile g) :
    Calls Try.prog 67 #[.agg #[us 0, us 1, us 2]] w fun e w' => e = .returned (.bool (vF g)) ∧ Below w.heap.size w w' := by
  obtain ⟨⟨A0, c0, e0, h0, r0, t0⟩, ⟨A1, c1, e1, h1, r1, t1⟩, ⟨A2, c2, e2, h2, r2, t2⟩⟩ := recFile hr ht
  rw [e0, e1, e2]
  unfold vF
  clear hr e0 e1 e2 ht
  generalize dLen (g 0) = n at *
  generalize dLen (g 1) = ns at *
  generalize dLen (g 2) = nn at *
  generalize dFun (g 0) = fc at *
  generalize dFun (g 1) = fs at *
  generalize dFun (g 2) = fn at *
  have BL := Lib.hid (below_alloc1 w (.cells #[.slice A0 n c0, .slice A1 ns c1, .slice A2 nn c2] 35))
  have R0 := Lib.hid r0
  have R1 := Lib.hid r1
  have R2 := Lib.hid r2
  have T0 := Lib.hid t0
  have T1 := Lib.hid t1
  have T2 := Lib.hid t2
  clear r0 r1 r2 t0 t1 t2
  have HF : tf (FileP n fc ns fs nn fn) = (tf (VChP n fc) && decide (ns ≤ 16) && tf (StrsP n fc fs ns) && decide (nn ≤ 12) && tf (NotesP ns fn nn)) := by
    rw [Bool.eq_iff_iff, tf_iff]
    simp only [Bool.and_eq_true, tf_iff, decide_eq_true_eq]
    exact ⟨fun ⟨a, b, c, d, e, f⟩ => ⟨⟨⟨⟨⟨d, a⟩, e⟩, b⟩, f⟩, c⟩, fun ⟨⟨⟨⟨⟨d, a⟩, e⟩, b⟩, f⟩, c⟩ => ⟨a, b, c, d, e, f⟩⟩
  rw [HF]
  clear HF
  have i1 : ns ≤ 9223372036854775807 := by unfold maxLen at h1; omega
  have i2 : nn ≤ 9223372036854775807 := by unfold maxLen at h2; omega
  have K1 := Lib.hid (fun (W : World) (hB : Below w.heap.size w W) => validChannels_calls A0 n c0 fc W h0 (R0.out.below hB) T0.out)
  have K2 := Lib.hid (fun (W : World) (hB : Below w.heap.size w W) => containsRows_calls A0 n c0 (.slice A1 ns c1) (.slice A2 nn c2) fc A1 ns c1 fs W h0 h1 (R0.out.below hB) T0.out (R1.out.below hB) T1.out)
  have K3 := Lib.hid (fun (W : World) (hB : Below w.heap.size w W) => containsNotes_calls (.slice A0 n c0) (.slice A2 nn c2) A1 ns c1 A2 nn c2 fn W h1 h2 (R2.out.below hB) T2.out)
  clear R0 R1 R2 T0 T1 T2 h0 h1 h2
  generalize tf (VChP n fc) = b1 at *
  generalize tf (StrsP n fc fs ns) = b2 at *
  generalize tf (NotesP ns fn nn) = b3 at *
  have C0 : ∀ W, Below (w.alloc (.cells #[.slice A0 n c0, .slice A1 ns c1, .slice A2 nn c2] 35)).heap.size (w.alloc (.cells #[.slice A0 n c0, .slice A1 ns c1, .slice A2 nn c2] 35)) W →
      W.cell? ⟨w.heap.size, 0, none⟩ = some (.slice A0 n c0) ∧ W.cell? ⟨w.heap.size, 1, none⟩ = some (.slice A1 ns c1) ∧ W.cell? ⟨w.heap.size, 2, none⟩ = some (.slice A2 nn c2) ∧ w.heap.size < W.heap.size := fun W hB => by
    have z := hB.size
    simp at z
    exact ⟨(hB.cell (p := ⟨w.heap.size, 0, none⟩) (by simp)).trans (by simp), (hB.cell (p := ⟨w.heap.size, 1, none⟩) (by simp)).trans (by simp), (hB.cell (p := ⟨w.heap.size, 2, none⟩) (by simp)).trans (by simp), by omega⟩
  have HC0 := Lib.hid C0
  clear C0
  cases b1
  · go_enter Try.func67, Try.ntmps67
    go_wp2_with fail
    refine (K1.out _ BL.out).mono ?_
    rintro e w1 ⟨rfl, hb⟩
    have HB := Lib.hid (BL.out.trans (hb.mono BL.out.size))
    clear hb
    go_wp2
    go_ret
    exact ⟨rfl, HB.out⟩
  · by_cases g1 : ns ≤ 16
    · have e1 : decide (ns ≤ 16) = true := decide_eq_true g1
      have j1 : decide ((ns : Int) ≤ 16) = true := decide_eq_true (by omega)
      rw [e1]
      clear e1 g1
      cases b2
      · go_enter Try.func67, Try.ntmps67
        go_wp2_with fail
        refine (K1.out _ BL.out).mono ?_
        rintro e w1 ⟨rfl, hb⟩
        have HB := Lib.hid (BL.out.trans (hb.mono BL.out.size))
        obtain ⟨d0, d1, d2, lz⟩ := HC0.out _ hb
        clear hb
        go_wp2_with fail
        refine (K2.out _ HB.out).mono ?_
        rintro e w2 ⟨rfl, hb⟩
        have HB2 := Lib.hid (HB.out.trans (hb.mono HB.out.size))
        clear hb d0 d1 d2 lz
        go_wp2
        go_ret
        exact ⟨rfl, HB2.out⟩
      · by_cases g2 : nn ≤ 12
        · have e2 : decide (nn ≤ 12) = true := decide_eq_true g2
          have j2 : decide ((nn : Int) ≤ 12) = true := decide_eq_true (by omega)
          rw [e2]
          clear e2 g2
          go_enter Try.func67, Try.ntmps67
          go_wp2_with fail
          refine (K1.out _ BL.out).mono ?_
          rintro e w1 ⟨rfl, hb⟩
          have HB := Lib.hid (BL.out.trans (hb.mono BL.out.size))
          obtain ⟨d0, d1, d2, lz⟩ := HC0.out _ hb
          have HB0 := Lib.hid hb
          clear hb
          go_wp2_with fail
          refine (K2.out _ HB.out).mono ?_
          rintro e w2 ⟨rfl, hb⟩
          have HB2 := Lib.hid (HB.out.trans (hb.mono HB.out.size))
          clear d0 d1 d2 lz
          obtain ⟨d0, d1, d2, lz⟩ := HC0.out _ (HB0.out.trans (hb.mono HB0.out.size))
          clear hb
          go_wp2_with fail
          refine (K3.out _ HB2.out).mono ?_
          rintro e w3 ⟨rfl, hb⟩
          have HB3 := Lib.hid (HB2.out.trans (hb.mono HB2.out.size))
          clear hb d0 d1 d2 lz
          go_wp2
          go_ret
          exact ⟨ret_bool (by simp), HB3.out⟩
        · have e2 : decide (nn ≤ 12) = false := decide_eq_false g2
          have j2 : decide ((nn : Int) ≤ 12) = false := decide_eq_false (by omega)
          rw [e2]
          clear e2 g2
          go_enter Try.func67, Try.ntmps67
          go_wp2_with fail
          refine (K1.out _ BL.out).mono ?_
          rintro e w1 ⟨rfl, hb⟩
          have HB := Lib.hid (BL.out.trans (hb.mono BL.out.size))
          obtain ⟨d0, d1, d2, lz⟩ := HC0.out _ hb
          have HB0 := Lib.hid hb
          clear hb
          go_wp2_with fail
          refine (K2.out _ HB.out).mono ?_
          rintro e w2 ⟨rfl, hb⟩
          have HB2 := Lib.hid (HB.out.trans (hb.mono HB.out.size))
          clear d0 d1 d2 lz
          obtain ⟨d0, d1, d2, lz⟩ := HC0.out _ (HB0.out.trans (hb.mono HB0.out.size))
          clear hb
          go_wp2
          go_ret
          exact ⟨rfl, HB2.out⟩
    · have e1 : decide (ns ≤ 16) = false := decide_eq_false g1
      have j1 : decide ((ns : Int) ≤ 16) = false := decide_eq_false (by omega)
      rw [e1]
      clear e1 g1
      go_enter Try.func67, Try.ntmps67
      go_wp2_with fail
      refine (K1.out _ BL.out).mono ?_
      rintro e w1 ⟨rfl, hb⟩
      have HB := Lib.hid (BL.out.trans (hb.mono BL.out.size))
      obtain ⟨d0, d1, d2, lz⟩ := HC0.out _ hb
      clear hb
      go_wp2
      go_ret
      exact ⟨rfl, HB.out⟩
end Go.Proofs.Ytnmlnlcbnjepkaa.fileI
