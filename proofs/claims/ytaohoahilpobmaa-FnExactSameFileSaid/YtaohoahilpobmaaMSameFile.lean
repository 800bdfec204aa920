/-
  Proved: both functions that compare files answer alike (contracts of the exact laws of chapter 3).
  Conditions: the files are read out of memory.
-/
import Derived.Test.YtaohoahilpobmaaSameC
namespace Go.Proofs.Ytaohoahilpobmaa.wSameFile
open Go.ChangeShapes Go.WideShapes Go.ChangeAt Go.RowKit Go.Joins
open Go.Proofs.Ytaohoahilpobmaa.core Go.Proofs.Ytaohoahilpobmaa.names Go.Proofs.Ytaohoahilpobmaa.fileS Go.Proofs.Ytaohoahilpobmaa.same
set_option linter.unusedVariables false
set_option linter.unusedSimpArgs false


/-- Whether both records are the same file. -/
noncomputable def sF (g h : Nat → Dat) : Bool := tf (SameP (dLen (g 0)) (dFun (g 0)) (dLen (g 1)) (dFun (g 1)) (dLen (g 2)) (dFun (g 2)) (dLen (h 0)) (dFun (h 0)) (dLen (h 1)) (dFun (h 1)) (dLen (h 2)) (dFun (h 2)))
abbrev bxs (w : World) (A0 A1 A2 B0 B1 B2 : Option Addr) (n0 c0 n1 c1 n2 c2 m0 d0 m1 d1 m2 d2 : Nat) : World := (w.alloc (.cells #[.slice A0 n0 c0, .slice A1 n1 c1, .slice A2 n2 c2] 33)).alloc (.cells #[.slice B0 m0 d0, .slice B1 m1 d1, .slice B2 m2 d2] 33)

set_option maxRecDepth 100000 in
set_option maxHeartbeats 4000000 in
theorem spec_calls (us vs : Nat → Value) (g h : Nat → Dat) (w : World) (hr : ReadsRec w 3 us g) (hs : ReadsRec w 3 vs h) (ht : tyrFile g) (hu : tyrFile h) :
    Calls Try.prog 17 #[.agg #[us 0, us 1, us 2], .agg #[vs 0, vs 1, vs 2]] w fun e w' => e = .returned (.bool (sF g h)) ∧ Below w.heap.size w w' := by
  obtain ⟨⟨A0, c0, e0, h0, r0, t0⟩, ⟨A1, c1, e1, h1, r1, t1⟩, ⟨A2, c2, e2, h2, r2, t2⟩⟩ := recFile hr ht
  obtain ⟨⟨B0, d0, a0, k0, s0, u0⟩, ⟨B1, d1, a1, k1, s1, u1⟩, ⟨B2, d2, a2, k2, s2, u2⟩⟩ := recFile hs hu
  rw [e0, e1, e2, a0, a1, a2]
  unfold sF
  clear hr hs e0 e1 e2 a0 a1 a2 ht hu
  generalize dLen (g 0) = n0 at *
  generalize dLen (g 1) = n1 at *
  generalize dLen (g 2) = n2 at *
  generalize dFun (g 0) = f0 at *
  generalize dFun (g 1) = f1 at *
  generalize dFun (g 2) = f2 at *
  generalize dLen (h 0) = m0 at *
  generalize dLen (h 1) = m1 at *
  generalize dLen (h 2) = m2 at *
  generalize dFun (h 0) = g0 at *
  generalize dFun (h 1) = g1 at *
  generalize dFun (h 2) = g2 at *
  have BL := Lib.hid (below_alloc2 w (.cells #[.slice A0 n0 c0, .slice A1 n1 c1, .slice A2 n2 c2] 33) (.cells #[.slice B0 m0 d0, .slice B1 m1 d1, .slice B2 m2 d2] 33))
  obtain ⟨x0, x1, xz⟩ := box2 (Below.refl _ (bxs w A0 A1 A2 B0 B1 B2 n0 c0 n1 c1 n2 c2 m0 d0 m1 d1 m2 d2))
  have HH : Calls Try.prog 63 #[.pointer (some ⟨w.heap.size, 0, none⟩), .pointer (some ⟨w.heap.size + 1, 0, none⟩)] (bxs w A0 A1 A2 B0 B1 B2 n0 c0 n1 c1 n2 c2 m0 d0 m1 d1 m2 d2) fun e w' => e = .returned (.bool (tf (SameP n0 f0 n1 f1 n2 f2 m0 g0 m1 g1 m2 g2))) ∧ Below (bxs w A0 A1 A2 B0 B1 B2 n0 c0 n1 c1 n2 c2 m0 d0 m1 d1 m2 d2).heap.size (bxs w A0 A1 A2 B0 B1 B2 n0 c0 n1 c1 n2 c2 m0 d0 m1 d1 m2 d2) w' := by
    by_cases hd : n0 = m0 ∧ n1 = m1 ∧ n2 = m2
    · obtain ⟨rfl, rfl, rfl⟩ := hd
      exact sameL_calls w.heap.size 0 (w.heap.size + 1) 0 A0 A1 A2 B0 B1 B2 n0 c0 n1 c1 n2 c2 d0 d1 d2 f0 f1 f2 g0 g1 g2 _ (by simp; omega) (by simp) h0 h1 h2 (by rw [x0]; rfl) (by rw [x0]; rfl) (by rw [x0]; rfl) (by rw [x1]; rfl) (by rw [x1]; rfl) (by rw [x1]; rfl) (r0.below BL.out) t0 (r1.below BL.out) t1 (r2.below BL.out) t2 (s0.below BL.out) u0 (s1.below BL.out) u1 (s2.below BL.out) u2
    · rw [tf_f (P := SameP n0 f0 n1 f1 n2 f2 m0 g0 m1 g1 m2 g2) fun h => hd ⟨h.1.1, h.2.1.1, h.2.2.1⟩]
      exact sameL_diff w.heap.size 0 (w.heap.size + 1) 0 A0 A1 A2 B0 B1 B2 n0 c0 n1 c1 n2 c2 m0 d0 m1 d1 m2 d2 _ (by simp; omega) (by simp) h0 h1 h2 k0 k1 k2 (by rw [x0]; rfl) (by rw [x0]; rfl) (by rw [x0]; rfl) (by rw [x1]; rfl) (by rw [x1]; rfl) (by rw [x1]; rfl) hd
  have HH := Lib.hid HH
  clear x0 x1 xz
  clear r0 r1 r2 t0 t1 t2 s0 s1 s2 u0 u1 u2 h0 h1 h2 k0 k1 k2
  go_enter Try.func17, Try.ntmps17
  go_wp2_with fail
  refine HH.out.mono ?_
  rintro e w1 ⟨rfl, hb⟩
  have HB := Lib.hid (BL.out.trans (hb.mono BL.out.size))
  clear hb
  go_wp2
  go_ret
  exact ⟨rfl, HB.out⟩

set_option maxRecDepth 100000 in
set_option maxHeartbeats 8000000 in
theorem impl_calls (us vs : Nat → Value) (g h : Nat → Dat) (w : World) (hr : ReadsRec w 3 us g) (hs : ReadsRec w 3 vs h) (ht : tyrFile g) (hu : tyrFile h) :
    Calls Try.prog 18 #[.agg #[us 0, us 1, us 2], .agg #[vs 0, vs 1, vs 2]] w fun e w' => e = .returned (.bool (sF g h)) ∧ Below w.heap.size w w' := by
  obtain ⟨⟨A0, c0, e0, h0, r0, t0⟩, ⟨A1, c1, e1, h1, r1, t1⟩, ⟨A2, c2, e2, h2, r2, t2⟩⟩ := recFile hr ht
  obtain ⟨⟨B0, d0, a0, k0, s0, u0⟩, ⟨B1, d1, a1, k1, s1, u1⟩, ⟨B2, d2, a2, k2, s2, u2⟩⟩ := recFile hs hu
  rw [e0, e1, e2, a0, a1, a2]
  unfold sF
  clear hr hs e0 e1 e2 a0 a1 a2 ht hu
  generalize dLen (g 0) = n0 at *
  generalize dLen (g 1) = n1 at *
  generalize dLen (g 2) = n2 at *
  generalize dFun (g 0) = f0 at *
  generalize dFun (g 1) = f1 at *
  generalize dFun (g 2) = f2 at *
  generalize dLen (h 0) = m0 at *
  generalize dLen (h 1) = m1 at *
  generalize dLen (h 2) = m2 at *
  generalize dFun (h 0) = g0 at *
  generalize dFun (h 1) = g1 at *
  generalize dFun (h 2) = g2 at *
  have BL := Lib.hid (below_alloc2 w (.cells #[.slice A0 n0 c0, .slice A1 n1 c1, .slice A2 n2 c2] 33) (.cells #[.slice B0 m0 d0, .slice B1 m1 d1, .slice B2 m2 d2] 33))
  have K1 := Lib.hid (fun (W : World) (hB : Below w.heap.size w W) (v : Bool) => chansI_calls A0 B0 n0 c0 m0 d0 f0 g0 W h0 k0 (r0.below hB) t0 (s0.below hB) u0 v)
  have K2 := Lib.hid (fun (W : World) (hB : Below w.heap.size w W) (v : Bool) => strsI_calls A1 B1 n1 c1 m1 d1 f1 g1 W h1 k1 (r1.below hB) t1 (s1.below hB) u1 v)
  have K3 := Lib.hid (fun (W : World) (hB : Below w.heap.size w W) (v : Bool) => notesI_calls A2 B2 n2 c2 m2 d2 f2 g2 W h2 k2 (r2.below hB) t2 (s2.below hB) u2 v)
  clear r0 r1 r2 t0 t1 t2 s0 s1 s2 u0 u1 u2 h0 h1 h2 k0 k1 k2
  have HF : tf (SameP n0 f0 n1 f1 n2 f2 m0 g0 m1 g1 m2 g2) = (tf (ChansEq n0 f0 m0 g0) && tf (StrsEq n1 f1 m1 g1) && tf (NotesEq n2 f2 m2 g2)) := by
    rw [Bool.eq_iff_iff, tf_iff]
    simp only [Bool.and_eq_true, tf_iff]
    exact ⟨fun ⟨a, b, c⟩ => ⟨⟨a, b⟩, c⟩, fun ⟨⟨a, b⟩, c⟩ => ⟨a, b, c⟩⟩
  rw [HF]
  clear HF
  generalize tf (ChansEq n0 f0 m0 g0) = b1 at *
  generalize tf (StrsEq n1 f1 m1 g1) = b2 at *
  generalize tf (NotesEq n2 f2 m2 g2) = b3 at *
  have C0 : ∀ W, Below (bxs w A0 A1 A2 B0 B1 B2 n0 c0 n1 c1 n2 c2 m0 d0 m1 d1 m2 d2).heap.size (bxs w A0 A1 A2 B0 B1 B2 n0 c0 n1 c1 n2 c2 m0 d0 m1 d1 m2 d2) W →
      W.cell? ⟨w.heap.size, 1, none⟩ = some (.slice A1 n1 c1) ∧ W.cell? ⟨w.heap.size, 2, none⟩ = some (.slice A2 n2 c2) ∧ W.cell? ⟨w.heap.size + 1, 1, none⟩ = some (.slice B1 m1 d1) ∧ W.cell? ⟨w.heap.size + 1, 2, none⟩ = some (.slice B2 m2 d2) ∧ w.heap.size + 1 < W.heap.size := fun W hB => by
    obtain ⟨y0, y1, yz⟩ := box2 hB
    exact ⟨by rw [y0]; rfl, by rw [y0]; rfl, by rw [y1]; rfl, by rw [y1]; rfl, yz⟩
  have HC0 := Lib.hid C0
  clear C0
  cases b1
  · go_enter Try.func18, Try.ntmps18
    go_wp2_with fail
    refine (K1.out _ BL.out false rfl).mono ?_
    rintro e w1 ⟨rfl, hb⟩
    have HB := Lib.hid (BL.out.trans (hb.mono BL.out.size))
    clear hb
    go_wp2
    go_ret
    exact ⟨rfl, HB.out⟩
  · cases b2
    · go_enter Try.func18, Try.ntmps18
      go_wp2_with fail
      refine (K1.out _ BL.out true rfl).mono ?_
      rintro e w1 ⟨rfl, hb⟩
      have HB := Lib.hid (BL.out.trans (hb.mono BL.out.size))
      obtain ⟨x1, x2, x3, x4, lz⟩ := HC0.out _ hb
      clear hb
      go_wp2_with fail
      refine (K2.out _ HB.out false rfl).mono ?_
      rintro e w2 ⟨rfl, hb⟩
      have HB2 := Lib.hid (HB.out.trans (hb.mono HB.out.size))
      clear hb x1 x2 x3 x4 lz
      go_wp2
      go_ret
      exact ⟨rfl, HB2.out⟩
    · go_enter Try.func18, Try.ntmps18
      go_wp2_with fail
      refine (K1.out _ BL.out true rfl).mono ?_
      rintro e w1 ⟨rfl, hb⟩
      have HB := Lib.hid (BL.out.trans (hb.mono BL.out.size))
      obtain ⟨x1, x2, x3, x4, lz⟩ := HC0.out _ hb
      have HB0 := Lib.hid hb
      clear hb
      go_wp2_with fail
      refine (K2.out _ HB.out true rfl).mono ?_
      rintro e w2 ⟨rfl, hb⟩
      have HB2 := Lib.hid (HB.out.trans (hb.mono HB.out.size))
      clear x1 x2 x3 x4 lz
      obtain ⟨x1, x2, x3, x4, lz⟩ := HC0.out _ (HB0.out.trans (hb.mono HB0.out.size))
      clear hb
      go_wp2_with fail
      refine (K3.out _ HB2.out b3 rfl).mono ?_
      rintro e w3 ⟨rfl, hb⟩
      have HB3 := Lib.hid (HB2.out.trans (hb.mono HB2.out.size))
      clear hb x1 x2 x3 x4 lz
      go_wp2
      go_ret
      exact ⟨ret_bool (by simp), HB3.out⟩

theorem meat (vs0 : Nat → Value) (g0 : Nat → Dat) (vs1 : Nat → Value) (g1 : Nat → Dat) (ht0 : tyrFile g0) (ht1 : tyrFile g1) :
    costRec 3 g0 ≤ 1048576 → costRec 3 g1 ≤ 1048576 → ∃ (r0 : Bool), (∀ (W : World) (us0 : Nat → Value) (us1 : Nat → Value), ReadsRec W 3 us0 g0 → ReadsRec W 3 us1 g1 → Calls Try.prog 17 #[.agg #[us0 0, us0 1, us0 2], .agg #[us1 0, us1 1, us1 2]] W fun e W' => e = .returned (.bool r0) ∧ Below W.heap.size W W') ∧ (∀ (W : World) (us0 : Nat → Value) (us1 : Nat → Value), ReadsRec W 3 us0 g0 → ReadsRec W 3 us1 g1 → Calls Try.prog 18 #[.agg #[us0 0, us0 1, us0 2], .agg #[us1 0, us1 1, us1 2]] W fun e W' => e = .returned (.bool r0) ∧ Below W.heap.size W W') :=
  fun _ _ => ⟨sF g0 g1, fun W us vs h k => spec_calls us vs g0 g1 W h k ht0 ht1, fun W us vs h k => impl_calls us vs g0 g1 W h k ht0 ht1⟩
end Go.Proofs.Ytaohoahilpobmaa.wSameFile
