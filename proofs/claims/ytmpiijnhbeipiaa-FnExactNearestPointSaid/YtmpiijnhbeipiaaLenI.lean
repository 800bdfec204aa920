/-
  Proved: what the program's function that tells a stroke's length returns.
  Conditions: the points are in their range, and no more than 60.
-/
import Derived.Test.YtmpiijnhbeipiaaSegs
namespace Go.Proofs.Ytmpiijnhbeipiaa.lenI
open Go.ChangeShapes Go.WideShapes Go.ChangeAt Go.RowKit Go.Joins
open Go.Proofs.Ytmpiijnhbeipiaa.core Go.Proofs.Ytmpiijnhbeipiaa.geoM Go.Proofs.Ytmpiijnhbeipiaa.stk Go.Proofs.Ytmpiijnhbeipiaa.seg Go.Proofs.Ytmpiijnhbeipiaa.side Go.Proofs.Ytmpiijnhbeipiaa.all Go.Proofs.Ytmpiijnhbeipiaa.lenS Go.Proofs.Ytmpiijnhbeipiaa.segs
set_option linter.unusedVariables false
set_option linter.unusedSimpArgs false

set_option maxRecDepth 100000 in
set_option maxHeartbeats 2000000 in
theorem length_calls {c : Nat} (A : Option Addr) (n : Nat) (pts : Nat → P3) (w : World) (h1 : 1 ≤ n) (h60 : n ≤ 60) (hr : ∀ i, i < n → Rg (pts i)) (hp : PtsAt w A n pts) :
    Calls Try.prog 54 #[.agg #[.slice A n c]] w fun e w' => e = .returned (.int .i64 (lens pts (n - 1) : Nat)) ∧ Below w.heap.size w w' := by
  have B0 := Lib.hid (below_alloc1 w (.cells #[.slice A n c] 38))
  have HS := Lib.hid (segs_calls (c := c) A n pts (w.alloc (.cells #[.slice A n c] 38)) h1 h60 (hp.kept B0.out))
  have HR := Lib.hid hr
  have HLE := Lib.hid (lens_le hr)
  obtain ⟨m, hm⟩ : ∃ m, n - 1 = m := ⟨_, rfl⟩
  have hm59 : m ≤ 59 := by omega
  have HM := Lib.hid (show n = m + 1 by omega)
  rw [hm] at HS ⊢
  clear hp hr hm h1 h60
  go_enter Try.func54, Try.ntmps54
  go_wp2_with fail
  refine HS.out.mono ?_
  rintro e w1 ⟨B, d, rfl, hsg, hb⟩
  have B1 := Lib.hid (B0.out.trans (hb.mono B0.out.size))
  have HG := Lib.hid hsg
  clear hsg hb HS
  go_wp2
  go_loopw [3, 9] (fun s i w' => ∃ k : Nat, k ≤ m ∧ i = .int .i64 (k : Int) ∧ s = .int .i64 (lens pts k : Nat) ∧ Hid (Below w1.heap.size w1 w')) (fun _ i _ => m - (intOf i).toNat)
  case atStart => exact ⟨0, Nat.zero_le _, rfl, rfl, Lib.hid (Below.refl _ _)⟩
  case round =>
    obtain ⟨k, hk, rfl, rfl, HB⟩ := hrel
    by_cases hlt : k < m
    · obtain ⟨g, rfl, hg, c0, c1, c2, c3, c4, c5⟩ := (HG.out.kept HB.out) k hlt
      have hli : (k : Int) < (m : Int) := by omega
      have HL := Lib.hid (fun W => side.length_calls (pts k) (pts (k + 1)) (HR.out k (by have := HM.out; omega)) (HR.out (k + 1) (by have := HM.out; omega)) W)
      have HSU := Lib.hid (lens_succ pts k)
      have hle := HLE.out k (by have := HM.out; omega)
      have hll := len_le (HR.out k (by have := HM.out; omega)) (HR.out (k + 1) (by have := HM.out; omega))
      generalize lens pts k = S at *
      generalize len (pts k) (pts (k + 1)) = L at *
      obtain ⟨p, hpk⟩ : ∃ p, pts k = p := ⟨_, rfl⟩
      obtain ⟨q, hqk⟩ : ∃ q, pts (k + 1) = q := ⟨_, rfl⟩
      rw [hpk] at c0 c1 c2 HL
      rw [hqk] at c3 c4 c5 HL
      clear hpk hqk
      go_wp2_with fail
      with_reducible refine (HL.out _).mono ?_
      rintro e w2 ⟨rfl, hb2⟩
      have HB2 := Lib.hid (HB.out.trans (((below_alloc1 wr _).trans (hb2.mono (below_alloc1 wr _).size)).mono HB.out.size))
      clear hb2 c0 c1 c2 c3 c4 c5 HL
      go_wp2
      go_roundw
      case rel => exact ⟨k + 1, by omega, by go_num, by rw [HSU.out]; go_num, HB2⟩
      case measure => simp [intOf]; omega
    · obtain rfl : m = k := by omega
      go_wp2
      go_ret
      exact ⟨rfl, B1.out.trans (HB.out.mono B1.out.size)⟩

theorem le_cost (n k : Nat) (f : Nat → Nat → Dat) : n ≤ cost (.sl n k f) := by
  simp only [cost]
  omega
/-- The points of a stroke that is read out of memory. -/
def strN (g : Nat → Dat) : Nat := dLen (g 0)
def strP (g : Nat → Dat) : Nat → P3 := fun i => (dInt (dFun (g 0) i 0), dInt (dFun (g 0) i 1), dInt (dFun (g 0) i 2))
theorem reads_str {W : World} {us : Nat → Value} {g : Nat → Dat} (h : ReadsRec W 1 us g) (ht : tyrStroke g) (hq : costRec 1 g ≤ 1048576) :
    ∃ A c, (.agg #[us 0] : Value) = .agg #[.slice A (strN g) c] ∧ strN g ≤ 1048576 ∧ PtsAt W A (strN g) (strP g) := by
  have ht' := ht
  obtain ⟨n, f, hg, hf⟩ := ht
  have h0 := h 0 (by omega)
  rw [hg] at h0
  obtain ⟨A, c, hv, hn, hR⟩ := h0.sl_inv
  have hT : tyPointS (.sl n 3 f) := ⟨n, f, rfl, hf⟩
  have e1 : strN g = n := by simp [strN, hg, dLen]
  have hc := le_cost n 3 f
  have hq' : cost (.sl n 3 f) ≤ 1048576 := by
    have e : costRec 1 g = cost (.sl n 3 f) := by simp [costRec, sumTo, hg]
    rw [← e]; exact hq
  refine ⟨A, c, by rw [hv, e1], by omega, fun i hi => ?_⟩
  rw [e1] at hi
  obtain ⟨b, o, e, hb, ⟨c0, -⟩, ⟨c1, -⟩, ⟨c2, -⟩⟩ := viewPointS hR hT i hi
  refine ⟨b, o, e, hb, ?_, ?_, ?_⟩
  · rw [c0]; simp [strP, hg, dFun]
  · rw [c1]; simp [strP, hg, dFun]
  · rw [c2]; simp [strP, hg, dFun]
theorem vS_rg {n : Nat} {pts : Nat → P3} (h : vS n pts = true) : ∀ i, i < n → Rg (pts i) := fun i hi => inP_rg (p := pts i) ((vS_of h).2.2 i hi).1
end Go.Proofs.Ytmpiijnhbeipiaa.lenI
