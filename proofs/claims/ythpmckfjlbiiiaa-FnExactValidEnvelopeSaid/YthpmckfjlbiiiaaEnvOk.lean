/-
  Proved: what the document's functions that test an envelope, and that tell how far a list is outside of it, return.
  Conditions: none.
-/
import Derived.Test.YthpmckfjlbiiiaaBndS
namespace Go.Proofs.Ythpmckfjlbiiiaa.env
open Go.ChangeShapes Go.WideShapes Go.ChangeAt Go.RowKit Go.Joins
open Go.Proofs.Ythpmckfjlbiiiaa.core Go.Proofs.Ythpmckfjlbiiiaa.rown Go.Proofs.Ythpmckfjlbiiiaa.stk Go.Proofs.Ythpmckfjlbiiiaa.boxed Go.Proofs.Ythpmckfjlbiiiaa.ft Go.Proofs.Ythpmckfjlbiiiaa.seq
set_option linter.unusedVariables false
set_option linter.unusedSimpArgs false
/-- The four lists of an envelope: where they lie, how long they are, what room they have. -/
def envV (ea : Nat → Option Addr) (en ec : Nat → Nat) (k : Nat) : Value := .slice (ea k) (en k) (ec k)
/-- An envelope in block B. -/
structure EnvAt (w : World) (B : Nat) (ea : Nat → Option Addr) (en ec : Nat → Nat) (eg : Nat → Nat → Int) : Prop where
  lt : B < w.heap.size
  cells : ∀ k, k < 4 → w.cell? ⟨B, k, none⟩ = some (.slice (ea k) (en k) (ec k))
  nums : ∀ k, k < 4 → NumAt w (ea k) (en k) (eg k)
theorem EnvAt.kept {w w' : World} {B : Nat} {ea : Nat → Option Addr} {en ec : Nat → Nat} {eg : Nat → Nat → Int} (h : EnvAt w B ea en ec eg) (hb : Below w.heap.size w w') : EnvAt w' B ea en ec eg :=
  ⟨Nat.lt_of_lt_of_le h.lt hb.size, fun k hk => (hb.cell (p := ⟨B, k, none⟩) h.lt).trans (h.cells k hk), fun k hk => (h.nums k hk).kept hb⟩
noncomputable def okE (en : Nat → Nat) (eg : Nat → Nat → Int) : Bool := bndOk (en 0) (en 1) (eg 0) (eg 1) && bndOk (en 2) (en 3) (eg 2) (eg 3) && decide (en 0 = en 2)
set_option maxRecDepth 100000 in
set_option maxHeartbeats 8000000 in
theorem okES (B : Nat) (ea : Nat → Option Addr) (en ec : Nat → Nat) (eg : Nat → Nat → Int) (w : World) (hn : ∀ k, k < 4 → en k ≤ 1048576) (h : EnvAt w B ea en ec eg) :
    Calls Try.prog 65 #[.pointer (some ⟨B, 0, none⟩)] w fun e w' => e = .returned (.bool (okE en eg)) ∧ Below w.heap.size w w' := by
  have hlt := h.lt
  have c0 := cell_kept (a := ⟨B, 0, none⟩) hlt (h.cells 0 (by omega))
  have c1 := cell_kept (a := ⟨B, 1, none⟩) hlt (h.cells 1 (by omega))
  have c2 := cell_kept (a := ⟨B, 2, none⟩) hlt (h.cells 2 (by omega))
  have c3 := cell_kept (a := ⟨B, 3, none⟩) hlt (h.cells 3 (by omega))
  have H1 := Lib.hid (fun p : Kept w => boundsS (ca := ec 0) (cb := ec 1) (ea 0) (ea 1) (en 0) (en 1) (eg 0) (eg 1) p.world (hn 0 (by omega)) (hn 1 (by omega)) ((h.nums 0 (by omega)).kept p.below) ((h.nums 1 (by omega)).kept p.below))
  have H2 := Lib.hid (fun p : Kept w => boundsS (ca := ec 2) (cb := ec 3) (ea 2) (ea 3) (en 2) (en 3) (eg 2) (eg 3) p.world (hn 2 (by omega)) (hn 3 (by omega)) ((h.nums 2 (by omega)).kept p.below) ((h.nums 3 (by omega)).kept p.below))
  have HV := Lib.hid (show okE en eg = (bndOk (en 0) (en 1) (eg 0) (eg 1) && bndOk (en 2) (en 3) (eg 2) (eg 3) && decide (en 0 = en 2)) from rfl)
  have hmx : Try.prog.follows .mixedOrders = true := by kernel_rfl
  clear h hn
  generalize bndOk (en 0) (en 1) (eg 0) (eg 1) = r1 at *
  generalize bndOk (en 2) (en 3) (eg 2) (eg 3) = r2 at *
  generalize okE en eg = R at *
  generalize ea 0 = A0 at *
  generalize ea 1 = A1 at *
  generalize ea 2 = A2 at *
  generalize ea 3 = A3 at *
  generalize ec 0 = k0 at *
  generalize ec 1 = k1 at *
  generalize ec 2 = k2 at *
  generalize ec 3 = k3 at *
  generalize en 0 = n0 at *
  generalize en 1 = n1 at *
  generalize en 2 = n2 at *
  generalize en 3 = n3 at *
  cases r1 with
  | false =>
    have HR := Lib.hid (show R = false by rw [HV.out]; rfl)
    clear HV
    go_enter Try.func65, Try.ntmps65
    go_wp2
    refine wp_region_quiet_kept (by assumption) (by kernel_rfl) ?_
    repeat (first | go_big_quiet_step (((go_at_call 98; with_reducible exact Calls.kept_of (H1.out _)))) | quiet_step (((go_at_call 98; with_reducible exact Calls.kept_of (H1.out _)))))
    refine wpQuiet_nil ?_
    intro w4 hw'
    have hB : Below w.heap.size w w4 := by obtain ⟨⟨wk, hb0⟩, hw''⟩ := hw'; rw [hw'']; exact hb0
    have HB4 := Lib.hid hB
    clear hw' hB c0 c1 c2 c3
    go_wp2
    go_ret
    exact ⟨by rw [HR.out]; rfl, HB4.out⟩
  | true =>
    cases r2 with
    | false =>
      have HR := Lib.hid (show R = false by rw [HV.out]; rfl)
      clear HV
      go_enter Try.func65, Try.ntmps65
      go_wp2
      refine wp_region_quiet_kept (by assumption) (by kernel_rfl) ?_
      repeat (first | go_big_quiet_step (((go_at_call 98; first | with_reducible exact Calls.kept_of (H1.out _) | with_reducible exact Calls.kept_of (H2.out _)))) | quiet_step (((go_at_call 98; first | with_reducible exact Calls.kept_of (H1.out _) | with_reducible exact Calls.kept_of (H2.out _)))))
      refine wpQuiet_nil ?_
      intro w4 hw'
      have hB : Below w.heap.size w w4 := by obtain ⟨⟨wk, hb0⟩, hw''⟩ := hw'; rw [hw'']; exact hb0
      have HB4 := Lib.hid hB
      clear hw' hB c0 c1 c2 c3
      go_wp2
      go_ret
      exact ⟨by rw [HR.out]; rfl, HB4.out⟩
    | true =>
      have HR := Lib.hid (show R = decide ((n0 : Int) = (n2 : Int)) by rw [HV.out]; simp; omega)
      clear HV
      go_enter Try.func65, Try.ntmps65
      go_wp2
      refine wp_region_quiet_kept (by assumption) (by kernel_rfl) ?_
      repeat (first | go_big_quiet_step (((go_at_call 98; first | with_reducible exact Calls.kept_of (H1.out _) | with_reducible exact Calls.kept_of (H2.out _)))) | quiet_step (((go_at_call 98; first | with_reducible exact Calls.kept_of (H1.out _) | with_reducible exact Calls.kept_of (H2.out _)))))
      refine wpQuiet_nil ?_
      intro w4 hw'
      have hB : Below w.heap.size w w4 := by obtain ⟨⟨wk, hb0⟩, hw''⟩ := hw'; rw [hw'']; exact hb0
      have HB4 := Lib.hid hB
      clear hw' hB c0 c1 c2 c3
      go_wp2
      go_ret
      exact ⟨by rw [HR.out]; first | rfl | (congr 2; simp), HB4.out⟩
/-- A struct of four lists in a block of its own. -/
theorem env_box {w : World} {ea : Nat → Option Addr} {en ec : Nat → Nat} {eg : Nat → Nat → Int} (h : ∀ k, k < 4 → NumAt w (ea k) (en k) (eg k)) :
    EnvAt (w.alloc (.cells #[.slice (ea 0) (en 0) (ec 0), .slice (ea 1) (en 1) (ec 1), .slice (ea 2) (en 2) (ec 2), .slice (ea 3) (en 3) (ec 3)] 26)) w.heap.size ea en ec eg := by
  have K := heap_alloc_new w (.cells #[.slice (ea 0) (en 0) (ec 0), .slice (ea 1) (en 1) (ec 1), .slice (ea 2) (en 2) (ec 2), .slice (ea 3) (en 3) (ec 3)] 26)
  refine ⟨block_size K, fun k hk => ?_, fun k hk => (h k hk).kept (below_alloc1 _ _)⟩
  rw [cell_of_block K]
  have : k = 0 ∨ k = 1 ∨ k = 2 ∨ k = 3 := by omega
  rcases this with rfl | rfl | rfl | rfl <;> rfl
set_option maxRecDepth 100000 in
set_option maxHeartbeats 4000000 in
theorem validES (ea : Nat → Option Addr) (en ec : Nat → Nat) (eg : Nat → Nat → Int) (w : World) (hn : ∀ k, k < 4 → en k ≤ 1048576) (h : ∀ k, k < 4 → NumAt w (ea k) (en k) (eg k)) :
    Calls Try.prog 24 #[.agg #[.slice (ea 0) (en 0) (ec 0), .slice (ea 1) (en 1) (ec 1), .slice (ea 2) (en 2) (ec 2), .slice (ea 3) (en 3) (ec 3)]] w fun e w' => e = .returned (.bool (okE en eg)) ∧ Below w.heap.size w w' := by
  have HE := Lib.hid (env_box (ec := ec) h)
  have HB := Lib.hid (below_alloc1 w (.cells #[.slice (ea 0) (en 0) (ec 0), .slice (ea 1) (en 1) (ec 1), .slice (ea 2) (en 2) (ec 2), .slice (ea 3) (en 3) (ec 3)] 26))
  have HC := Lib.hid (okES w.heap.size ea en ec eg _ hn HE.out)
  clear h hn
  generalize okE en eg = R at *
  go_enter Try.func24, Try.ntmps24
  go_wp2_with fail
  refine HC.out.mono ?_
  rintro e w1 ⟨rfl, hb⟩
  have B1 := Lib.hid (HB.out.trans (hb.mono HB.out.size))
  clear hb
  go_wp2
  go_ret
  exact ⟨rfl, B1.out⟩
end Go.Proofs.Ythpmckfjlbiiiaa.env
