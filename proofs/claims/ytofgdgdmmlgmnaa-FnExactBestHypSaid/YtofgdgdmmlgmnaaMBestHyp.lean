/-
  Proved: both functions that return the first hypothesis return the same.
  Conditions: none.
-/
import Derived.Test.YtofgdgdmmlgmnaaHyK
namespace Go.Proofs.Ytofgdgdmmlgmnaa.wBestHyp
open Go.ChangeShapes Go.WideShapes Go.ChangeAt Go.RowKit Go.Joins
open Go.Proofs.Ytofgdgdmmlgmnaa.core Go.Proofs.Ytofgdgdmmlgmnaa.rown Go.Proofs.Ytofgdgdmmlgmnaa.stk Go.Proofs.Ytofgdgdmmlgmnaa.boxed Go.Proofs.Ytofgdgdmmlgmnaa.ft Go.Proofs.Ytofgdgdmmlgmnaa.lab Go.Proofs.Ytofgdgdmmlgmnaa.hyp
set_option linter.unusedVariables false
set_option linter.unusedSimpArgs false
noncomputable def bsC (n : Nat) (f : Nat → Hy) : Int := if hyB n f = true then (if n = 0 then 3 else 0) else 1
noncomputable def bsR (n : Nat) (f : Nat → Hy) : Hy := if bsC n f = 0 then f 0 else (⟨#[]⟩, 0)
theorem box0 {W : World} {B : Nat} {a b a' b' : Value} {E : TypeId} (h : W.heap[B]? = some (.cells #[a, b] E (0, 0))) : ((W.setCell ⟨B, 0, none⟩ a').setCell ⟨B, 1, none⟩ b').cell? ⟨B, 0, none⟩ = some a' ∧ ((W.setCell ⟨B, 0, none⟩ a').setCell ⟨B, 1, none⟩ b').cell? ⟨B, 1, none⟩ = some b' := by
  have h1 := block_setCell h (i := 0) a'
  have h2 := block_setCell h1 (i := 1) b'
  constructor
  · rw [cell_of_block h2]; rfl
  · rw [cell_of_block h2]; rfl
set_option maxRecDepth 100000 in
set_option maxHeartbeats 4000000 in
theorem spec_calls {c : Nat} (A : Option Addr) (n : Nat) (f : Nat → Hy) (w : World) (hl : HyL n f) (hp : HyAt w A n f) :
    Calls Try.prog 24 #[.slice A n c] w fun e w' => e = .returned (.tuple #[.agg #[.string (bsR n f).1, .int .i64 (bsR n f).2], .int .i64 (bsC n f)]) ∧ Below w.heap.size w w' := by
  have HA := Lib.hid (below_alloc1 w (.cells #[.string ⟨#[]⟩, .int .i64 0] 40))
  have HV := Lib.hid (hyOkS (c := c) A n f _ hl (hp.kept HA.out))
  have K0 := Lib.hid (heap_alloc_new w (.cells #[.string ⟨#[]⟩, .int .i64 0] 40))
  have hn := hl.hn
  cases hv : hyB n f with
  | false =>
    have hund : undef = Value.tuple #[] := rfl
    have HC := Lib.hid (show bsC n f = 1 by unfold bsC; rw [hv]; rfl)
    have HR := Lib.hid (show bsR n f = (⟨#[]⟩, 0) by unfold bsR; rw [HC.out]; rfl)
    rw [hv] at HV
    clear hv hp hl
    go_enter Try.func24, Try.ntmps24
    go_wp2_with fail
    refine HV.out.mono ?_
    rintro e w1 ⟨rfl, hb⟩
    have HB := Lib.hid (HA.out.trans (hb.mono HA.out.size))
    have KB := Lib.hid ((hb.block w.heap.size (by simp)).trans K0.out)
    have k0 : w1.cell? ⟨w.heap.size, 0, none⟩ = some (.string ⟨#[]⟩) := by rw [cell_of_block KB.out]; rfl
    have k1 : w1.cell? ⟨w.heap.size, 1, none⟩ = some (.int .i64 0) := by rw [cell_of_block KB.out]; rfl
    have kf := fun o => unfrozen_of_block KB.out o
    have kz := (Array.getElem?_eq_some_iff.1 KB.out).1
    clear hb HV K0
    have HB2 := Lib.hid ((HB.out.setCell (p := ⟨w.heap.size, 0, none⟩) (Nat.le_refl _) (.string ⟨#[]⟩)).setCell (p := ⟨w.heap.size, 1, none⟩) (Nat.le_refl _) (.int .i64 0))
    obtain ⟨r0, r1⟩ := box0 (a' := .string ⟨#[]⟩) (b' := .int .i64 0) KB.out
    obtain ⟨W2, hW2⟩ : ∃ W2, (w1.setCell ⟨w.heap.size, 0, none⟩ (.string ⟨#[]⟩)).setCell ⟨w.heap.size, 1, none⟩ (.int .i64 0) = W2 := ⟨_, rfl⟩
    rw [hW2] at HB2 r0 r1
    go_wp2
    exact bodyPost_ret (v := .tuple #[.agg #[.string ⟨#[]⟩, .int .i64 0], .int .i64 1]) (by simp [results, Try.results24, go_sem, r0, r1]) rfl ⟨by rw [HC.out, HR.out], HB2.out⟩
  | true =>
    rw [hv] at HV
    by_cases h0 : n = 0
    · subst h0
      have HC := Lib.hid (show bsC 0 f = 3 by unfold bsC; rw [hv]; rfl)
      have HR := Lib.hid (show bsR 0 f = (⟨#[]⟩, 0) by unfold bsR; rw [HC.out]; rfl)
      clear hv hp hl
      go_enter Try.func24, Try.ntmps24
      go_wp2_with fail
      refine HV.out.mono ?_
      rintro e w1 ⟨rfl, hb⟩
      have HB := Lib.hid (HA.out.trans (hb.mono HA.out.size))
      have KB := Lib.hid ((hb.block w.heap.size (by simp)).trans K0.out)
      have k0 : w1.cell? ⟨w.heap.size, 0, none⟩ = some (.string ⟨#[]⟩) := by rw [cell_of_block KB.out]; rfl
      have k1 : w1.cell? ⟨w.heap.size, 1, none⟩ = some (.int .i64 0) := by rw [cell_of_block KB.out]; rfl
      have kf := fun o => unfrozen_of_block KB.out o
      have kz := (Array.getElem?_eq_some_iff.1 KB.out).1
      clear hb HV K0
      have HB2 := Lib.hid ((HB.out.setCell (p := ⟨w.heap.size, 0, none⟩) (Nat.le_refl _) (.string ⟨#[]⟩)).setCell (p := ⟨w.heap.size, 1, none⟩) (Nat.le_refl _) (.int .i64 0))
      obtain ⟨r0, r1⟩ := box0 (a' := .string ⟨#[]⟩) (b' := .int .i64 0) KB.out
      obtain ⟨W2, hW2⟩ : ∃ W2, (w1.setCell ⟨w.heap.size, 0, none⟩ (.string ⟨#[]⟩)).setCell ⟨w.heap.size, 1, none⟩ (.int .i64 0) = W2 := ⟨_, rfl⟩
      rw [hW2] at HB2 r0 r1
      go_wp2
      exact bodyPost_ret (v := .tuple #[.agg #[.string ⟨#[]⟩, .int .i64 0], .int .i64 3]) (by simp [results, Try.results24, go_sem, r0, r1]) rfl ⟨by rw [HC.out, HR.out], HB2.out⟩
    · have HC := Lib.hid (show bsC n f = 0 by unfold bsC; rw [hv, if_pos rfl, if_neg h0])
      have HR := Lib.hid (show bsR n f = f 0 by unfold bsR; rw [if_pos HC.out])
      have hz0 : ((n : Int) == 0) = false := by rw [beq_eq_false_iff_ne]; omega
      have h0n : 0 < n := by omega
      have h0i : (0 : Int) < (n : Int) := by omega
      obtain ⟨b, o, rfl, hbz, p0, p1⟩ := hp 0 h0n
      obtain ⟨x, hx⟩ : ∃ x, f 0 = x := ⟨_, rfl⟩
      obtain ⟨xs, xc⟩ := x
      rw [hx] at p0 p1 HR
      simp only [Nat.zero_mul, Nat.add_zero] at p0 p1
      have HP := Lib.hid (fun W (hB : Below w.heap.size w W) => (show W.cell? ⟨b, o, none⟩ = some (.string xs) ∧ W.cell? ⟨b, o + 1, none⟩ = some (.int .i64 xc) from ⟨(hB.cell (p := ⟨b, o, none⟩) hbz).trans p0, (hB.cell (p := ⟨b, o + 1, none⟩) hbz).trans p1⟩))
      clear hv hp hl h0 hx p0 p1
      go_enter Try.func24, Try.ntmps24
      go_wp2_with fail
      refine HV.out.mono ?_
      rintro e w1 ⟨rfl, hb⟩
      have HB := Lib.hid (HA.out.trans (hb.mono HA.out.size))
      have KB := Lib.hid ((hb.block w.heap.size (by simp)).trans K0.out)
      have k0 : w1.cell? ⟨w.heap.size, 0, none⟩ = some (.string ⟨#[]⟩) := by rw [cell_of_block KB.out]; rfl
      have k1 : w1.cell? ⟨w.heap.size, 1, none⟩ = some (.int .i64 0) := by rw [cell_of_block KB.out]; rfl
      have kf := fun o => unfrozen_of_block KB.out o
      have kz := (Array.getElem?_eq_some_iff.1 KB.out).1
      obtain ⟨p0, p1⟩ := HP.out w1 HB.out
      clear hb HV K0 HP
      have HB2 := Lib.hid ((HB.out.setCell (p := ⟨w.heap.size, 0, none⟩) (Nat.le_refl _) (.string xs)).setCell (p := ⟨w.heap.size, 1, none⟩) (Nat.le_refl _) (.int .i64 xc))
      obtain ⟨r0, r1⟩ := box0 (a' := .string xs) (b' := .int .i64 xc) KB.out
      obtain ⟨W2, hW2⟩ : ∃ W2, (w1.setCell ⟨w.heap.size, 0, none⟩ (.string xs)).setCell ⟨w.heap.size, 1, none⟩ (.int .i64 xc) = W2 := ⟨_, rfl⟩
      rw [hW2] at HB2 r0 r1
      go_wp2
      exact bodyPost_ret (v := .tuple #[.agg #[.string xs, .int .i64 xc], .int .i64 0]) (by simp [results, Try.results24, go_sem, r0, r1]) rfl ⟨by rw [HC.out, HR.out], HB2.out⟩
set_option maxRecDepth 100000 in
set_option maxHeartbeats 4000000 in
theorem impl_calls {c : Nat} (A : Option Addr) (n : Nat) (f : Nat → Hy) (w : World) (hl : HyL n f) (hp : HyAt w A n f) :
    Calls Try.prog 25 #[.slice A n c] w fun e w' => e = .returned (.tuple #[.agg #[.string (bsR n f).1, .int .i64 (bsR n f).2], .int .i64 (bsC n f)]) ∧ Below w.heap.size w w' := by
  have HA := Lib.hid (below_alloc1 w (.cells #[.string ⟨#[]⟩, .int .i64 0] 40))
  have HV := Lib.hid (validHI (c := c) A n f _ hl (hp.kept HA.out))
  have K0 := Lib.hid (heap_alloc_new w (.cells #[.string ⟨#[]⟩, .int .i64 0] 40))
  have hn := hl.hn
  cases hv : hyB n f with
  | false =>
    have hund : undef = Value.tuple #[] := rfl
    have HC := Lib.hid (show bsC n f = 1 by unfold bsC; rw [hv]; rfl)
    have HR := Lib.hid (show bsR n f = (⟨#[]⟩, 0) by unfold bsR; rw [HC.out]; rfl)
    rw [hv] at HV
    clear hv hp hl
    go_enter Try.func25, Try.ntmps25
    go_wp2_with fail
    refine HV.out.mono ?_
    rintro e w1 ⟨rfl, hb⟩
    have HB := Lib.hid (HA.out.trans (hb.mono HA.out.size))
    have KB := Lib.hid ((hb.block w.heap.size (by simp)).trans K0.out)
    have k0 : w1.cell? ⟨w.heap.size, 0, none⟩ = some (.string ⟨#[]⟩) := by rw [cell_of_block KB.out]; rfl
    have k1 : w1.cell? ⟨w.heap.size, 1, none⟩ = some (.int .i64 0) := by rw [cell_of_block KB.out]; rfl
    have kf := fun o => unfrozen_of_block KB.out o
    have kz := (Array.getElem?_eq_some_iff.1 KB.out).1
    clear hb HV K0
    have HB2 := Lib.hid ((HB.out.setCell (p := ⟨w.heap.size, 0, none⟩) (Nat.le_refl _) (.string ⟨#[]⟩)).setCell (p := ⟨w.heap.size, 1, none⟩) (Nat.le_refl _) (.int .i64 0))
    obtain ⟨r0, r1⟩ := box0 (a' := .string ⟨#[]⟩) (b' := .int .i64 0) KB.out
    obtain ⟨W2, hW2⟩ : ∃ W2, (w1.setCell ⟨w.heap.size, 0, none⟩ (.string ⟨#[]⟩)).setCell ⟨w.heap.size, 1, none⟩ (.int .i64 0) = W2 := ⟨_, rfl⟩
    rw [hW2] at HB2 r0 r1
    go_wp2
    exact bodyPost_ret (v := .tuple #[.agg #[.string ⟨#[]⟩, .int .i64 0], .int .i64 1]) (by simp [results, Try.results25, go_sem, r0, r1]) rfl ⟨by rw [HC.out, HR.out], HB2.out⟩
  | true =>
    rw [hv] at HV
    by_cases h0 : n = 0
    · subst h0
      have HC := Lib.hid (show bsC 0 f = 3 by unfold bsC; rw [hv]; rfl)
      have HR := Lib.hid (show bsR 0 f = (⟨#[]⟩, 0) by unfold bsR; rw [HC.out]; rfl)
      clear hv hp hl
      go_enter Try.func25, Try.ntmps25
      go_wp2_with fail
      refine HV.out.mono ?_
      rintro e w1 ⟨rfl, hb⟩
      have HB := Lib.hid (HA.out.trans (hb.mono HA.out.size))
      have KB := Lib.hid ((hb.block w.heap.size (by simp)).trans K0.out)
      have k0 : w1.cell? ⟨w.heap.size, 0, none⟩ = some (.string ⟨#[]⟩) := by rw [cell_of_block KB.out]; rfl
      have k1 : w1.cell? ⟨w.heap.size, 1, none⟩ = some (.int .i64 0) := by rw [cell_of_block KB.out]; rfl
      have kf := fun o => unfrozen_of_block KB.out o
      have kz := (Array.getElem?_eq_some_iff.1 KB.out).1
      clear hb HV K0
      have HB2 := Lib.hid ((HB.out.setCell (p := ⟨w.heap.size, 0, none⟩) (Nat.le_refl _) (.string ⟨#[]⟩)).setCell (p := ⟨w.heap.size, 1, none⟩) (Nat.le_refl _) (.int .i64 0))
      obtain ⟨r0, r1⟩ := box0 (a' := .string ⟨#[]⟩) (b' := .int .i64 0) KB.out
      obtain ⟨W2, hW2⟩ : ∃ W2, (w1.setCell ⟨w.heap.size, 0, none⟩ (.string ⟨#[]⟩)).setCell ⟨w.heap.size, 1, none⟩ (.int .i64 0) = W2 := ⟨_, rfl⟩
      rw [hW2] at HB2 r0 r1
      go_wp2
      exact bodyPost_ret (v := .tuple #[.agg #[.string ⟨#[]⟩, .int .i64 0], .int .i64 3]) (by simp [results, Try.results25, go_sem, r0, r1]) rfl ⟨by rw [HC.out, HR.out], HB2.out⟩
    · have HC := Lib.hid (show bsC n f = 0 by unfold bsC; rw [hv, if_pos rfl, if_neg h0])
      have HR := Lib.hid (show bsR n f = f 0 by unfold bsR; rw [if_pos HC.out])
      have hz0 : ((n : Int) == 0) = false := by rw [beq_eq_false_iff_ne]; omega
      have h0n : 0 < n := by omega
      have h0i : (0 : Int) < (n : Int) := by omega
      obtain ⟨b, o, rfl, hbz, p0, p1⟩ := hp 0 h0n
      obtain ⟨x, hx⟩ : ∃ x, f 0 = x := ⟨_, rfl⟩
      obtain ⟨xs, xc⟩ := x
      rw [hx] at p0 p1 HR
      simp only [Nat.zero_mul, Nat.add_zero] at p0 p1
      have HP := Lib.hid (fun W (hB : Below w.heap.size w W) => (show W.cell? ⟨b, o, none⟩ = some (.string xs) ∧ W.cell? ⟨b, o + 1, none⟩ = some (.int .i64 xc) from ⟨(hB.cell (p := ⟨b, o, none⟩) hbz).trans p0, (hB.cell (p := ⟨b, o + 1, none⟩) hbz).trans p1⟩))
      clear hv hp hl h0 hx p0 p1
      go_enter Try.func25, Try.ntmps25
      go_wp2_with fail
      refine HV.out.mono ?_
      rintro e w1 ⟨rfl, hb⟩
      have HB := Lib.hid (HA.out.trans (hb.mono HA.out.size))
      have KB := Lib.hid ((hb.block w.heap.size (by simp)).trans K0.out)
      have k0 : w1.cell? ⟨w.heap.size, 0, none⟩ = some (.string ⟨#[]⟩) := by rw [cell_of_block KB.out]; rfl
      have k1 : w1.cell? ⟨w.heap.size, 1, none⟩ = some (.int .i64 0) := by rw [cell_of_block KB.out]; rfl
      have kf := fun o => unfrozen_of_block KB.out o
      have kz := (Array.getElem?_eq_some_iff.1 KB.out).1
      obtain ⟨p0, p1⟩ := HP.out w1 HB.out
      clear hb HV K0 HP
      have HB2 := Lib.hid ((HB.out.setCell (p := ⟨w.heap.size, 0, none⟩) (Nat.le_refl _) (.string xs)).setCell (p := ⟨w.heap.size, 1, none⟩) (Nat.le_refl _) (.int .i64 xc))
      obtain ⟨r0, r1⟩ := box0 (a' := .string xs) (b' := .int .i64 xc) KB.out
      obtain ⟨W2, hW2⟩ : ∃ W2, (w1.setCell ⟨w.heap.size, 0, none⟩ (.string xs)).setCell ⟨w.heap.size, 1, none⟩ (.int .i64 xc) = W2 := ⟨_, rfl⟩
      rw [hW2] at HB2 r0 r1
      go_wp2
      exact bodyPost_ret (v := .tuple #[.agg #[.string xs, .int .i64 xc], .int .i64 0]) (by simp [results, Try.results25, go_sem, r0, r1]) rfl ⟨by rw [HC.out, HR.out], HB2.out⟩
theorem meat (vs0 : Nat → Value) (g0 : Nat → Dat) (ht0 : tyrHypS g0) :
    costRec 1 g0 ≤ 1048576 → ∃ (x0 : ByteArray) (x1 : Int) (r1 : Int), (∀ (W : World) (us0 : Nat → Value), ReadsRec W 1 us0 g0 → (∃ (A : Option Addr) (n c : Nat), us0 0 = .slice A n c ∧ n ≤ c) → Calls Try.prog 24 #[us0 0] W fun e W' => e = .returned (.tuple #[.agg #[.string x0, .int .i64 x1], .int .i64 r1]) ∧ Below W.heap.size W W') ∧ (∀ (W : World) (us0 : Nat → Value), ReadsRec W 1 us0 g0 → (∃ (A : Option Addr) (n c : Nat), us0 0 = .slice A n c ∧ n ≤ c) → Calls Try.prog 25 #[us0 0] W fun e W' => e = .returned (.tuple #[.agg #[.string x0, .int .i64 x1], .int .i64 r1]) ∧ Below W.heap.size W W') := by
  intro hq
  refine ⟨(bsR (hyN g0) (hyF g0)).1, (bsR (hyN g0) (hyF g0)).2, bsC (hyN g0) (hyF g0), fun W us h _ => ?_, fun W us h _ => ?_⟩
  · obtain ⟨A, c, e, -, hl, hp⟩ := reads_hy h ht0 hq
    rw [e]
    exact spec_calls A _ _ W hl hp
  · obtain ⟨A, c, e, -, hl, hp⟩ := reads_hy h ht0 hq
    rw [e]
    exact impl_calls A _ _ W hl hp
end Go.Proofs.Ytofgdgdmmlgmnaa.wBestHyp
