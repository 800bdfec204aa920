/-
  Proved: what the program's function that tests two lists and a band returns.
  Conditions: none.
-/
import Derived.Test.YtkcfghbkcgommaaLast
import Derived.Test.YtkcfghbkcgommaaElas
import Derived.Test.YtkcfghbkcgommaaBndI
namespace Go.Proofs.Ytkcfghbkcgommaa.dp
open Go.ChangeShapes Go.WideShapes Go.ChangeAt Go.RowKit Go.Joins
open Go.Proofs.Ytkcfghbkcgommaa.env Go.Proofs.Ytkcfghbkcgommaa.core Go.Proofs.Ytkcfghbkcgommaa.rown Go.Proofs.Ytkcfghbkcgommaa.stk Go.Proofs.Ytkcfghbkcgommaa.boxed Go.Proofs.Ytkcfghbkcgommaa.ft Go.Proofs.Ytkcfghbkcgommaa.seq Go.Proofs.Ytkcfghbkcgommaa.tab Go.Proofs.Ytkcfghbkcgommaa.put3
set_option linter.unusedVariables false
set_option linter.unusedSimpArgs false
abbrev mt0 : Value := .agg #[.slice none 0 0, .slice none 0 0, .int .i64 0]
abbrev mc0 : Obj := .cells #[.slice none 0 0, .slice none 0 0, .int .i64 0] 147
set_option maxRecDepth 100000 in
set_option maxHeartbeats 8000000 in
theorem match_no {ca cb : Nat} (A B : Option Addr) (na nb : Nat) (fa fb : Nat → P3) (band : Int) (w : World) (ha : na ≤ 1048576) (hb : nb ≤ 1048576) (hbi : inI64 band) (pa : PtsAt w A na fa) (pb : PtsAt w B nb fb) (h0 : elC na nb fa fb band ≠ 0) :
    Calls Try.prog 119 #[.slice A na ca, .slice B nb cb, .int .i64 band] w fun e w' => e = .returned (.tuple #[mt0, .int .i64 (elC na nb fa fb band)]) ∧ Below w.heap.size w w' := by
  have BA := Lib.hid (below_alloc1 w mc0)
  have K0 := Lib.hid (heap_alloc_new w mc0)
  have HA := Lib.hid (fun W hW => okQI (c := ca) A na fa W ha hW)
  have HPA := Lib.hid (pa.kept BA.out)
  have HPB := Lib.hid (pb.kept BA.out)
  clear pa pb
  cases va : okQ na fa with
  | false =>
    have HV := Lib.hid (show elC na nb fa fb band = 1 by unfold elC; rw [if_neg (fun h => by rw [va] at h; cases h.1)])
    rw [va] at HA
    rw [HV.out]
    clear va h0
    have hu : undef = Value.tuple #[] := rfl
    have HA1 := Lib.hid (HA.out _ HPA.out)
    go_enter Try.func119, Try.ntmps119
    go_wp2_with fail
    refine HA1.out.mono ?_
    rintro e w1 ⟨rfl, hb1⟩
    have B1 := Lib.hid (BA.out.trans (hb1.mono BA.out.size))
    have M := Lib.hid ((hb1.block _ (block_size K0.out)).trans K0.out)
    have y0 := block_size M.out
    have c0 : w1.cell? ⟨w.heap.size, 0, none⟩ = some (.slice none 0 0) := by rw [cell_of_block M.out]; rfl
    have c1 : w1.cell? ⟨w.heap.size, 1, none⟩ = some (.slice none 0 0) := by rw [cell_of_block M.out]; rfl
    have c2 : w1.cell? ⟨w.heap.size, 2, none⟩ = some (.int .i64 0) := by rw [cell_of_block M.out]; rfl
    have cf : ∀ i, w1.frozen? ⟨w.heap.size, i, none⟩ = false := unfrozen_of_block M.out
    clear hb1
    go_wp2
    exact bodyPost_ret (v := .tuple #[mt0, .int .i64 1]) (by simp [results, Try.results119, go_sem, c0, c1, c2, cf, y0]) rfl ⟨rfl, ((B1.out.setCell (Nat.le_refl _) _).setCell (Nat.le_refl _) _).setCell (Nat.le_refl _) _⟩
  | true =>
    rw [va] at HA
    have HA1 := Lib.hid (HA.out _ HPA.out)
    have HQ := Lib.hid (fun W hW => okQI (c := cb) B nb fb W hb hW)
    cases vb : okQ nb fb with
    | false =>
      have HV := Lib.hid (show elC na nb fa fb band = 1 by unfold elC; rw [if_neg (fun h => by rw [vb] at h; cases h.2)])
      rw [vb] at HQ
      rw [HV.out]
      clear va vb h0
      go_enter Try.func119, Try.ntmps119
      go_wp2_with fail
      refine HA1.out.mono ?_
      rintro e w1 ⟨rfl, hb1⟩
      have B1 := Lib.hid hb1
      have HQ1 := Lib.hid (HQ.out w1 (HPB.out.kept hb1))
      clear hb1
      go_wp2_with fail
      refine HQ1.out.mono ?_
      rintro e w2 ⟨rfl, hb2⟩
      have B2 := Lib.hid (B1.out.trans (hb2.mono B1.out.size))
      clear hb2
      have M := Lib.hid ((B2.out.block _ (block_size K0.out)).trans K0.out)
      have y0 := block_size M.out
      have c0 : w2.cell? ⟨w.heap.size, 0, none⟩ = some (.slice none 0 0) := by rw [cell_of_block M.out]; rfl
      have c1 : w2.cell? ⟨w.heap.size, 1, none⟩ = some (.slice none 0 0) := by rw [cell_of_block M.out]; rfl
      have c2 : w2.cell? ⟨w.heap.size, 2, none⟩ = some (.int .i64 0) := by rw [cell_of_block M.out]; rfl
      have cf : ∀ i, w2.frozen? ⟨w.heap.size, i, none⟩ = false := unfrozen_of_block M.out
      go_wp2
      exact bodyPost_ret (v := .tuple #[mt0, .int .i64 1]) (by simp [results, Try.results119, go_sem, c0, c1, c2, cf, y0]) rfl ⟨rfl, (((BA.out.trans (B2.out.mono BA.out.size)).setCell (Nat.le_refl _) _).setCell (Nat.le_refl _) _).setCell (Nat.le_refl _) _⟩
    | true =>
      rw [vb] at HQ
      have ba := okQ_of va
      have bb := okQ_of vb
      have ba2 := ba.2.1
      have bb2 := bb.2.1
      have hC : elC na nb fa fb band = if (0 ≤ band ∧ band ≤ 72) ∧ absv ((na : Int) - (nb : Int)) ≤ band then 0 else 2 := by unfold elC; rw [if_pos ⟨va, vb⟩]
      have hno : ¬ ((0 ≤ band ∧ band ≤ 72) ∧ absv ((na : Int) - (nb : Int)) ≤ band) := fun h => h0 (by rw [hC, if_pos h])
      rw [if_neg hno] at hC
      rw [hC]
      have HS := Lib.hid (fun W => bandI (na : Int) (nb : Int) band W (by omega) (by omega))
      rw [show bandOk (na : Int) (nb : Int) band = false from decide_eq_false hno] at HS
      clear va vb ba bb h0 hC hno
      have hu : undef = Value.tuple #[] := rfl
      go_enter Try.func119, Try.ntmps119
      go_wp2_with fail
      refine HA1.out.mono ?_
      rintro e w1 ⟨rfl, hb1⟩
      have B1 := Lib.hid hb1
      have HQ1 := Lib.hid (HQ.out w1 (HPB.out.kept hb1))
      clear hb1
      go_wp2_with fail
      refine HQ1.out.mono ?_
      rintro e w2 ⟨rfl, hb2⟩
      have B2 := Lib.hid (B1.out.trans (hb2.mono B1.out.size))
      clear hb2
      go_wp2_with fail
      with_reducible refine (HS.out _).mono ?_
      rintro e w3 ⟨rfl, rfl⟩
      have M := Lib.hid ((B2.out.block _ (block_size K0.out)).trans K0.out)
      have y0 := block_size M.out
      have c0 : w2.cell? ⟨w.heap.size, 0, none⟩ = some (.slice none 0 0) := by rw [cell_of_block M.out]; rfl
      have c1 : w2.cell? ⟨w.heap.size, 1, none⟩ = some (.slice none 0 0) := by rw [cell_of_block M.out]; rfl
      have c2 : w2.cell? ⟨w.heap.size, 2, none⟩ = some (.int .i64 0) := by rw [cell_of_block M.out]; rfl
      have cf : ∀ i, w2.frozen? ⟨w.heap.size, i, none⟩ = false := unfrozen_of_block M.out
      go_wp2
      exact bodyPost_ret (v := .tuple #[mt0, .int .i64 2]) (by simp [results, Try.results119, go_sem, c0, c1, c2, cf, y0]) rfl ⟨rfl, (((BA.out.trans (B2.out.mono BA.out.size)).setCell (Nat.le_refl _) _).setCell (Nat.le_refl _) _).setCell (Nat.le_refl _) _⟩
set_option maxRecDepth 100000 in
set_option maxHeartbeats 8000000 in
theorem match_yes {ca cb : Nat} (A B : Option Addr) (na nb : Nat) (fa fb : Nat → P3) (bd : Nat) (w : World) (pa : PtsAt w A na fa) (pb : PtsAt w B nb fb) (h0 : elC na nb fa fb (bd : Int) = 0) :
    Calls Try.prog 119 #[.slice A na ca, .slice B nb cb, .int .i64 (bd : Int)] w fun e w' => e = .returned (.tuple #[mtv A B na nb ca cb bd, .int .i64 0]) ∧ Below w.heap.size w w' := by
  obtain ⟨va, vb, hbd, hab⟩ := el_of h0
  have ba2 := (okQ_of va).2.1
  have bb2 := (okQ_of vb).2.1
  have BA := Lib.hid (below_alloc1 w mc0)
  have K0 := Lib.hid (heap_alloc_new w mc0)
  have HA1 := Lib.hid (okQI (c := ca) A na fa _ (by omega) (pa.kept BA.out))
  have HPB := Lib.hid (pb.kept BA.out)
  have HQ := Lib.hid (fun W hW => okQI (c := cb) B nb fb W (by omega) hW)
  rw [va] at HA1
  rw [vb] at HQ
  have HS := Lib.hid (fun W => bandI (na : Int) (nb : Int) (bd : Int) W (by omega) (by omega))
  rw [show bandOk (na : Int) (nb : Int) (bd : Int) = true from decide_eq_true ⟨hbd, hab⟩] at HS
  clear pa pb va vb h0 hbd hab
  have hu : undef = Value.tuple #[] := rfl
  go_enter Try.func119, Try.ntmps119
  go_wp2_with fail
  refine HA1.out.mono ?_
  rintro e w1 ⟨rfl, hb1⟩
  have B1 := Lib.hid hb1
  have HQ1 := Lib.hid (HQ.out w1 (HPB.out.kept hb1))
  clear hb1
  go_wp2_with fail
  refine HQ1.out.mono ?_
  rintro e w2 ⟨rfl, hb2⟩
  have B2 := Lib.hid (B1.out.trans (hb2.mono B1.out.size))
  clear hb2
  go_wp2_with fail
  with_reducible refine (HS.out _).mono ?_
  rintro e w3 ⟨rfl, rfl⟩
  have M := Lib.hid ((B2.out.block _ (block_size K0.out)).trans K0.out)
  have y0 := block_size M.out
  have c0 : w2.cell? ⟨w.heap.size, 0, none⟩ = some (.slice none 0 0) := by rw [cell_of_block M.out]; rfl
  have c1 : w2.cell? ⟨w.heap.size, 1, none⟩ = some (.slice none 0 0) := by rw [cell_of_block M.out]; rfl
  have c2 : w2.cell? ⟨w.heap.size, 2, none⟩ = some (.int .i64 0) := by rw [cell_of_block M.out]; rfl
  have cf : ∀ i, w2.frozen? ⟨w.heap.size, i, none⟩ = false := unfrozen_of_block M.out
  go_wp2
  exact bodyPost_ret (v := .tuple #[mtv A B na nb ca cb bd, .int .i64 0]) (by simp [results, Try.results119, go_sem, c0, c1, c2, cf, y0]) rfl ⟨rfl, (((BA.out.trans (B2.out.mono BA.out.size)).setCell (Nat.le_refl _) _).setCell (Nat.le_refl _) _).setCell (Nat.le_refl _) _⟩
end Go.Proofs.Ytkcfghbkcgommaa.dp
