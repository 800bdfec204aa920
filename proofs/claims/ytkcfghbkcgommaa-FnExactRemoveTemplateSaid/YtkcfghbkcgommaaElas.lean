/-
  Proved: what the document's functions that tell the least cost of matching two sequences return.
  Conditions: none.
-/
import Derived.Test.YtkcfghbkcgommaaTab
namespace Go.Proofs.Ytkcfghbkcgommaa.tab
open Go.ChangeShapes Go.WideShapes Go.ChangeAt Go.RowKit Go.Joins
open Go.Proofs.Ytkcfghbkcgommaa.core Go.Proofs.Ytkcfghbkcgommaa.rown Go.Proofs.Ytkcfghbkcgommaa.stk Go.Proofs.Ytkcfghbkcgommaa.boxed Go.Proofs.Ytkcfghbkcgommaa.ft Go.Proofs.Ytkcfghbkcgommaa.seq
set_option linter.unusedVariables false
set_option linter.unusedSimpArgs false
/-- The least cost is the last one of the table. -/
def leastE (na nb : Nat) (fa fb : Nat → P3) (band : Int) : Int := tab fa fb band (na - 1) (nb - 1)
set_option maxRecDepth 100000 in
set_option maxHeartbeats 4000000 in
theorem leastS {ca cb : Nat} (A B : Option Addr) (na nb : Nat) (fa fb : Nat → P3) (band : Int) (w : World) (pa : PtsAt w A na fa) (pb : PtsAt w B nb fb) (va : okQ na fa = true) (vb : okQ nb fb = true) :
    Calls Try.prog 94 #[.slice A na ca, .slice B nb cb, .int .i64 band] w fun e w' => e = .returned (.int .i64 (leastE na nb fa fb band)) ∧ Below w.heap.size w w' := by
  obtain ⟨a1, a2, a3⟩ := okQ_of va
  obtain ⟨b1, b2, b3⟩ := okQ_of vb
  have HT := Lib.hid (tableS (ca := ca) (cb := cb) A B na nb fa fb band w a2 b2 pa pb a3 b3)
  have hN : (na - 1) * nb + nb = na * nb := by rw [← Nat.succ_mul]; congr 1; omega
  have HQ := Lib.hid (show tabQ fa fb band nb (na * nb - 1) = leastE na nb fa fb band by
    rw [show na * nb - 1 = (na - 1) * nb + (nb - 1) by omega]
    exact tabQ_at fa fb band (by omega))
  have hNb : na * nb ≤ 5184 := Nat.mul_le_mul a2 b2
  obtain ⟨N, hNN⟩ : ∃ N, na * nb = N := ⟨_, rfl⟩
  rw [hNN] at HT HQ hNb hN
  clear pa pb va vb a3 b3 hNN
  obtain ⟨K, rfl⟩ : ∃ K, N = K + 1 := ⟨N - 1, by omega⟩
  rw [Nat.add_sub_cancel] at HQ
  have hK1 : (K : Int) < (K : Int) + 1 := by omega
  have hK2 : K < K + 1 := by omega
  have hK3 : IntKind.i64.wrap (K : Int) = (K : Int) := IntWalk.i64_in _ (by omega)
  clear hN
  go_enter Try.func94, Try.ntmps94
  go_wp2_with fail
  refine HT.out.mono ?_
  rintro e w1 ⟨rfl, ho, hb⟩
  have HB := Lib.hid hb
  have x0 := one_cell ho hK2
  rw [HQ.out] at x0
  obtain ⟨v, hv⟩ : ∃ v, leastE na nb fa fb band = v := ⟨_, rfl⟩
  have HVV := Lib.hid hv
  rw [hv] at x0
  have xz := rown.row_lt ho
  clear hb ho hv
  go_wp2
  go_ret
  exact ⟨by rw [HVV.out]; rfl, HB.out⟩
/-- The code of two lists and a band. -/
noncomputable def elC (na nb : Nat) (fa fb : Nat → P3) (band : Int) : Int := if okQ na fa = true ∧ okQ nb fb = true then (if (0 ≤ band ∧ band ≤ 72) ∧ absv ((na : Int) - (nb : Int)) ≤ band then 0 else 2) else 1
theorem el_of {na nb : Nat} {fa fb : Nat → P3} {band : Int} (h : elC na nb fa fb band = 0) : okQ na fa = true ∧ okQ nb fb = true ∧ (0 ≤ band ∧ band ≤ 72) ∧ absv ((na : Int) - (nb : Int)) ≤ band := by
  unfold elC at h
  split at h
  · rename_i h1
    split at h
    · rename_i h2; exact ⟨h1.1, h1.2, h2.1, h2.2⟩
    · cases h
  · cases h
theorem el_any (na nb : Nat) (fa fb : Nat → P3) (band : Int) : elC na nb fa fb band = 0 ∨ elC na nb fa fb band = 1 ∨ elC na nb fa fb band = 2 := by
  unfold elC; split <;> (try split) <;> simp
noncomputable def elR (na nb : Nat) (fa fb : Nat → P3) (band : Int) : Int := if elC na nb fa fb band = 0 then leastE na nb fa fb band else 0
end Go.Proofs.Ytkcfghbkcgommaa.tab
