/-
  Proved: what both functions that tell a path of least cost return.
  Conditions: none.
-/
import Derived.Test.YthpmckfjlbiiiabThru
import Derived.Test.YthpmckfjlbiiiabElasI
import Derived.Test.YthpmckfjlbiiiabTrcE
namespace Go.Proofs.Ythpmckfjlbiiiab.dp
open Go.ChangeShapes Go.WideShapes Go.ChangeAt Go.RowKit Go.Joins
open Go.Proofs.Ythpmckfjlbiiiab.core Go.Proofs.Ythpmckfjlbiiiab.rown Go.Proofs.Ythpmckfjlbiiiab.stk Go.Proofs.Ythpmckfjlbiiiab.boxed Go.Proofs.Ythpmckfjlbiiiab.ft Go.Proofs.Ythpmckfjlbiiiab.seq Go.Proofs.Ythpmckfjlbiiiab.tab Go.Proofs.Ythpmckfjlbiiiab.put3
set_option linter.unusedVariables false
set_option linter.unusedSimpArgs false
/-- How many steps the path has. -/
def isLen (p : Nat → Nat × Nat) (s : Nat) : Prop := p s = (0, 0) ∧ (∀ t, t < s → p t ≠ (0, 0)) ∧ s ≤ 142
theorem isLen_eq {p : Nat → Nat × Nat} {s t : Nat} (h : isLen p s) (k : isLen p t) : s = t := by
  rcases Nat.lt_trichotomy s t with e | e | e
  · exact absurd h.1 (k.2.1 s e)
  · exact e
  · exact absurd k.1 (h.2.1 t e)
def pathRow (p : Nat → Nat × Nat) (s j : Nat) : P2 := prow p (s - j)
theorem trow_eq (p : Nat → Nat × Nat) (s : Nat) : rws (trow p s) (s + 1) = rws (sp2 (pathRow p s)) (s + 1) := rws_congr _ fun j hj => rfl
set_option maxRecDepth 100000 in
set_option maxHeartbeats 4000000 in
theorem epathI_no {ca cb : Nat} (A B : Option Addr) (na nb : Nat) (fa fb : Nat → P3) (band : Int) (w : World) (ha : na ≤ 1048576) (hb : nb ≤ 1048576) (hbi : inI64 band) (pa : PtsAt w A na fa) (pb : PtsAt w B nb fb) (h0 : elC na nb fa fb band ≠ 0) :
    Calls Try.prog 29 #[.slice A na ca, .slice B nb cb, .int .i64 band] w fun e w' => ∃ v, e = .returned (.tuple #[v, .int .i64 (elC na nb fa fb band)]) ∧ w'.ownsRow w.heap.size 59 2 v 0 (rws (sp2 fun _ => (0, 0)) 0) ∧ Below w.heap.size w w' := by
  have HC := Lib.hid (match_no (ca := ca) (cb := cb) A B na nb fa fb band w ha hb hbi pa pb h0)
  have h12 : elC na nb fa fb band = 1 ∨ elC na nb fa fb band = 2 := by have := el_any na nb fa fb band; omega
  clear h0 pa pb
  rcases h12 with h | h
  all_goals
    rw [h] at HC ⊢
    clear h
    go_enter Try.func29, Try.ntmps29
    go_wp2_with fail
    refine HC.out.mono ?_
    rintro e w1 ⟨rfl, hb1⟩
    have B1 := Lib.hid hb1
    clear hb1
    go_wp2
    go_ret2
    exact ⟨.slice none 0 0, rfl, World.ownsRow_nil _ _ _ _, B1.out.trans ((below_alloc1 _ _).mono B1.out.size)⟩
set_option maxRecDepth 100000 in
set_option maxHeartbeats 4000000 in
theorem epathI_yes {ca cb : Nat} (A B : Option Addr) (na nb : Nat) (fa fb : Nat → P3) (bd : Nat) (w : World) (pa : PtsAt w A na fa) (pb : PtsAt w B nb fb) (h0 : elC na nb fa fb (bd : Int) = 0) :
    Calls Try.prog 29 #[.slice A na ca, .slice B nb cb, .int .i64 (bd : Int)] w fun e w' => ∃ s v, isLen (pos fa fb (bd : Int) (na - 1, nb - 1)) s ∧ e = .returned (.tuple #[v, .int .i64 0]) ∧ w'.ownsRow w.heap.size 59 2 v (s + 1) (rws (sp2 (pathRow (pos fa fb (bd : Int) (na - 1, nb - 1)) s)) (s + 1)) ∧ Below w.heap.size w w' := by
  obtain ⟨va, vb, hbd, hab⟩ := el_of h0
  have HC := Lib.hid (match_yes (ca := ca) (cb := cb) A B na nb fa fb bd w pa pb h0)
  have hnn := (absv_le (i := na) (j := nb) (bd := bd)).1 hab
  have HR := Lib.hid (fun W p1 p2 => rowsI A B na nb ca cb bd fa fb W (by omega) va vb hnn.1 p1 p2)
  have HT := Lib.hid (fun G d gs W q1 q2 => thruI G d na nb gs fa fb (bd : Int) W (by omega) va vb hab q1 q2)
  have HPA := Lib.hid pa
  have HPB := Lib.hid pb
  clear pa pb h0 va vb hab hbd hnn
  go_enter Try.func29, Try.ntmps29
  go_wp2_with fail
  refine HC.out.mono ?_
  rintro e w1 ⟨rfl, hb1⟩
  have B1 := Lib.hid hb1
  have BA := Lib.hid (below_alloc1 w1 (mtc A B na nb ca cb bd))
  have B2 := Lib.hid (B1.out.trans (BA.out.mono B1.out.size))
  have HR1 := Lib.hid (HR.out _ (HPA.out.kept B2.out) (HPB.out.kept B2.out))
  clear hb1 HC HR HPA HPB
  go_wp2_with fail
  refine HR1.out.mono ?_
  rintro e w2 ⟨G, d, gs, rfl, ho, hrs, hb2⟩
  have B3 := Lib.hid (B2.out.trans (hb2.mono B2.out.size))
  have HT1 := Lib.hid (HT.out G d gs w2 (fun j hj => by
    have := row_cell ho (srow_len _ _) (show j < na + 1 by omega) (show 0 < 1 by omega) (v := .slice (some ⟨gs j, 0, none⟩) (nb + 1) (nb + 1)) rfl
    rwa [Nat.mul_one, Nat.add_zero] at this) (fun j hj => (hrs j hj).at_))
  clear ho hrs hb2 HT HR1
  go_wp2_with fail
  refine HT1.out.mono ?_
  rintro e w3 ⟨s, g, dd, rfl, q1, q2, q3, ho, hb3⟩
  have HO := Lib.hid ho
  have B4 := Lib.hid (B3.out.trans (hb3.mono B3.out.size))
  have HQ := Lib.hid (show isLen (pos fa fb (bd : Int) (na - 1, nb - 1)) s from ⟨q1, q2, q3⟩)
  clear hb3 ho q1 q2 q3
  go_wp2
  go_ret2
  exact ⟨s, _, HQ.out, rfl, row_low HO.out B3.out.size, B4.out⟩
end Go.Proofs.Ythpmckfjlbiiiab.dp
