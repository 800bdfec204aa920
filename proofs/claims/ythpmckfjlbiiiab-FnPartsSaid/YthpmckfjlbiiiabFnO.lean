/-
  Proved: the best part costs no more than the whole list, and nothing where the list is contained (plain lemmas for the laws of chapter 9).
  Conditions: the lists are sequences.
-/
import Derived.Test.YthpmckfjlbiiiabFnP
import Derived.Test.YthpmckfjlbiiiabPartM
import Derived.Test.YthpmckfjlbiiiabPartI
namespace Go.Proofs.Ythpmckfjlbiiiab.dp
open Go.ChangeShapes Go.WideShapes Go.ChangeAt Go.RowKit Go.Joins
open Go.Proofs.Ythpmckfjlbiiiab.core Go.Proofs.Ythpmckfjlbiiiab.rown Go.Proofs.Ythpmckfjlbiiiab.stk Go.Proofs.Ythpmckfjlbiiiab.boxed Go.Proofs.Ythpmckfjlbiiiab.ft Go.Proofs.Ythpmckfjlbiiiab.seq Go.Proofs.Ythpmckfjlbiiiab.tab Go.Proofs.Ythpmckfjlbiiiab.path
set_option linter.unusedVariables false
set_option linter.unusedSimpArgs false
def cat (nb : Nat) (fb fa : Nat → P3) : Nat → P3 := fun j => if j < nb then fb j else fa (j - nb)
theorem cat_ok {na nb : Nat} {fa fb : Nat → P3} (va : okQ na fa = true) (vb : okQ nb fb = true) (h : nb + na ≤ 72) : okQ (nb + na) (cat nb fb fa) = true := by
  obtain ⟨a1, a2, a3⟩ := okQ_of va
  obtain ⟨b1, b2, b3⟩ := okQ_of vb
  refine okQ_true (by omega) h fun i hi => ?_
  unfold cat
  split
  · exact b3 i (by assumption)
  · exact a3 _ (by omega)
theorem part_facts {na nb : Nat} {fa fb : Nat → P3} (va : okQ na fa = true) (vb : okQ nb fb = true) :
    ∃ (v : Int) (x e : Nat), pout na fa fb nb = (v, x, e) ∧ x < e ∧ e ≤ nb ∧ okQ (e - x) (shift fb x) = true ∧ elC na (e - x) fa (shift fb x) 72 = 0 ∧ leastE na (e - x) fa (shift fb x) 72 = v ∧ v ≤ leastE na nb fa fb 72 ∧ 0 ≤ v ∧ v ≤ 1000000 ∧
      (∀ x' e', x' < e' → e' ≤ nb → v ≤ partC na fa fb x' e') := by
  obtain ⟨a1, a2, a3⟩ := okQ_of va
  obtain ⟨b1, b2, b3⟩ := okQ_of vb
  have hf : far = 1000000000 := rfl
  have fin : ∀ x e, x < e → e ≤ nb → partC na fa fb x e < 100000 ∧ 0 ≤ partC na fa fb x e := fun x e hx he => by
    have := tab_fin (fa := fa) (fb := shift fb x) (n := na) (m := e - x) a2 (by omega) a3 (fun j hj => b3 _ (by omega)) (i := na - 1) (j := e - x - 1) (by omega) (by omega)
    unfold partC leastE
    omega
  obtain ⟨h, -⟩ | ⟨x, e, h, hx, he, hm, -, -⟩ := pout_spec na fa fb nb (fun x e hx he => by have := fin x e hx he; omega) nb (Nat.le_refl _)
  · omega
  · have hfx := fin x e hx he
    have hw := hm nb 0 (by omega) (Nat.le_refl _)
    have e0 : shift fb 0 = fb := funext fun j => by unfold shift; rw [Nat.zero_add]
    have hok := shift_ok vb hx he
    refine ⟨_, x, e, h, hx, he, hok, ?_, rfl, ?_, hfx.2, by omega, fun x' e' h1 h2 => hm e' x' h1 h2⟩
    · unfold elC
      rw [if_pos ⟨va, hok⟩, if_pos ⟨by omega, (absv_in (n := (na : Int) - ((e - x : Nat) : Int)) (B := 72) (by omega) (by omega)).2⟩]
    · have : partC na fa fb 0 nb = leastE na nb fa fb 72 := by unfold partC; rw [e0, Nat.sub_zero]
      omega
theorem cat_zero {na nb : Nat} {fa fb : Nat → P3} (va : okQ na fa = true) (vb : okQ nb fb = true) (h : nb + na ≤ 72) : (pout na fa (cat nb fb fa) (nb + na)).1 = 0 := by
  obtain ⟨a1, a2, a3⟩ := okQ_of va
  obtain ⟨v, x, e, hp, -, -, -, -, -, -, h0, -, hm⟩ := part_facts va (cat_ok va vb h)
  rw [hp]
  have e1 : shift (cat nb fb fa) nb = fa := funext fun j => by
    unfold shift cat
    rw [if_neg (by omega), Nat.add_sub_cancel_left]
  have := hm nb (nb + na) (by omega) (Nat.le_refl _)
  unfold partC leastE at this
  rw [e1, Nat.add_sub_cancel_left, tab_same (n := na) (by omega) a3 _ (by omega)] at this
  show v = 0
  omega
end Go.Proofs.Ythpmckfjlbiiiab.dp
