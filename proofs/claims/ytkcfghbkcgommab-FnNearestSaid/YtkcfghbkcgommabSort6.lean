/-
  Proved: what the library's functions that exchange and rotate parts of a list of measured lists leave behind; what the library's sort by insertion leaves behind of a list of measured lists whose indices ascend; what a merge by halves makes of two sorted parts (plain lemmas); what the library's merge of two sorted parts of a list of measured lists leaves behind; what the library's merge of two sorted parts of a list of measured lists leaves behind, for parts of all lengths; what the library's stable sort leaves behind of a list of measured lists whose indices ascend.
  Conditions: those of each theorem.
-/
import Derived.Test.YtkcfghbkcgommabMin
import Derived.Test.YtkcfghbkcgommabRevQ
namespace Go.Proofs.Ytkcfghbkcgommab.srt
open Go.ChangeShapes Go.WideShapes Go.ChangeAt Go.RowKit Go.Joins
open Go.Proofs.Ytkcfghbkcgommab.core Go.Proofs.Ytkcfghbkcgommab.rown Go.Proofs.Ytkcfghbkcgommab.stk Go.Proofs.Ytkcfghbkcgommab.boxed Go.Proofs.Ytkcfghbkcgommab.put3 Go.Proofs.Ytkcfghbkcgommab.ft Go.Proofs.Ytkcfghbkcgommab.revQ Go.Proofs.Ytkcfghbkcgommab.env
set_option linter.unusedVariables false
set_option linter.unusedSimpArgs false
/-- A list of measured lists in memory of its own. -/
abbrev Dt (base g L c : Nat) (w : World) (d : Nat → P2) : Prop := w.ownsRow base 55 2 (.slice (some ⟨g, 0, none⟩) L c) L (rws (sp2 d) L)
theorem dt_read {base g L c : Nat} {w : World} {d : Nat → P2} (h : Dt base g L c w d) {i : Nat} (hi : i < L) : w.cell? ⟨g, i * 2, none⟩ = some (.int .i64 (d i).1) ∧ w.cell? ⟨g, i * 2 + 1, none⟩ = some (.int .i64 (d i).2) :=
  ⟨row_cell h (sp2_len _) hi (show 0 < 2 by omega) rfl, row_cell h (sp2_len _) hi (show 1 < 2 by omega) rfl⟩
/-- Two parts are exchanged. -/
def SR (d : Nat → P2) (a b n : Nat) (j : Nat) : P2 := if a ≤ j ∧ j < a + n then d (b + (j - a)) else if b ≤ j ∧ j < b + n then d (a + (j - b)) else d j
theorem SR_zero (d : Nat → P2) (a b j : Nat) : d j = SR d a b 0 j := by unfold SR; rw [if_neg (by omega), if_neg (by omega)]
theorem SR_lo {d : Nat → P2} {a b i : Nat} (h : a + i < b) : SR d a b i (a + i) = d (a + i) := by unfold SR; rw [if_neg (by omega), if_neg (by omega)]
theorem SR_hi {d : Nat → P2} {a b i : Nat} (h : a + i < b) : SR d a b i (b + i) = d (b + i) := by unfold SR; rw [if_neg (by omega), if_neg (by omega)]
theorem SR_step {d : Nat → P2} {a b i : Nat} (h : a + i < b) (j : Nat) : put2 (put2 (SR d a b i) (a + i) (d (b + i))) (b + i) (d (a + i)) j = SR d a b (i + 1) j := by
  unfold put2 SR
  by_cases e : j = b + i
  · rw [if_pos e, if_neg (by omega), if_pos (by omega)]
    congr 1; omega
  · rw [if_neg e]
    by_cases e2 : j = a + i
    · rw [if_pos e2, if_pos (by omega)]
      congr 1; omega
    · rw [if_neg e2]
      by_cases h3 : a ≤ j ∧ j < a + i
      · rw [if_pos h3, if_pos (by omega)]
      · rw [if_neg h3, if_neg (show ¬ (a ≤ j ∧ j < a + (i + 1)) by omega)]
        by_cases h4 : b ≤ j ∧ j < b + i
        · rw [if_pos h4, if_pos (by omega)]
        · rw [if_neg h4, if_neg (by omega)]
set_option maxRecDepth 100000 in
set_option maxHeartbeats 4000000 in
theorem swapR {base g L c : Nat} {d : Nat → P2} (a b n : Nat) (w : World) (hL : L ≤ 1000) (ha : a + n ≤ b) (hb : b + n ≤ L) (ho : Dt base g L c w d) :
    Calls Try.prog 67 #[.slice (some ⟨g, 0, none⟩) L c, .int .i64 (a : Int), .int .i64 (b : Int), .int .i64 (n : Int), .func (.func 19) #[] #[]] w fun e w' => e = .returned (.tuple #[]) ∧ Dt base g L c w' (SR d a b n) ∧ OnlyF (fun x => x = g) w w' := by
  have HO := Lib.hid (own_cast2 ho (fun j _ => SR_zero d a b j))
  clear ho
  go_enter Try.func67, Try.ntmps67
  go_wp2
  go_loopw [10] (fun i w' => ∃ k : Nat, k ≤ n ∧ i = .int .i64 (k : Int) ∧ Hid (Dt base g L c w' (SR d a b k)) ∧ Hid (OnlyF (fun x => x = g) w w')) (fun i _ => n - (intOf i).toNat)
  case atStart => exact ⟨0, Nat.zero_le _, rfl, HO, Lib.hid (OnlyF.refl _ _)⟩
  case round =>
    obtain ⟨k, hk, rfl, HW, HF⟩ := hrel
    by_cases hlt : k < n
    · have hak : a + k < b := by omega
      obtain ⟨x0, x1⟩ := dt_read HW.out (show a + k < L by omega)
      obtain ⟨y0, y1⟩ := dt_read HW.out (show b + k < L by omega)
      rw [SR_lo hak] at x0 x1
      rw [SR_hi hak] at y0 y1
      have xf := free_row HW.out
      have xz := rown.row_lt HW.out
      have HPT := Lib.hid (own_cast2 (own_put2 (i := b + k) (own_put2 (i := a + k) HW.out (by omega) (d (b + k))) (by omega) (d (a + k))) fun j _ => SR_step hak j)
      obtain ⟨p, hp⟩ : ∃ p, d (a + k) = p := ⟨_, rfl⟩
      obtain ⟨q, hq⟩ : ∃ p, d (b + k) = p := ⟨_, rfl⟩
      rw [hp] at x0 x1 HPT
      rw [hq] at y0 y1 HPT
      have hki : (k : Int) < (n : Int) := by omega
      have e1 : IntKind.i64.wrap ((a : Int) + (k : Int)) = (((a + k : Nat)) : Int) := by rw [IntWalk.i64_in _ (by omega)]; omega
      have e2 : IntKind.i64.wrap ((b : Int) + (k : Int)) = (((b + k : Nat)) : Int) := by rw [IntWalk.i64_in _ (by omega)]; omega
      have hne : ¬ (b + k) * 2 = (a + k) * 2 := by omega
      have hkN : ((a + k : Nat) : Int) < (L : Int) := by omega
      have hmN : ((b + k : Nat) : Int) < (L : Int) := by omega
      have hk1 : a + k < L := by omega
      have hm1 : b + k < L := by omega
      generalize hA : a + k = A at *
      generalize hB : b + k = B at *
      have hAB : A < B := by omega
      clear hp hq hlt
      go_wp2
      go_region
      obtain ⟨w9, hw9⟩ : ∃ w9, w9 = ((((wr.setCell ⟨g, A * 2, none⟩ (.int .i64 q.1)).setCell ⟨g, A * 2 + 1, none⟩ (.int .i64 q.2)).setCell ⟨g, B * 2, none⟩ (.int .i64 p.1)).setCell ⟨g, B * 2 + 1, none⟩ (.int .i64 p.2)).drew := ⟨_, rfl⟩
      rw [← hw9]
      have HO9 := Lib.hid (show w9.ownsRow _ _ _ _ _ _ by rw [hw9]; exact rown.ownsRow_kept HPT.out (Below.refl _ _).drew)
      have HF9 := Lib.hid (show OnlyF (fun x => x = g) w w9 by rw [hw9]; exact ((((HF.out.setCell rfl _).setCell rfl _).setCell rfl _).setCell rfl _).drew)
      clear hw9 x0 x1 y0 y1 xf xz HPT
      go_wp2
      go_roundw
      case rel => exact ⟨k + 1, by omega, by go_num, HO9, HF9⟩
      case measure => simp [intOf]; omega
    · obtain rfl : k = n := by omega
      go_wp2
      go_end0
      exact ⟨rfl, HW.out, HF.out⟩
/-- Two parts that follow one another change places. -/
def RT (d : Nat → P2) (a m b : Nat) (j : Nat) : P2 := if a ≤ j ∧ j < a + (b - m) then d (j + (m - a)) else if a + (b - m) ≤ j ∧ j < b then d (j - (b - m)) else d j
theorem RT_gt {e : Nat → P2} {m i j : Nat} (hi : i ≤ m) (hj : 0 < j) (h : j < i) (x : Nat) : RT (SR e (m - i) m j) (m - (i - j)) m (m + j) x = RT e (m - i) m (m + j) x := by
  unfold RT SR
  repeat' split
  all_goals first | omega | (congr 1; omega) | rfl
theorem RT_lt {e : Nat → P2} {m i j : Nat} (hi : i ≤ m) (hj : 0 < i) (h : i < j) (x : Nat) : RT (SR e (m - i) (m + j - i) i) (m - i) m (m + (j - i)) x = RT e (m - i) m (m + j) x := by
  unfold RT SR
  repeat' split
  all_goals first | omega | (congr 1; omega) | rfl
theorem RT_eq {e : Nat → P2} {m i : Nat} (hi : i ≤ m) (x : Nat) : SR e (m - i) m i x = RT e (m - i) m (m + i) x := by
  unfold RT SR
  repeat' split
  all_goals first | omega | (congr 1; omega) | rfl
set_option maxRecDepth 100000 in
set_option maxHeartbeats 4000000 in
theorem rotR {base g L c : Nat} {d : Nat → P2} (a m b : Nat) (w : World) (hL : L ≤ 1000) (ha : a < m) (hb : m < b) (hbL : b ≤ L) (ho : Dt base g L c w d) :
    Calls Try.prog 65 #[.slice (some ⟨g, 0, none⟩) L c, .int .i64 (a : Int), .int .i64 (m : Int), .int .i64 (b : Int), .func (.func 19) #[] #[]] w fun e w' => e = .returned (.tuple #[]) ∧ Dt base g L c w' (RT d a m b) ∧ OnlyF (fun x => x = g) w w' := by
  have HO := Lib.hid ho
  have f1 : IntKind.i64.wrap ((m : Int) - (a : Int)) = ((m - a : Nat) : Int) := by rw [IntWalk.i64_in _ (by omega)]; omega
  have f2 : IntKind.i64.wrap ((b : Int) - (m : Int)) = ((b - m : Nat) : Int) := by rw [IntWalk.i64_in _ (by omega)]; omega
  have HS := Lib.hid (fun (a b n : Nat) (V : World) (e : Nat → P2) h1 h2 (h3 : Dt base g L c V e) => swapR (c := c) (d := e) a b n V hL h1 h2 h3)
  have HE := Lib.hid (show m - (m - a) = a ∧ m + (b - m) = b by omega)
  clear ho
  go_enter Try.func65, Try.ntmps65
  go_wp2
  go_loopw [10, 11] (fun i j w' => ∃ (p q : Nat) (e : Nat → P2), (0 < p ∧ p ≤ m) ∧ (0 < q ∧ m + q ≤ L) ∧ i = .int .i64 (p : Int) ∧ j = .int .i64 (q : Int) ∧ Hid (∀ x, RT e (m - p) m (m + q) x = RT d a m b x) ∧ Hid (Dt base g L c w' e) ∧ Hid (OnlyF (fun x => x = g) w w')) (fun i j _ => (intOf i).toNat + (intOf j).toNat)
  case atStart => exact ⟨m - a, b - m, d, by omega, by omega, rfl, rfl, Lib.hid (fun x => by rw [HE.out.1, HE.out.2]), HO, Lib.hid (OnlyF.refl _ _)⟩
  case round =>
    obtain ⟨p, q, e, hp, hq, rfl, rfl, HR, HW, HF⟩ := hrel
    have g1 : IntKind.i64.wrap ((m : Int) - (p : Int)) = ((m - p : Nat) : Int) := by rw [IntWalk.i64_in _ (by omega)]; omega
    by_cases heq : p = q
    · subst heq
      have hne : ((p : Int) != (p : Int)) = false := by simp
      have H1 := Lib.hid (HS.out (m - p) m p wr e (by omega) (by omega) HW.out)
      have HQ := Lib.hid (fun x => (RT_eq (e := e) (m := m) (i := p) hp.2 x).trans (HR.out x))
      go_wp2_with fail
      refine H1.out.mono ?_
      rintro e _ ⟨rfl, ho, hf⟩
      have HO2 := Lib.hid (own_cast2 ho fun x _ => HQ.out x)
      have HF2 := Lib.hid (HF.out.trans hf)
      clear ho hf
      go_wp2
      go_end0
      exact ⟨rfl, HO2.out, HF2.out⟩
    · have hne : ((p : Int) != (q : Int)) = true := by simp; omega
      by_cases hgt : q < p
      · have hgi : (q : Int) < (p : Int) := by omega
        have g2 : IntKind.i64.wrap ((p : Int) - (q : Int)) = ((p - q : Nat) : Int) := by rw [IntWalk.i64_in _ (by omega)]; omega
        have H1 := Lib.hid (HS.out (m - p) m q wr e (by omega) (by omega) HW.out)
        have HQ := Lib.hid (fun x => (RT_gt (e := e) (m := m) (i := p) (j := q) hp.2 hq.1 hgt x).trans (HR.out x))
        go_wp2_with fail
        refine H1.out.mono ?_
        rintro e _ ⟨rfl, ho, hf⟩
        have HO2 := Lib.hid ho
        have HF2 := Lib.hid (HF.out.trans hf)
        clear ho hf
        go_wp2
        go_roundw
        case rel => exact ⟨p - q, q, _, by omega, hq, rfl, rfl, HQ, HO2, HF2⟩
        case measure => simp [intOf]; omega
      · have hlt : p < q := by omega
        have hgi : ¬ (q : Int) < (p : Int) := by omega
        have H1 := Lib.hid (HS.out (m - p) (m + q - p) p wr e (by omega) (by omega) HW.out)
        have HQ := Lib.hid (fun x => (RT_lt (e := e) (m := m) (i := p) (j := q) hp.2 hp.1 hlt x).trans (HR.out x))
        have hqL := hq.2
        obtain ⟨Y, hY⟩ : ∃ Y, q - p = Y := ⟨_, rfl⟩
        obtain ⟨S, hS⟩ : ∃ S, m + q = S := ⟨_, rfl⟩
        obtain ⟨X, hX⟩ : ∃ X, m + q - p = X := ⟨_, rfl⟩
        obtain ⟨Z, hZ⟩ : ∃ Z, m - p = Z := ⟨_, rfl⟩
        have hYm : Y < q ∧ 0 < Y ∧ m + Y ≤ L := by omega
        have g2 : IntKind.i64.wrap ((q : Int) - (p : Int)) = (Y : Int) := by rw [IntWalk.i64_in _ (by omega)]; omega
        have g3 : IntKind.i64.wrap ((m : Int) + (q : Int)) = (S : Int) := by rw [IntWalk.i64_in _ (by omega)]; omega
        have g4 : IntKind.i64.wrap ((S : Int) - (p : Int)) = (X : Int) := by rw [IntWalk.i64_in _ (by omega)]; omega
        have HYM := Lib.hid hYm
        have HZ := Lib.hid hZ
        rw [hX, hZ] at H1
        rw [hX, hZ, hY] at HQ
        rw [hZ] at g1
        clear hY hS hX hZ hYm hqL
        go_wp2_with fail
        refine H1.out.mono ?_
        rintro e _ ⟨rfl, ho, hf⟩
        have HO2 := Lib.hid ho
        have HF2 := Lib.hid (HF.out.trans hf)
        clear ho hf
        go_wp2
        go_roundw
        case rel => exact ⟨p, Y, _, hp, HYM.out.2, rfl, rfl, Lib.hid (fun x => by rw [HZ.out]; exact HQ.out x), HO2, HF2⟩
        case measure => simp [intOf]; have := HYM.out.1; omega
end Go.Proofs.Ytkcfghbkcgommab.srt

namespace Go.Proofs.Ytkcfghbkcgommab.srt

open Go.ChangeShapes Go.WideShapes Go.ChangeAt Go.RowKit Go.Joins

open Go.Proofs.Ytkcfghbkcgommab.core Go.Proofs.Ytkcfghbkcgommab.rown Go.Proofs.Ytkcfghbkcgommab.stk Go.Proofs.Ytkcfghbkcgommab.boxed Go.Proofs.Ytkcfghbkcgommab.put3 Go.Proofs.Ytkcfghbkcgommab.ft Go.Proofs.Ytkcfghbkcgommab.revQ Go.Proofs.Ytkcfghbkcgommab.env
set_option linter.unusedVariables false
set_option linter.unusedSimpArgs false
/-- Less by number, then by index. -/
def lt2 (p q : P2) : Prop := p.2 < q.2 ∨ (p.2 = q.2 ∧ p.1 < q.1)
theorem lt2_trans {p q r : P2} (h : lt2 p q) (k : lt2 q r) : lt2 p r := by unfold lt2 at *; omega
theorem lt2_irr {p : P2} (h : lt2 p p) : False := by unfold lt2 at h; omega
def Asc (d : Nat → P2) (a b : Nat) : Prop := ∀ i j, a ≤ i → i < j → j < b → lt2 (d i) (d j)
/-- The same elements between a and b, and no others touched. -/
structure Same (a b : Nat) (d e : Nat → P2) : Prop where
  out : ∀ j, ¬ (a ≤ j ∧ j < b) → e j = d j
  into : ∀ j, a ≤ j → j < b → ∃ i, a ≤ i ∧ i < b ∧ e j = d i
  back : ∀ i, a ≤ i → i < b → ∃ j, a ≤ j ∧ j < b ∧ e j = d i
theorem Same.refl (a b : Nat) (d : Nat → P2) : Same a b d d := ⟨fun _ _ => rfl, fun j h k => ⟨j, h, k, rfl⟩, fun j h k => ⟨j, h, k, rfl⟩⟩
theorem Same.trans {a b : Nat} {d e f : Nat → P2} (h : Same a b d e) (k : Same a b e f) : Same a b d f :=
  ⟨fun j hj => (k.out j hj).trans (h.out j hj), fun j h1 h2 => by
    obtain ⟨i, a1, a2, a3⟩ := k.into j h1 h2
    obtain ⟨i', b1, b2, b3⟩ := h.into i a1 a2
    exact ⟨i', b1, b2, a3.trans b3⟩, fun i h1 h2 => by
    obtain ⟨j, a1, a2, a3⟩ := h.back i h1 h2
    obtain ⟨j', b1, b2, b3⟩ := k.back j a1 a2
    exact ⟨j', b1, b2, b3.trans a3⟩⟩
theorem Same.wide {a b a' b' : Nat} {d e : Nat → P2} (h : Same a b d e) (ha : a' ≤ a) (hb : b ≤ b') : Same a' b' d e :=
  ⟨fun j hj => h.out j (by omega), fun j h1 h2 => by
    by_cases hj : a ≤ j ∧ j < b
    · obtain ⟨i, a1, a2, a3⟩ := h.into j hj.1 hj.2
      exact ⟨i, by omega, by omega, a3⟩
    · exact ⟨j, h1, h2, h.out j hj⟩, fun j h1 h2 => by
    by_cases hj : a ≤ j ∧ j < b
    · obtain ⟨i, a1, a2, a3⟩ := h.back j hj.1 hj.2
      exact ⟨i, by omega, by omega, a3⟩
    · exact ⟨j, h1, h2, h.out j hj⟩⟩
theorem Same.swap (a b : Nat) (d : Nat → P2) {i j : Nat} (hi : a ≤ i ∧ i < b) (hj : a ≤ j ∧ j < b) : Same a b d (put2 (put2 d i (d j)) j (d i)) := by
  refine ⟨fun x hx => ?_, fun x h1 h2 => ?_, fun x h1 h2 => ?_⟩
  · unfold put2; rw [if_neg (by intro e; omega), if_neg (by intro e; omega)]
  · by_cases e1 : x = j
    · exact ⟨i, hi.1, hi.2, by unfold put2; rw [if_pos e1]⟩
    · by_cases e2 : x = i
      · exact ⟨j, hj.1, hj.2, by unfold put2; rw [if_neg e1, if_pos e2]⟩
      · exact ⟨x, h1, h2, by unfold put2; rw [if_neg e1, if_neg e2]⟩
  · by_cases e1 : x = j
    · subst e1
      by_cases e2 : i = x
      · subst e2; exact ⟨i, h1, h2, by unfold put2; simp⟩
      · exact ⟨i, hi.1, hi.2, by unfold put2; rw [if_neg e2, if_pos rfl]⟩
    · by_cases e2 : x = i
      · exact ⟨j, hj.1, hj.2, by unfold put2; rw [if_pos rfl, e2]⟩
      · exact ⟨x, h1, h2, by unfold put2; rw [if_neg e1, if_neg e2]⟩
/-- The element at j is on its way down. -/
structure IS (d e : Nat → P2) (a i j : Nat) : Prop where
  lo : a ≤ j
  hi : j ≤ i
  A : ∀ p q, a ≤ p → p < q → q ≤ i → p ≠ j → q ≠ j → lt2 (e p) (e q)
  B : ∀ q, j < q → q ≤ i → lt2 (e j) (e q)
  C : ∀ p, a ≤ p → p ≤ i → p ≠ j → (e p).1 < (e j).1
  S : Same a (i + 1) d e
theorem IS.start {d e : Nat → P2} {a i b : Nat} (ha : a ≤ i) (hb : i < b) (hx : ∀ p q, a ≤ p → p < q → q < b → (d p).1 < (d q).1) (hA : Asc e a i) (hS : Same a i d e) : IS d e a i i := by
  refine ⟨ha, Nat.le_refl _, fun p q h1 h2 h3 h4 h5 => hA p q h1 h2 (by omega), fun q h1 h2 => absurd h1 (by omega), fun p h1 h2 h3 => ?_, hS.wide (Nat.le_refl _) (by omega)⟩
  obtain ⟨p', a1, a2, a3⟩ := hS.into p h1 (by omega)
  rw [a3, hS.out i (by omega)]
  exact hx p' i a1 a2 hb
theorem IS.step {d e : Nat → P2} {a i j : Nat} (h : IS d e a i (j + 1)) (hj : a ≤ j) (hlt : (e (j + 1)).2 < (e j).2) : IS d (put2 (put2 e (j + 1) (e j)) j (e (j + 1))) a i j := by
  obtain ⟨lo, hi, A, B, C, S⟩ := h
  have e0 : put2 (put2 e (j + 1) (e j)) j (e (j + 1)) j = e (j + 1) := by unfold put2; rw [if_pos rfl]
  have e1 : put2 (put2 e (j + 1) (e j)) j (e (j + 1)) (j + 1) = e j := by unfold put2; rw [if_neg (by omega), if_pos rfl]
  have e2 : ∀ x, x ≠ j → x ≠ j + 1 → put2 (put2 e (j + 1) (e j)) j (e (j + 1)) x = e x := fun x h1 h2 => by unfold put2; rw [if_neg h1, if_neg h2]
  refine ⟨hj, by omega, fun p q h1 h2 h3 h4 h5 => ?_, fun q h1 h2 => ?_, fun p h1 h2 h3 => ?_, S.trans (Same.swap a (i + 1) e (by omega) (by omega))⟩
  · by_cases hp : p = j + 1
    · subst hp
      rw [e1, e2 q h5 (by omega)]
      exact A j q hj (by omega) h3 (by omega) (by omega)
    · rw [e2 p h4 hp]
      by_cases hq : q = j + 1
      · subst hq
        rw [e1]
        exact A p j h1 (by omega) (by omega) hp (by omega)
      · rw [e2 q h5 hq]
        exact A p q h1 h2 h3 hp hq
  · rw [e0]
    by_cases hq : q = j + 1
    · subst hq; rw [e1]; exact .inl hlt
    · rw [e2 q (by omega) hq]; exact B q (by omega) h2
  · rw [e0]
    by_cases hp : p = j + 1
    · subst hp; rw [e1]; exact C j hj (by omega) (by omega)
    · rw [e2 p h3 hp]; exact C p h1 h2 hp
theorem IS.stop {d e : Nat → P2} {a i j : Nat} (h : IS d e a i j) (hx : j = a ∨ ¬ (e j).2 < (e (j - 1)).2) : Asc e a (i + 1) := by
  obtain ⟨lo, hi, A, B, C, S⟩ := h
  intro p q h1 h2 h3
  by_cases hp : p = j
  · subst hp; exact B q h2 (by omega)
  · by_cases hq : q = j
    · subst hq
      rcases hx with hx | hx
      · omega
      · have hc := C (q - 1) (by omega) (by omega) (by omega)
        have hl : lt2 (e (q - 1)) (e q) := by unfold lt2; omega
        by_cases hpq : p = q - 1
        · subst hpq; exact hl
        · exact lt2_trans (A p (q - 1) h1 (by omega) (by omega) hp (by omega)) hl
    · exact A p q h1 h2 (by omega) hp hq
/-- One element alone stays. -/
theorem same_one {a k : Nat} {d e : Nat → P2} (hA : Asc e a k) (h : Same a k d e) (hk : k = a + 1) : Same a a d e := by
  subst hk
  refine ⟨fun j _ => ?_, fun j h1 h2 => absurd h1 (by omega), fun j h1 h2 => absurd h1 (by omega)⟩
  by_cases hj : j = a
  · subst hj
    obtain ⟨i, h1, h2, h3⟩ := h.into j (Nat.le_refl _) (by omega)
    obtain rfl : i = j := by omega
    exact h3
  · exact h.out j (by omega)
theorem cmpV_lt (x y : Int) : decide (cmpV x y < 0) = decide (x < y) := by
  unfold cmpV
  by_cases h1 : x < y
  · rw [if_pos h1]; simp [h1]
  · rw [if_neg h1]; split <;> simp [h1]
theorem only_below {P : Nat → Prop} {w w' : World} (h : Below w.heap.size w w') : OnlyF P w w' := (OnlyF.of_below (F := P) h)
set_option maxRecDepth 100000 in
set_option maxHeartbeats 4000000 in
theorem insR {base g L c : Nat} {d : Nat → P2} (a b : Nat) (w : World) (hL : L ≤ 1000) (hab : a ≤ b) (hb : b ≤ L) (hx : ∀ p q, a ≤ p → p < q → q < b → (d p).1 < (d q).1) (hbase : base ≤ w.heap.size) (ho : Dt base g L c w d) :
    Calls Try.prog 57 #[.slice (some ⟨g, 0, none⟩) L c, .int .i64 (a : Int), .int .i64 (b : Int), .func (.func 19) #[] #[]] w fun e w' => e = .returned (.tuple #[]) ∧ ∃ d', Asc d' a b ∧ Same a b d d' ∧ Dt base g L c w' d' ∧ OnlyF (fun x => x = g) w w' := by
  have HO := Lib.hid ho
  have HX := Lib.hid hx
  have hmx : Try.prog.follows .mixedOrders = true := by kernel_rfl
  have HC := Lib.hid (fun a b c d W => compareI a b c d W)
  clear ho hx
  go_enter Try.func57, Try.ntmps57
  go_wp2
  go_loopw [8] (fun i w' => ∃ (k : Nat) (e : Nat → P2), (a < k ∧ (k ≤ b ∨ k = a + 1)) ∧ i = .int .i64 (k : Int) ∧ Hid (Asc e a k) ∧ Hid (Same a k d e) ∧ Hid (Dt base g L c w' e) ∧ Hid (OnlyF (fun x => x = g) w w')) (fun i _ => b + 1 - (intOf i).toNat)
  case atStart => exact ⟨a + 1, d, by omega, by go_num, Lib.hid (fun i j h1 h2 h3 => absurd h1 (by omega)), Lib.hid (Same.refl _ _ _), HO, Lib.hid (OnlyF.refl _ _)⟩
  case round =>
    obtain ⟨k, e, ⟨hk0, hk1⟩, rfl, HA, HS, HW, HF⟩ := hrel
    by_cases hlt : k < b
    · have hki : (k : Int) < (b : Int) := by omega
      have HI := Lib.hid (IS.start (by omega) hlt HX.out HA.out HS.out)
      clear HA HS
      go_wp2
      go_loopw [9] (fun j w' => ∃ (x : Nat) (e : Nat → P2), j = .int .i64 (x : Int) ∧ (a ≤ x ∧ x ≤ k) ∧ Hid (IS d e a k x) ∧ Hid (Dt base g L c w' e) ∧ Hid (OnlyF (fun x => x = g) w w')) (fun j _ => (intOf j).toNat)
      case atStart => exact ⟨k, e, rfl, by omega, HI, HW, HF⟩
      case round =>
        obtain ⟨x, e, rfl, ⟨hx0, hx1⟩, HI, HW, HF⟩ := hrel
        by_cases hxa : a < x
        · obtain ⟨y, rfl⟩ : ∃ y, x = y + 1 := ⟨x - 1, by omega⟩
          obtain ⟨x0, x1⟩ := dt_read HW.out (show y < L by omega)
          obtain ⟨y0, y1⟩ := dt_read HW.out (show y + 1 < L by omega)
          have xz := rown.row_lt HW.out
          obtain ⟨p, hp⟩ : ∃ p, e y = p := ⟨_, rfl⟩
          obtain ⟨q, hq⟩ : ∃ p, e (y + 1) = p := ⟨_, rfl⟩
          rw [hp] at x0 x1
          rw [hq] at y0 y1
          have xf := free_row HW.out
          have hCC := HC.out q.1 q.2 p.1 p.2
          have hd : decide (cmpV q.2 p.2 < 0) = decide (q.2 < p.2) := cmpV_lt _ _
          have HD := Lib.hid hd
          clear hd
          have hgt : (a : Int) < (y : Int) + 1 := by omega
          have hy1 : (y : Int) + 1 < (L : Int) := by omega
          have hy0 : (y : Int) < (L : Int) := by omega
          have hn1 : y + 1 < L := by omega
          have hn0 : y < L := by omega
          have hw1 : IntKind.i64.wrap ((y : Int) + 1 - 1) = (y : Int) := by rw [IntWalk.i64_in _ (by omega)]; omega
          have hto : ((y : Int) + 1).toNat = y + 1 := by omega
          have h0y : 0 ≤ (y : Int) + 1 := by omega
          have X0 := core.cell_kept (a := ⟨g, y * 2, none⟩) xz x0
          have X1 := core.cell_kept (a := ⟨g, y * 2 + 1, none⟩) xz x1
          have Y0 := core.cell_kept (a := ⟨g, (y + 1) * 2, none⟩) xz y0
          have Y1 := core.cell_kept (a := ⟨g, (y + 1) * 2 + 1, none⟩) xz y1
          obtain ⟨r, hr⟩ : ∃ r, cmpV q.2 p.2 = r := ⟨_, rfl⟩
          rw [hr] at hCC HD
          clear hr
          go_wp2
          refine wp_region_quiet_kept (by assumption) (by kernel_rfl) ?_
          repeat (first | go_big_quiet_step ((go_at_call 19; with_reducible exact Calls.kept_of (hCC _))) | quiet_step ((go_at_call 19; with_reducible exact Calls.kept_of (hCC _))))
          refine wpQuiet_nil ?_
          intro w4 hw'
          have hB : Below wr.heap.size wr w4 := by obtain ⟨⟨wk, hb0⟩, hw''⟩ := hw'; rw [hw'']; exact hb0
          clear hw' X0 X1 Y0 Y1 hCC
          have HW4 := Lib.hid (rown.ownsRow_kept HW.out hB)
          have HF4 := Lib.hid (HF.out.trans (only_below hB))
          clear x0 x1 y0 y1 xz xf hB
          by_cases hlq : q.2 < p.2
          · have hrr : r < 0 := by have := HD.out; rw [decide_eq_true hlq] at this; simpa using this
            have HI2 := Lib.hid (HI.out.step (show a ≤ y by omega) (by rw [hp, hq]; exact hlq))
            have HPT := Lib.hid (own_put2 (i := y) (own_put2 (i := y + 1) HW4.out (by omega) (e y)) (by omega) (e (y + 1)))
            obtain ⟨x0, x1⟩ := dt_read HW4.out (show y < L by omega)
            obtain ⟨y0, y1⟩ := dt_read HW4.out (show y + 1 < L by omega)
            have xz := rown.row_lt HW4.out
            have xf := free_row HW4.out
            rw [hp] at x0 x1 HPT HI2
            rw [hq] at y0 y1 HPT HI2
            generalize hN : put2 (put2 e (y + 1) p) y q = e' at *
            clear hN hp hq hlq HD HI HW HF HW4
            go_wp2
            go_region
            obtain ⟨w9, hw9⟩ : ∃ w9, w9 = ((((w4.setCell ⟨g, (y + 1) * 2, none⟩ (.int .i64 p.1)).setCell ⟨g, (y + 1) * 2 + 1, none⟩ (.int .i64 p.2)).setCell ⟨g, y * 2, none⟩ (.int .i64 q.1)).setCell ⟨g, y * 2 + 1, none⟩ (.int .i64 q.2)).drew := ⟨_, rfl⟩
            rw [← hw9]
            have HO9 := Lib.hid (show w9.ownsRow _ _ _ _ _ _ by rw [hw9]; exact rown.ownsRow_kept HPT.out (Below.refl _ _).drew)
            have HF9 := Lib.hid (show OnlyF (fun x => x = g) w w9 by rw [hw9]; exact ((((HF4.out.setCell rfl _).setCell rfl _).setCell rfl _).setCell rfl _).drew)
            clear hw9 x0 x1 y0 y1 xf xz HPT HF4
            go_wp2
            go_roundw
            case rel => exact ⟨y, e', rfl, by omega, HI2, HO9, HF9⟩
            case measure => simp [intOf] <;> omega
          · have hrr : ¬ r < 0 := by have := HD.out; rw [decide_eq_false hlq] at this; simpa using this
            have HA2 := Lib.hid (HI.out.stop (.inr (by rw [show y + 1 - 1 = y by omega, hp, hq]; exact hlq)))
            have HS2 := Lib.hid HI.out.S
            clear hp hq hlq HD HI HW HF
            go_wp2
            go_roundw
            case rel => exact ⟨k + 1, e, by omega, by go_num, HA2, HS2, HW4, HF4⟩
            case measure => simp [intOf] <;> omega
        · obtain rfl : x = a := by omega
          have hgt : ¬ (x : Int) < (x : Int) := by omega
          have HA2 := Lib.hid (HI.out.stop (.inl rfl))
          have HS2 := Lib.hid HI.out.S
          clear HI
          go_wp2
          refine wp_region_quiet_kept (by assumption) (by kernel_rfl) ?_
          repeat (first | go_big_quiet_step (fail) | quiet_step (fail))
          refine wpQuiet_nil ?_
          intro w4 hw'
          have hB : Below wr.heap.size wr w4 := by obtain ⟨⟨wk, hb0⟩, hw''⟩ := hw'; rw [hw'']; exact hb0
          clear hw'
          have HW4 := Lib.hid (rown.ownsRow_kept HW.out hB)
          have HF4 := Lib.hid (HF.out.trans (only_below hB))
          clear hB HW HF
          go_wp2
          go_roundw
          case rel => exact ⟨k + 1, e, by omega, by go_num, HA2, HS2, HW4, HF4⟩
          case measure => simp [intOf] <;> omega
    · have hnk : ¬ (k : Int) < (b : Int) := by omega
      go_wp2
      go_end0
      refine ⟨rfl, e, fun i j h1 h2 h3 => HA.out i j h1 h2 (by omega), ?_, HW.out, HF.out⟩
      rcases hk1 with h | h
      · exact HS.out.wide (Nat.le_refl _) h
      · exact (same_one HA.out HS.out h).wide (Nat.le_refl _) hab
end Go.Proofs.Ytkcfghbkcgommab.srt

namespace Go.Proofs.Ytkcfghbkcgommab.srt

open Go.ChangeShapes Go.WideShapes Go.ChangeAt Go.RowKit Go.Joins

open Go.Proofs.Ytkcfghbkcgommab.core Go.Proofs.Ytkcfghbkcgommab.rown Go.Proofs.Ytkcfghbkcgommab.stk Go.Proofs.Ytkcfghbkcgommab.boxed Go.Proofs.Ytkcfghbkcgommab.put3 Go.Proofs.Ytkcfghbkcgommab.ft Go.Proofs.Ytkcfghbkcgommab.revQ Go.Proofs.Ytkcfghbkcgommab.env
set_option linter.unusedVariables false
set_option linter.unusedSimpArgs false
structure MP (d : Nat → P2) (a m b : Nat) : Prop where
  l : Asc d a m
  r : Asc d m b
  x : ∀ i j, a ≤ i → i < m → m ≤ j → j < b → (d i).1 < (d j).1
/-- Less, or the same. -/
def le2 (p q : P2) : Prop := p = q ∨ lt2 p q
theorem Asc.le {d : Nat → P2} {a b i j : Nat} (h : Asc d a b) (h1 : a ≤ i) (h2 : i ≤ j) (h3 : j < b) : le2 (d i) (d j) := by
  by_cases e : i = j
  · exact .inl (by rw [e])
  · exact .inr (h i j h1 (by omega) h3)
theorem le2_lt {p q r : P2} (h : le2 p q) (k : lt2 q r) : lt2 p r := by
  rcases h with rfl | h
  · exact k
  · exact lt2_trans h k
theorem lt_le2 {p q r : P2} (h : lt2 p q) (k : le2 q r) : lt2 p r := by
  rcases k with rfl | k
  · exact h
  · exact lt2_trans h k
/-- The element at a moves up to k. -/
def UP (d : Nat → P2) (a k : Nat) (x : Nat) : P2 := if a ≤ x ∧ x < k then d (x + 1) else if x = k then d a else d x
theorem UP_zero (d : Nat → P2) (a x : Nat) : d x = UP d a a x := by
  unfold UP; rw [if_neg (by omega)]; split
  · rename_i h; rw [h]
  · rfl
theorem UP_at {d : Nat → P2} {a k : Nat} : UP d a k k = d a := by unfold UP; rw [if_neg (by omega), if_pos rfl]
theorem UP_next {d : Nat → P2} {a k : Nat} : UP d a k (k + 1) = d (k + 1) := by unfold UP; rw [if_neg (by omega), if_neg (by omega)]
theorem UP_step {d : Nat → P2} {a k : Nat} (h : a ≤ k) (x : Nat) : put2 (put2 (UP d a k) k (d (k + 1))) (k + 1) (d a) x = UP d a (k + 1) x := by
  unfold put2 UP
  repeat' split
  all_goals first | omega | rfl | (subst_vars; rfl) | (congr 1; omega)
theorem UP_same {d : Nat → P2} {a k b : Nat} (h : a ≤ k) (hk : k < b) : Same a b d (UP d a k) := by
  refine ⟨fun j hj => ?_, fun j h1 h2 => ?_, fun i h1 h2 => ?_⟩
  · unfold UP; rw [if_neg (by omega), if_neg (by omega)]
  · unfold UP
    by_cases h3 : a ≤ j ∧ j < k
    · exact ⟨j + 1, by omega, by omega, by rw [if_pos h3]⟩
    · by_cases h4 : j = k
      · exact ⟨a, by omega, by omega, by rw [if_neg h3, if_pos h4]⟩
      · exact ⟨j, h1, h2, by rw [if_neg h3, if_neg h4]⟩
  · unfold UP
    by_cases h3 : i = a
    · exact ⟨k, h, hk, by rw [if_neg (by omega), if_pos rfl, h3]⟩
    · by_cases h4 : i ≤ k
      · exact ⟨i - 1, by omega, by omega, by rw [if_pos (by omega), show i - 1 + 1 = i by omega]⟩
      · exact ⟨i, h1, h2, by rw [if_neg (by omega), if_neg (by omega)]⟩
theorem UP_asc {d : Nat → P2} {a b i : Nat} (hM : MP d a (a + 1) b) (h1 : a + 1 ≤ i) (h2 : i ≤ b) (hp : i = a + 1 ∨ (d (i - 1)).2 < (d a).2) (hq : i = b ∨ ¬ (d i).2 < (d a).2) : Asc (UP d a (i - 1)) a b := by
  have lo : ∀ x, a + 1 ≤ x → x < i → lt2 (d x) (d a) := fun x hx1 hx2 => by
    rcases hp with hp | hp
    · omega
    · exact le2_lt (hM.r.le hx1 (show x ≤ i - 1 by omega) (by omega)) (.inl hp)
  have hi : ∀ x, i ≤ x → x < b → lt2 (d a) (d x) := fun x hx1 hx2 => by
    rcases hq with hq | hq
    · omega
    · have hx := hM.x a i (Nat.le_refl _) (by omega) (by omega) (by omega)
      exact lt_le2 (show lt2 (d a) (d i) by unfold lt2; omega) (hM.r.le (by omega) hx1 hx2)
  intro x y hx hxy hy
  unfold UP
  by_cases c1 : a ≤ x ∧ x < i - 1
  · rw [if_pos c1]
    by_cases c2 : a ≤ y ∧ y < i - 1
    · rw [if_pos c2]; exact hM.r _ _ (by omega) (by omega) (by omega)
    · rw [if_neg c2]
      by_cases c3 : y = i - 1
      · rw [if_pos c3]; exact lo _ (by omega) (by omega)
      · rw [if_neg c3]; exact hM.r _ _ (by omega) (by omega) hy
  · rw [if_neg c1]
    by_cases c4 : x = i - 1
    · rw [if_pos c4, if_neg (by omega), if_neg (by omega)]
      exact hi y (by omega) hy
    · rw [if_neg c4, if_neg (by omega), if_neg (by omega)]
      exact hM.r _ _ (by omega) hxy hy
/-- The element at m moves down to k. -/
def DN (d : Nat → P2) (m k : Nat) (x : Nat) : P2 := if k < x ∧ x ≤ m then d (x - 1) else if x = k then d m else d x
theorem DN_zero (d : Nat → P2) (m x : Nat) : d x = DN d m m x := by
  unfold DN; rw [if_neg (by omega)]; split
  · rename_i h; rw [h]
  · rfl
theorem DN_at {d : Nat → P2} {m k : Nat} : DN d m k k = d m := by unfold DN; rw [if_neg (by omega), if_pos rfl]
theorem DN_prev {d : Nat → P2} {m k : Nat} : DN d m (k + 1) k = d k := by unfold DN; rw [if_neg (by omega), if_neg (by omega)]
theorem DN_step {d : Nat → P2} {m k : Nat} (h : k < m) (x : Nat) : put2 (put2 (DN d m (k + 1)) (k + 1) (d k)) k (d m) x = DN d m k x := by
  unfold put2 DN
  repeat' split
  all_goals first | omega | rfl | (subst_vars; rfl) | (congr 1; omega)
theorem DN_same {d : Nat → P2} {a m k : Nat} (ha : a ≤ k) (h : k ≤ m) : Same a (m + 1) d (DN d m k) := by
  refine ⟨fun j hj => ?_, fun j h1 h2 => ?_, fun i h1 h2 => ?_⟩
  · unfold DN; rw [if_neg (by omega), if_neg (by omega)]
  · unfold DN
    by_cases h3 : k < j ∧ j ≤ m
    · exact ⟨j - 1, by omega, by omega, by rw [if_pos h3]⟩
    · by_cases h4 : j = k
      · exact ⟨m, by omega, by omega, by rw [if_neg h3, if_pos h4]⟩
      · exact ⟨j, h1, h2, by rw [if_neg h3, if_neg h4]⟩
  · unfold DN
    by_cases h3 : i = m
    · exact ⟨k, ha, by omega, by rw [if_neg (by omega), if_pos rfl, h3]⟩
    · by_cases h4 : k ≤ i
      · exact ⟨i + 1, by omega, by omega, by rw [if_pos (by omega), show i + 1 - 1 = i by omega]⟩
      · exact ⟨i, h1, h2, by rw [if_neg (by omega), if_neg (by omega)]⟩
theorem DN_asc {d : Nat → P2} {a m i : Nat} (hM : MP d a m (m + 1)) (h1 : a ≤ i) (h2 : i ≤ m) (hp : i = a ∨ ¬ (d m).2 < (d (i - 1)).2) (hq : i = m ∨ (d m).2 < (d i).2) : Asc (DN d m i) a (m + 1) := by
  have lo : ∀ x, a ≤ x → x < i → lt2 (d x) (d m) := fun x hx1 hx2 => by
    rcases hp with hp | hp
    · omega
    · have hx := hM.x (i - 1) m (by omega) (by omega) (Nat.le_refl _) (by omega)
      exact le2_lt (hM.l.le hx1 (show x ≤ i - 1 by omega) (by omega)) (show lt2 (d (i - 1)) (d m) by unfold lt2; omega)
  have hi : ∀ x, i ≤ x → x < m → lt2 (d m) (d x) := fun x hx1 hx2 => by
    rcases hq with hq | hq
    · omega
    · exact lt_le2 (.inl hq) (hM.l.le h1 hx1 hx2)
  intro x y hx hxy hy
  unfold DN
  by_cases c1 : i < x ∧ x ≤ m
  · rw [if_pos c1, if_pos (by omega)]
    exact hM.l _ _ (by omega) (by omega) (by omega)
  · rw [if_neg c1]
    by_cases c4 : x = i
    · rw [if_pos c4, if_pos (by omega)]
      exact hi _ (by omega) (by omega)
    · rw [if_neg c4]
      by_cases c2 : i < y ∧ y ≤ m
      · rw [if_pos c2]; exact hM.l _ _ hx (by omega) (by omega)
      · rw [if_neg c2]
        by_cases c3 : y = i
        · rw [if_pos c3]; exact lo x hx (by omega)
        · rw [if_neg c3]; exact hM.l _ _ hx hxy (by omega)
/-- What the search by halves finds. -/
structure CutAt (d : Nat → P2) (a m b mid s t : Nat) : Prop where
  ord : a ≤ s ∧ s ≤ mid ∧ s ≤ m ∧ m ≤ t ∧ mid ≤ t ∧ t ≤ b
  sum : s + t = mid + m
  lo : s = a ∨ t = b ∨ ¬ (d t).2 < (d (s - 1)).2
  hi : t = m ∨ s = m ∨ (d (t - 1)).2 < (d s).2
section

variable {d : Nat → P2} {a m b mid s t : Nat}
theorem RT_1 (h : CutAt d a m b mid s t) {x : Nat} (h1 : x < s) : RT d s m t x = d x := by
  have := h.ord; have := h.sum; unfold RT; rw [if_neg (by omega), if_neg (by omega)]
theorem RT_2 (h : CutAt d a m b mid s t) {x : Nat} (h1 : s ≤ x) (h2 : x < mid) : RT d s m t x = d (x + (m - s)) := by
  have := h.ord; have := h.sum; unfold RT; rw [if_pos (by omega)]
theorem RT_3 (h : CutAt d a m b mid s t) {x : Nat} (h1 : mid ≤ x) (h2 : x < t) : RT d s m t x = d (x - (t - m)) := by
  have := h.ord; have := h.sum; unfold RT; rw [if_neg (by omega), if_pos (by omega)]
theorem RT_4 (h : CutAt d a m b mid s t) {x : Nat} (h1 : t ≤ x) : RT d s m t x = d x := by
  have := h.ord; have := h.sum; unfold RT; rw [if_neg (by omega), if_neg (by omega)]
theorem cut_left (h : CutAt d a m b mid s t) (hM : MP d a m b) : MP (RT d s m t) a s mid := by
  have o := h.ord; have q := h.sum
  refine ⟨fun i j h1 h2 h3 => ?_, fun i j h1 h2 h3 => ?_, fun i j h1 h2 h3 h4 => ?_⟩
  · rw [RT_1 h (by omega), RT_1 h h3]; exact hM.l i j h1 h2 (by omega)
  · rw [RT_2 h h1 (by omega), RT_2 h (by omega) h3]; exact hM.r _ _ (by omega) (by omega) (by omega)
  · rw [RT_1 h h2, RT_2 h h3 h4]; exact hM.x _ _ h1 (by omega) (by omega) (by omega)
theorem cut_right (h : CutAt d a m b mid s t) (hM : MP d a m b) : MP (RT d s m t) mid t b := by
  have o := h.ord; have q := h.sum
  refine ⟨fun i j h1 h2 h3 => ?_, fun i j h1 h2 h3 => ?_, fun i j h1 h2 h3 h4 => ?_⟩
  · rw [RT_3 h h1 (by omega), RT_3 h (by omega) h3]; exact hM.l _ _ (by omega) (by omega) (by omega)
  · rw [RT_4 h h1, RT_4 h (by omega)]; exact hM.r i j (by omega) h2 h3
  · rw [RT_3 h h1 h2, RT_4 h h3]; exact hM.x _ _ (by omega) (by omega) (by omega) h4
theorem cut_cross (h : CutAt d a m b mid s t) (hM : MP d a m b) {x y : Nat} (h1 : a ≤ x) (h2 : x < mid) (h3 : mid ≤ y) (h4 : y < b) : lt2 (RT d s m t x) (RT d s m t y) := by
  have o := h.ord; have q := h.sum
  by_cases c1 : x < s
  · rw [RT_1 h c1]
    by_cases c2 : y < t
    · rw [RT_3 h h3 c2]; exact hM.l _ _ h1 (by omega) (by omega)
    · rw [RT_4 h (by omega)]
      rcases h.lo with e | e | e
      · omega
      · omega
      · have hx := hM.x (s - 1) t (by omega) (by omega) (by omega) (by omega)
        exact le2_lt (hM.l.le h1 (show x ≤ s - 1 by omega) (by omega)) (lt_le2 (show lt2 (d (s - 1)) (d t) by unfold lt2; omega) (hM.r.le (by omega) (show t ≤ y by omega) h4))
  · rw [RT_2 h (by omega) h2]
    by_cases c2 : y < t
    · rw [RT_3 h h3 c2]
      rcases h.hi with e | e | e
      · omega
      · omega
      · exact le2_lt (hM.r.le (by omega) (show x + (m - s) ≤ t - 1 by omega) (by omega)) (lt_le2 (.inl e) (hM.l.le (by omega) (show s ≤ y - (t - m) by omega) (by omega)))
    · rw [RT_4 h (by omega)]; exact hM.r _ _ (by omega) (by omega) h4
theorem cut_same (h : CutAt d a m b mid s t) : Same a b d (RT d s m t) := by
  have o := h.ord; have q := h.sum
  refine ⟨fun j hj => ?_, fun j h1 h2 => ?_, fun i h1 h2 => ?_⟩
  · by_cases c : j < s
    · exact RT_1 h c
    · exact RT_4 h (by omega)
  · by_cases c1 : j < s
    · exact ⟨j, h1, h2, RT_1 h c1⟩
    · by_cases c2 : j < mid
      · exact ⟨j + (m - s), by omega, by omega, RT_2 h (by omega) c2⟩
      · by_cases c3 : j < t
        · exact ⟨j - (t - m), by omega, by omega, RT_3 h (by omega) c3⟩
        · exact ⟨j, h1, h2, RT_4 h (by omega)⟩
  · by_cases c1 : i < s
    · exact ⟨i, h1, h2, RT_1 h c1⟩
    · by_cases c2 : i < m
      · exact ⟨i + (t - m), by omega, by omega, by rw [RT_3 h (by omega) (by omega)]; congr 1; omega⟩
      · by_cases c3 : i < t
        · exact ⟨i - (m - s), by omega, by omega, by rw [RT_2 h (by omega) (by omega)]; congr 1; omega⟩
        · exact ⟨i, h1, h2, RT_4 h (by omega)⟩
theorem cut_none (h : CutAt d a m b mid s t) (he : s = m ∨ t = m) (x : Nat) : d x = RT d s m t x := by
  have o := h.ord; have q := h.sum
  unfold RT
  repeat' split
  all_goals first | omega | rfl | (congr 1; omega)
theorem cut_end {e f : Nat → P2} (h : CutAt d a m b mid s t) (hM : MP d a m b) (h1 : Asc e a mid) (s1 : Same a mid (RT d s m t) e) (h2 : Asc f mid b) (s2 : Same mid b e f) : Asc f a b ∧ Same a b d f := by
  have o := h.ord
  refine ⟨fun x y hx hxy hy => ?_, (cut_same h).trans ((s1.wide (Nat.le_refl _) (by omega)).trans (s2.wide (by omega) (Nat.le_refl _)))⟩
  by_cases c1 : y < mid
  · rw [s2.out x (by omega), s2.out y (by omega)]; exact h1 x y hx hxy c1
  · by_cases c2 : mid ≤ x
    · exact h2 x y c2 hxy hy
    · rw [s2.out x (by omega)]
      obtain ⟨x', a1, a2, a3⟩ := s1.into x hx (by omega)
      obtain ⟨y', b1, b2, b3⟩ := s2.into y (by omega) hy
      rw [a3, b3, s1.out y' (by omega)]
      exact cut_cross h hM a1 a2 b1 b2
end

end Go.Proofs.Ytkcfghbkcgommab.srt

namespace Go.Proofs.Ytkcfghbkcgommab.srt

open Go.ChangeShapes Go.WideShapes Go.ChangeAt Go.RowKit Go.Joins

open Go.Proofs.Ytkcfghbkcgommab.core Go.Proofs.Ytkcfghbkcgommab.rown Go.Proofs.Ytkcfghbkcgommab.stk Go.Proofs.Ytkcfghbkcgommab.boxed Go.Proofs.Ytkcfghbkcgommab.put3 Go.Proofs.Ytkcfghbkcgommab.ft Go.Proofs.Ytkcfghbkcgommab.revQ Go.Proofs.Ytkcfghbkcgommab.env
set_option linter.unusedVariables false
set_option linter.unusedSimpArgs false
set_option maxRecDepth 100000 in
set_option maxHeartbeats 4000000 in
theorem symOne {base g L c : Nat} {d : Nat → P2} (a b : Nat) (w : World) (hL : L ≤ 1000) (hm : a + 1 < b) (hb : b ≤ L) (hM : MP d a (a + 1) b) (ho : Dt base g L c w d) :
    Calls Try.prog 58 #[.slice (some ⟨g, 0, none⟩) L c, .int .i64 (a : Int), .int .i64 (((a + 1 : Nat)) : Int), .int .i64 (b : Int), .func (.func 19) #[] #[]] w fun e w' => e = .returned (.tuple #[]) ∧ ∃ d', Asc d' a b ∧ Same a b d d' ∧ Dt base g L c w' d' ∧ OnlyF (fun x => x = g) w w' := by
  have HO := Lib.hid ho
  have HM := Lib.hid hM
  have hmx : Try.prog.follows .mixedOrders = true := by kernel_rfl
  have HC := Lib.hid (fun a b c d W => compareI a b c d W)
  have HZ := Lib.hid (show a + 1 = a + 1 from rfl)
  obtain ⟨m, hm'⟩ : ∃ m, a + 1 = m := ⟨_, rfl⟩
  rw [hm'] at HM hm ⊢
  have HME := Lib.hid hm'
  have ham : a < m := by omega
  have e0 : IntKind.i64.wrap ((m : Int) - (a : Int)) = 1 := by rw [IntWalk.i64_in _ (by omega)]; omega
  clear ho hM HZ hm'
  go_enter Try.func58, Try.ntmps58
  go_wp2
  go_loopw [10, 11] (fun i j w' => ∃ (p q : Nat), i = .int .i64 (p : Int) ∧ j = .int .i64 (q : Int) ∧ (m ≤ p ∧ p ≤ q ∧ q ≤ b) ∧ Hid (p = m ∨ (d (p - 1)).2 < (d a).2) ∧ Hid (q = b ∨ (d a).2 ≤ (d q).2) ∧ Hid (Dt base g L c w' d) ∧ Hid (OnlyF (fun x => x = g) w w')) (fun i j _ => (intOf j).toNat - (intOf i).toNat)
  case atStart => exact ⟨m, b, rfl, rfl, by omega, Lib.hid (.inl rfl), Lib.hid (.inl rfl), HO, Lib.hid (OnlyF.refl _ _)⟩
  case round =>
    obtain ⟨p, q, rfl, rfl, hpq, HP, HQ, HW, HF⟩ := hrel
    by_cases hlt : p < q
    · have hli : (p : Int) < (q : Int) := by omega
      have f1 : IntKind.i64.wrap ((p : Int) + (q : Int)) = (p : Int) + (q : Int) := IntWalk.i64_in _ (by omega)
      obtain ⟨h, hH⟩ : ∃ h, (p + q) / 2 = h := ⟨_, rfl⟩
      have f2 : ((p : Int) + (q : Int)) / 2 = (h : Int) := by omega
      have hp : p ≤ h ∧ h < q := by omega
      have HH := Lib.hid hp
      clear hH
      have hhL : h < L := by omega
      have hhi : (h : Int) < (L : Int) := by omega
      have haL : a < L := by omega
      have hai : (a : Int) < (L : Int) := by omega
      have f3 : IntKind.i64.wrap ((h : Int) + 1) = (h : Int) + 1 := IntWalk.i64_in _ (by omega)
      obtain ⟨x0, x1⟩ := dt_read HW.out hhL
      obtain ⟨y0, y1⟩ := dt_read HW.out haL
      have xz := rown.row_lt HW.out
      obtain ⟨u, hu⟩ : ∃ u, d h = u := ⟨_, rfl⟩
      obtain ⟨v, hv⟩ : ∃ v, d a = v := ⟨_, rfl⟩
      rw [hu] at x0 x1
      rw [hv] at y0 y1
      have X0 := core.cell_kept (a := ⟨g, h * 2, none⟩) xz x0
      have X1 := core.cell_kept (a := ⟨g, h * 2 + 1, none⟩) xz x1
      have Y0 := core.cell_kept (a := ⟨g, a * 2, none⟩) xz y0
      have Y1 := core.cell_kept (a := ⟨g, a * 2 + 1, none⟩) xz y1
      have hCC := HC.out u.1 u.2 v.1 v.2
      have HD := Lib.hid (cmpV_lt u.2 v.2)
      obtain ⟨r, hr⟩ : ∃ r, cmpV u.2 v.2 = r := ⟨_, rfl⟩
      rw [hr] at hCC HD
      have HU := Lib.hid hu
      have HV := Lib.hid hv
      have HPQ := Lib.hid hpq
      clear hr hu hv hp
      go_wp2
      refine wp_region_quiet_kept (by assumption) (by kernel_rfl) ?_
      repeat (first | go_big_quiet_step ((go_at_call 19; with_reducible exact Calls.kept_of (hCC _))) | quiet_step ((go_at_call 19; with_reducible exact Calls.kept_of (hCC _))))
      refine wpQuiet_nil ?_
      intro w4 hw'
      have hB : Below wr.heap.size wr w4 := by obtain ⟨⟨wk, hb0⟩, hw''⟩ := hw'; rw [hw'']; exact hb0
      clear hw' X0 X1 Y0 Y1 hCC
      have HW4 := Lib.hid (rown.ownsRow_kept HW.out hB)
      have HF4 := Lib.hid (HF.out.trans (only_below hB))
      clear x0 x1 y0 y1 xz hB
      by_cases hlq : u.2 < v.2
      · have hrr : r < 0 := by have := HD.out; rw [decide_eq_true hlq] at this; simpa using this
        have HP2 := Lib.hid (show h + 1 = m ∨ (d (h + 1 - 1)).2 < (d a).2 from .inr (by rw [show h + 1 - 1 = h by omega, HU.out, HV.out]; exact hlq))
        clear hlq HD
        go_wp2
        go_roundw
        case rel => exact ⟨h + 1, q, by go_num, rfl, by have := HH.out; have := HPQ.out; omega, HP2, HQ, HW4, HF4⟩
        case measure => have := HH.out; simp [intOf] <;> omega
      · have hrr : ¬ r < 0 := by have := HD.out; rw [decide_eq_false hlq] at this; simpa using this
        have HQ2 := Lib.hid (show h = b ∨ (d a).2 ≤ (d h).2 from .inr (by rw [HU.out, HV.out]; omega))
        clear hlq HD
        go_wp2
        go_roundw
        case rel => exact ⟨p, h, rfl, rfl, by have := HH.out; have := HPQ.out; omega, HP, HQ2, HW4, HF4⟩
        case measure => have := HH.out; simp [intOf] <;> omega
    · obtain rfl : p = q := by omega
      have hne : ¬ (p : Int) < (p : Int) := by omega
      obtain ⟨P, hP⟩ : ∃ P, p - 1 = P := ⟨_, rfl⟩
      have g1 : IntKind.i64.wrap ((p : Int) - 1) = (P : Int) := by rw [IntWalk.i64_in _ (by omega)]; omega
      have haP : a ≤ P ∧ P < b := by have := HME.out; omega
      have HPP := Lib.hid (show P = p - 1 from hP.symm)
      have HASC := Lib.hid (UP_asc (i := p) (by rw [HME.out]; exact HM.out) (by have := HME.out; omega) hpq.2.2 (by rw [HME.out]; exact HP.out) (by rcases HQ.out with h | h <;> omega))
      rw [hP] at HASC
      have HSM := Lib.hid (UP_same (d := d) haP.1 haP.2)
      have HW0 := Lib.hid (own_cast2 HW.out (fun x _ => UP_zero d a x))
      clear hP HP HQ HM HW
      go_wp2
      go_loopw [13] (fun j w' => ∃ (k : Nat), j = .int .i64 (k : Int) ∧ (a ≤ k ∧ k ≤ P) ∧ Hid (Dt base g L c w' (UP d a k)) ∧ Hid (OnlyF (fun x => x = g) w w')) (fun j _ => P - (intOf j).toNat)
      case atStart => exact ⟨a, rfl, by omega, HW0, HF⟩
      case round =>
        obtain ⟨k, rfl, hk, HW, HF⟩ := hrel
        by_cases hkP : k < P
        · have hki : (k : Int) < (P : Int) := by omega
          obtain ⟨x0, x1⟩ := dt_read HW.out (show k < L by omega)
          obtain ⟨y0, y1⟩ := dt_read HW.out (show k + 1 < L by omega)
          rw [UP_at] at x0 x1
          rw [UP_next] at y0 y1
          have xf := free_row HW.out
          have xz := rown.row_lt HW.out
          have HPT := Lib.hid (own_cast2 (own_put2 (i := k + 1) (own_put2 (i := k) HW.out (by omega) (d (k + 1))) (by omega) (d a)) fun x _ => UP_step hk.1 x)
          obtain ⟨u, hu⟩ : ∃ u, d a = u := ⟨_, rfl⟩
          obtain ⟨v, hv⟩ : ∃ v, d (k + 1) = v := ⟨_, rfl⟩
          rw [hu] at x0 x1 HPT
          rw [hv] at y0 y1 HPT
          have hk1 : (k : Int) + 1 < (L : Int) := by omega
          have hk0 : (k : Int) < (L : Int) := by omega
          have hn1 : k + 1 < L := by omega
          have hn0 : k < L := by omega
          have f1 : IntKind.i64.wrap ((k : Int) + 1) = (k : Int) + 1 := IntWalk.i64_in _ (by omega)
          have hto : ((k : Int) + 1).toNat = k + 1 := by omega
          have h0y : 0 ≤ (k : Int) + 1 := by omega
          clear hu hv HW
          go_wp2
          go_region
          obtain ⟨w9, hw9⟩ : ∃ w9, w9 = ((((wr.setCell ⟨g, k * 2, none⟩ (.int .i64 v.1)).setCell ⟨g, k * 2 + 1, none⟩ (.int .i64 v.2)).setCell ⟨g, (k + 1) * 2, none⟩ (.int .i64 u.1)).setCell ⟨g, (k + 1) * 2 + 1, none⟩ (.int .i64 u.2)).drew := ⟨_, rfl⟩
          rw [← hw9]
          have HO9 := Lib.hid (show w9.ownsRow _ _ _ _ _ _ by rw [hw9]; exact rown.ownsRow_kept HPT.out (Below.refl _ _).drew)
          have HF9 := Lib.hid (show OnlyF (fun x => x = g) w w9 by rw [hw9]; exact ((((HF.out.setCell rfl _).setCell rfl _).setCell rfl _).setCell rfl _).drew)
          clear hw9 x0 x1 y0 y1 xf xz HPT HF
          go_wp2
          go_roundw
          case rel => exact ⟨k + 1, by go_num, by omega, HO9, HF9⟩
          case measure => simp [intOf] <;> omega
        · obtain rfl : k = P := by omega
          have hkk : ¬ (k : Int) < (k : Int) := by omega
          go_wp2
          refine bodyPost_ret (results_none rfl _ _ _) rfl ?_
          exact ⟨rfl, _, HASC.out, HSM.out, HW.out, HF.out⟩
set_option maxRecDepth 100000 in
set_option maxHeartbeats 4000000 in
theorem symTwo {base g L c : Nat} {d : Nat → P2} (a m : Nat) (w : World) (hL : L ≤ 1000) (hm : a + 1 < m) (hb : m + 1 ≤ L) (hM : MP d a m (m + 1)) (ho : Dt base g L c w d) :
    Calls Try.prog 58 #[.slice (some ⟨g, 0, none⟩) L c, .int .i64 (a : Int), .int .i64 (m : Int), .int .i64 ((m + 1 : Nat) : Int), .func (.func 19) #[] #[]] w fun e w' => e = .returned (.tuple #[]) ∧ ∃ d', Asc d' a (m + 1) ∧ Same a (m + 1) d d' ∧ Dt base g L c w' d' ∧ OnlyF (fun x => x = g) w w' := by
  have HO := Lib.hid ho
  have HM := Lib.hid hM
  have hmx : Try.prog.follows .mixedOrders = true := by kernel_rfl
  have HC := Lib.hid (fun a b c d W => compareI a b c d W)
  obtain ⟨D, hD⟩ : ∃ D, m - a = D := ⟨_, rfl⟩
  obtain ⟨b, hb'⟩ : ∃ b, m + 1 = b := ⟨_, rfl⟩
  have e0 : IntKind.i64.wrap ((m : Int) - (a : Int)) = (D : Int) := by rw [IntWalk.i64_in _ (by omega)]; omega
  have e1 : IntKind.i64.wrap ((b : Int) - (m : Int)) = 1 := by rw [IntWalk.i64_in _ (by omega)]; omega
  have hD1 : ¬ (D : Int) = 1 := by omega
  have hD2 : ((D : Int) == 1) = false := by simp; omega
  have hmb : m < b := by omega
  have HBE := Lib.hid hb'
  rw [hb'] at HM hb ⊢
  clear ho hM hb' hD
  go_enter Try.func58, Try.ntmps58
  go_wp2
  go_loopw [14, 15] (fun i j w' => ∃ (p q : Nat), i = .int .i64 (p : Int) ∧ j = .int .i64 (q : Int) ∧ (a ≤ p ∧ p ≤ q ∧ q ≤ m) ∧ Hid (p = a ∨ (d (p - 1)).2 ≤ (d m).2) ∧ Hid (q = m ∨ (d m).2 < (d q).2) ∧ Hid (Dt base g L c w' d) ∧ Hid (OnlyF (fun x => x = g) w w')) (fun i j _ => (intOf j).toNat - (intOf i).toNat)
  case atStart => exact ⟨a, m, rfl, rfl, by omega, Lib.hid (.inl rfl), Lib.hid (.inl rfl), HO, Lib.hid (OnlyF.refl _ _)⟩
  case round =>
    obtain ⟨p, q, rfl, rfl, hpq, HP, HQ, HW, HF⟩ := hrel
    by_cases hlt : p < q
    · have hli : (p : Int) < (q : Int) := by omega
      have f1 : IntKind.i64.wrap ((p : Int) + (q : Int)) = (p : Int) + (q : Int) := IntWalk.i64_in _ (by omega)
      obtain ⟨h, hH⟩ : ∃ h, (p + q) / 2 = h := ⟨_, rfl⟩
      have f2 : ((p : Int) + (q : Int)) / 2 = (h : Int) := by omega
      have hp : p ≤ h ∧ h < q := by omega
      have HH := Lib.hid hp
      clear hH
      have hhL : h < L := by omega
      have hhi : (h : Int) < (L : Int) := by omega
      have haL : m < L := by omega
      have hai : (m : Int) < (L : Int) := by omega
      have f3 : IntKind.i64.wrap ((h : Int) + 1) = (h : Int) + 1 := IntWalk.i64_in _ (by omega)
      obtain ⟨x0, x1⟩ := dt_read HW.out hhL
      obtain ⟨y0, y1⟩ := dt_read HW.out haL
      have xz := rown.row_lt HW.out
      obtain ⟨u, hu⟩ : ∃ u, d h = u := ⟨_, rfl⟩
      obtain ⟨v, hv⟩ : ∃ v, d m = v := ⟨_, rfl⟩
      rw [hu] at x0 x1
      rw [hv] at y0 y1
      have X0 := core.cell_kept (a := ⟨g, h * 2, none⟩) xz x0
      have X1 := core.cell_kept (a := ⟨g, h * 2 + 1, none⟩) xz x1
      have Y0 := core.cell_kept (a := ⟨g, m * 2, none⟩) xz y0
      have Y1 := core.cell_kept (a := ⟨g, m * 2 + 1, none⟩) xz y1
      have hCC := HC.out v.1 v.2 u.1 u.2
      have HD := Lib.hid (cmpV_lt v.2 u.2)
      obtain ⟨r, hr⟩ : ∃ r, cmpV v.2 u.2 = r := ⟨_, rfl⟩
      rw [hr] at hCC HD
      have HU := Lib.hid hu
      have HV := Lib.hid hv
      have HPQ := Lib.hid hpq
      clear hr hu hv hp
      go_wp2
      refine wp_region_quiet_kept (by assumption) (by kernel_rfl) ?_
      repeat (first | go_big_quiet_step ((go_at_call 19; with_reducible exact Calls.kept_of (hCC _))) | quiet_step ((go_at_call 19; with_reducible exact Calls.kept_of (hCC _))))
      refine wpQuiet_nil ?_
      intro w4 hw'
      have hB : Below wr.heap.size wr w4 := by obtain ⟨⟨wk, hb0⟩, hw''⟩ := hw'; rw [hw'']; exact hb0
      clear hw' X0 X1 Y0 Y1 hCC
      have HW4 := Lib.hid (rown.ownsRow_kept HW.out hB)
      have HF4 := Lib.hid (HF.out.trans (only_below hB))
      clear x0 x1 y0 y1 xz hB
      by_cases hlq : v.2 < u.2
      · have hrr : r < 0 := by have := HD.out; rw [decide_eq_true hlq] at this; simpa using this
        have hr2 : (!decide (r < 0)) = false := by rw [decide_eq_true hrr]; rfl
        have HQ2 := Lib.hid (show h = m ∨ (d m).2 < (d h).2 from .inr (by rw [HU.out, HV.out]; exact hlq))
        clear hlq HD
        go_wp2
        all_goals first
          | (exfalso; rename_i hx; rw [hr2] at hx; revert hx; decide)
          | skip
        go_roundw
        case rel => exact ⟨p, h, rfl, rfl, by have := HH.out; have := HPQ.out; omega, HP, HQ2, HW4, HF4⟩
        case measure => have := HH.out; simp [intOf] <;> omega
      · have hrr : ¬ r < 0 := by have := HD.out; rw [decide_eq_false hlq] at this; simpa using this
        have hr2 : (!decide (r < 0)) = true := by rw [decide_eq_false hrr]; rfl
        have HP2 := Lib.hid (show h + 1 = a ∨ (d (h + 1 - 1)).2 ≤ (d m).2 from .inr (by rw [show h + 1 - 1 = h by omega, HU.out, HV.out]; omega))
        clear hlq HD
        go_wp2
        all_goals first
          | (exfalso; rename_i hx; rw [hr2] at hx; revert hx; decide)
          | skip
        go_roundw
        case rel => exact ⟨h + 1, q, by go_num, rfl, by have := HH.out; have := HPQ.out; omega, HP2, HQ, HW4, HF4⟩
        case measure => have := HH.out; simp [intOf] <;> omega
    · obtain rfl : p = q := by omega
      have hne : ¬ (p : Int) < (p : Int) := by omega
      have HASC := Lib.hid (DN_asc (i := p) (by rw [HBE.out]; exact HM.out) hpq.1 hpq.2.2 (by rcases HP.out with h | h <;> omega) HQ.out)
      have HSM := Lib.hid (DN_same (d := d) hpq.1 hpq.2.2)
      rw [HBE.out] at HASC HSM
      have HW0 := Lib.hid (own_cast2 HW.out (fun x _ => DN_zero d m x))
      clear HP HQ HM HW
      go_wp2
      go_loopw [17] (fun j w' => ∃ (k : Nat), j = .int .i64 (k : Int) ∧ (p ≤ k ∧ k ≤ m) ∧ Hid (Dt base g L c w' (DN d m k)) ∧ Hid (OnlyF (fun x => x = g) w w')) (fun j _ => (intOf j).toNat)
      case atStart => exact ⟨m, rfl, by omega, HW0, HF⟩
      case round =>
        obtain ⟨x, rfl, hk, HW, HF⟩ := hrel
        by_cases hkP : p < x
        · obtain ⟨k, rfl⟩ : ∃ k, x = k + 1 := ⟨x - 1, by omega⟩
          obtain ⟨x0, x1⟩ := dt_read HW.out (show k < L by omega)
          obtain ⟨y0, y1⟩ := dt_read HW.out (show k + 1 < L by omega)
          rw [DN_prev] at x0 x1
          rw [DN_at] at y0 y1
          have xf := free_row HW.out
          have xz := rown.row_lt HW.out
          have HPT := Lib.hid (own_cast2 (own_put2 (i := k) (own_put2 (i := k + 1) HW.out (by omega) (d k)) (by omega) (d m)) fun x _ => DN_step (show k < m by omega) x)
          obtain ⟨u, hu⟩ : ∃ u, d k = u := ⟨_, rfl⟩
          obtain ⟨v, hv⟩ : ∃ v, d m = v := ⟨_, rfl⟩
          rw [hu] at x0 x1 HPT
          rw [hv] at y0 y1 HPT
          have hki : (p : Int) < (k : Int) + 1 := by omega
          have hk1 : (k : Int) + 1 < (L : Int) := by omega
          have hk0 : (k : Int) < (L : Int) := by omega
          have hn1 : k + 1 < L := by omega
          have hn0 : k < L := by omega
          have f1 : IntKind.i64.wrap ((k : Int) + 1 - 1) = (k : Int) := by rw [IntWalk.i64_in _ (by omega)]; omega
          have hto : ((k : Int) + 1).toNat = k + 1 := by omega
          have h0y : 0 ≤ (k : Int) + 1 := by omega
          clear hu hv HW
          go_wp2
          go_region
          obtain ⟨w9, hw9⟩ : ∃ w9, w9 = ((((wr.setCell ⟨g, (k + 1) * 2, none⟩ (.int .i64 u.1)).setCell ⟨g, (k + 1) * 2 + 1, none⟩ (.int .i64 u.2)).setCell ⟨g, k * 2, none⟩ (.int .i64 v.1)).setCell ⟨g, k * 2 + 1, none⟩ (.int .i64 v.2)).drew := ⟨_, rfl⟩
          rw [← hw9]
          have HO9 := Lib.hid (show w9.ownsRow _ _ _ _ _ _ by rw [hw9]; exact rown.ownsRow_kept HPT.out (Below.refl _ _).drew)
          have HF9 := Lib.hid (show OnlyF (fun x => x = g) w w9 by rw [hw9]; exact ((((HF.out.setCell rfl _).setCell rfl _).setCell rfl _).setCell rfl _).drew)
          clear hw9 x0 x1 y0 y1 xf xz HPT HF
          go_wp2
          go_roundw
          case rel => exact ⟨k, rfl, by omega, HO9, HF9⟩
          case measure => simp [intOf] <;> omega
        · obtain rfl : x = p := by omega
          have hkk : ¬ (x : Int) < (x : Int) := by omega
          go_wp2
          refine bodyPost_ret (results_none rfl _ _ _) rfl ?_
          exact ⟨rfl, _, HASC.out, HSM.out, HW.out, HF.out⟩
end Go.Proofs.Ytkcfghbkcgommab.srt

namespace Go.Proofs.Ytkcfghbkcgommab.srt

open Go.ChangeShapes Go.WideShapes Go.ChangeAt Go.RowKit Go.Joins

open Go.Proofs.Ytkcfghbkcgommab.core Go.Proofs.Ytkcfghbkcgommab.rown Go.Proofs.Ytkcfghbkcgommab.stk Go.Proofs.Ytkcfghbkcgommab.boxed Go.Proofs.Ytkcfghbkcgommab.put3 Go.Proofs.Ytkcfghbkcgommab.ft Go.Proofs.Ytkcfghbkcgommab.revQ Go.Proofs.Ytkcfghbkcgommab.env
set_option linter.unusedVariables false
set_option linter.unusedSimpArgs false
theorem MP.congr {d e : Nat → P2} {a m b : Nat} (h : MP d a m b) (he : ∀ x, a ≤ x → x < b → e x = d x) (hm : a ≤ m ∧ m ≤ b) : MP e a m b := by
  refine ⟨fun i j h1 h2 h3 => ?_, fun i j h1 h2 h3 => ?_, fun i j h1 h2 h3 h4 => ?_⟩
  · rw [he i h1 (by omega), he j (by omega) (by omega)]; exact h.l i j h1 h2 h3
  · rw [he i (by omega) (by omega), he j (by omega) h3]; exact h.r i j h1 h2 h3
  · rw [he i h1 (by omega), he j (by omega) h4]; exact h.x i j h1 h2 h3 h4
/-- What the merge promises. -/
def SymAt (base g L c N : Nat) : Prop := ∀ (a m b : Nat) (d : Nat → P2) (V : World), b - a ≤ N → a < m → m < b → b ≤ L → MP d a m b → Dt base g L c V d →
    Calls Try.prog 58 #[.slice (some ⟨g, 0, none⟩) L c, .int .i64 (a : Int), .int .i64 (m : Int), .int .i64 (b : Int), .func (.func 19) #[] #[]] V fun e w' => e = .returned (.tuple #[]) ∧ ∃ d', Asc d' a b ∧ Same a b d d' ∧ Dt base g L c w' d' ∧ OnlyF (fun x => x = g) V w'
set_option maxRecDepth 100000 in
set_option maxHeartbeats 16000000 in
theorem symGen {base g L c N : Nat} (hL : L ≤ 1000) (ih : SymAt base g L c N) {d : Nat → P2} (a m b : Nat) (w : World) (hN : b - a ≤ N + 1) (ha : a + 1 < m) (hm : m + 1 < b) (hb : b ≤ L) (hM : MP d a m b) (ho : Dt base g L c w d) :
    Calls Try.prog 58 #[.slice (some ⟨g, 0, none⟩) L c, .int .i64 (a : Int), .int .i64 (m : Int), .int .i64 (b : Int), .func (.func 19) #[] #[]] w fun e w' => e = .returned (.tuple #[]) ∧ ∃ d', Asc d' a b ∧ Same a b d d' ∧ Dt base g L c w' d' ∧ OnlyF (fun x => x = g) w w' := by
  have HO := Lib.hid ho
  have HM := Lib.hid hM
  have IH := Lib.hid (show ∀ (a m b : Nat) (d : Nat → P2) (V : World), b - a ≤ N → a < m → m < b → b ≤ L → MP d a m b → Dt base g L c V d → Calls Try.prog 58 #[.slice (some ⟨g, 0, none⟩) L c, .int .i64 (a : Int), .int .i64 (m : Int), .int .i64 (b : Int), .func (.func 19) #[] #[]] V fun e w' => e = .returned (.tuple #[]) ∧ ∃ d', Asc d' a b ∧ Same a b d d' ∧ Dt base g L c w' d' ∧ OnlyF (fun x => x = g) V w' from ih)
  have hmx : Try.prog.follows .mixedOrders = true := by kernel_rfl
  have HC := Lib.hid (fun a b c d W => compareI a b c d W)
  obtain ⟨D, hD⟩ : ∃ D, m - a = D := ⟨_, rfl⟩
  obtain ⟨E, hE⟩ : ∃ E, b - m = E := ⟨_, rfl⟩
  have e0 : IntKind.i64.wrap ((m : Int) - (a : Int)) = (D : Int) := by rw [IntWalk.i64_in _ (by omega)]; omega
  have e1 : IntKind.i64.wrap ((b : Int) - (m : Int)) = (E : Int) := by rw [IntWalk.i64_in _ (by omega)]; omega
  have hD1 : ¬ (D : Int) = 1 := by omega
  have hD2 : ((D : Int) == 1) = false := by simp; omega
  have hE1 : ¬ (E : Int) = 1 := by omega
  have hE2 : ((E : Int) == 1) = false := by simp; omega
  obtain ⟨M, hMd⟩ : ∃ M, (a + b) / 2 = M := ⟨_, rfl⟩
  have e2 : IntKind.i64.wrap ((a : Int) + (b : Int)) = (a : Int) + (b : Int) := IntWalk.i64_in _ (by omega)
  have e3 : ((a : Int) + (b : Int)) / 2 = (M : Int) := by omega
  have hMb : 2 * M ≤ a + b ∧ a + b ≤ 2 * M + 1 := by omega
  obtain ⟨n, hn⟩ : ∃ n, M + m = n := ⟨_, rfl⟩
  have e4 : IntKind.i64.wrap ((M : Int) + (m : Int)) = (n : Int) := by rw [IntWalk.i64_in _ (by omega)]; omega
  obtain ⟨P, hP⟩ : ∃ P, n - 1 = P := ⟨_, rfl⟩
  have e5 : IntKind.i64.wrap ((n : Int) - 1) = (P : Int) := by rw [IntWalk.i64_in _ (by omega)]; omega
  have HPN := Lib.hid (show P + 1 = n by omega)
  clear ho hM hD hE hMd
  by_cases hmm : M < m
  · have hmi : (M : Int) < (m : Int) := by omega
    obtain ⟨S, hS⟩ : ∃ S, n - b = S := ⟨_, rfl⟩
    have e6 : IntKind.i64.wrap ((n : Int) - (b : Int)) = (S : Int) := by rw [IntWalk.i64_in _ (by omega)]; omega
    go_enter Try.func58, Try.ntmps58
    go_wp2
    go_loopw [20, 21] (fun i j w' => ∃ (s r : Nat), i = .int .i64 (s : Int) ∧ j = .int .i64 (r : Int) ∧ (S ≤ s ∧ s ≤ r ∧ r ≤ M) ∧ Hid (s = S ∨ (d (s - 1)).2 ≤ (d (n - s)).2) ∧ Hid (r = M ∨ (d (P - r)).2 < (d r).2) ∧ Hid (Dt base g L c w' d) ∧ Hid (OnlyF (fun x => x = g) w w')) (fun i j _ => (intOf j).toNat - (intOf i).toNat)
    case atStart => exact ⟨S, M, rfl, rfl, by omega, Lib.hid (.inl rfl), Lib.hid (.inl rfl), HO, Lib.hid (OnlyF.refl _ _)⟩
    case round =>
      obtain ⟨s, r, rfl, rfl, hsr, HP, HQ, HW, HF⟩ := hrel
      by_cases hlt : s < r
      · have hli : (s : Int) < (r : Int) := by omega
        have f1 : IntKind.i64.wrap ((s : Int) + (r : Int)) = (s : Int) + (r : Int) := IntWalk.i64_in _ (by omega)
        obtain ⟨h, hH⟩ : ∃ h, (s + r) / 2 = h := ⟨_, rfl⟩
        have f2 : ((s : Int) + (r : Int)) / 2 = (h : Int) := by omega
        have hp : s ≤ h ∧ h < r := by omega
        have HH := Lib.hid hp
        clear hH
        obtain ⟨Q, hQ⟩ : ∃ Q, P - h = Q := ⟨_, rfl⟩
        have f4 : IntKind.i64.wrap ((P : Int) - (h : Int)) = (Q : Int) := by rw [IntWalk.i64_in _ (by omega)]; omega
        have HQE := Lib.hid hQ
        have hhL : h < L := by omega
        have hhi : (h : Int) < (L : Int) := by omega
        have haL : Q < L := by omega
        have hai : (Q : Int) < (L : Int) := by omega
        have f3 : IntKind.i64.wrap ((h : Int) + 1) = (h : Int) + 1 := IntWalk.i64_in _ (by omega)
        obtain ⟨x0, x1⟩ := dt_read HW.out hhL
        obtain ⟨y0, y1⟩ := dt_read HW.out haL
        have xz := rown.row_lt HW.out
        obtain ⟨v, hv⟩ : ∃ v, d h = v := ⟨_, rfl⟩
        obtain ⟨u, hu⟩ : ∃ u, d Q = u := ⟨_, rfl⟩
        rw [hv] at x0 x1
        rw [hu] at y0 y1
        have X0 := core.cell_kept (a := ⟨g, h * 2, none⟩) xz x0
        have X1 := core.cell_kept (a := ⟨g, h * 2 + 1, none⟩) xz x1
        have Y0 := core.cell_kept (a := ⟨g, Q * 2, none⟩) xz y0
        have Y1 := core.cell_kept (a := ⟨g, Q * 2 + 1, none⟩) xz y1
        have hCC := HC.out u.1 u.2 v.1 v.2
        have HDC := Lib.hid (cmpV_lt u.2 v.2)
        obtain ⟨z, hz⟩ : ∃ z, cmpV u.2 v.2 = z := ⟨_, rfl⟩
        rw [hz] at hCC HDC
        have HU := Lib.hid hu
        have HV := Lib.hid hv
        have HSR := Lib.hid hsr
        clear hz hu hv hp hQ
        go_wp2
        refine wp_region_quiet_kept (by assumption) (by kernel_rfl) ?_
        repeat (first | go_big_quiet_step ((go_at_call 19; with_reducible exact Calls.kept_of (hCC _))) | quiet_step ((go_at_call 19; with_reducible exact Calls.kept_of (hCC _))))
        refine wpQuiet_nil ?_
        intro w4 hw'
        have hB : Below wr.heap.size wr w4 := by obtain ⟨⟨wk, hb0⟩, hw''⟩ := hw'; rw [hw'']; exact hb0
        clear hw' X0 X1 Y0 Y1 hCC
        have HW4 := Lib.hid (rown.ownsRow_kept HW.out hB)
        have HF4 := Lib.hid (HF.out.trans (only_below hB))
        clear x0 x1 y0 y1 xz hB
        by_cases hlq : u.2 < v.2
        · have hrr : z < 0 := by have := HDC.out; rw [decide_eq_true hlq] at this; simpa using this
          have hr2 : (!decide (z < 0)) = false := by rw [decide_eq_true hrr]; rfl
          have HQ2 := Lib.hid (show h = M ∨ (d (P - h)).2 < (d h).2 from .inr (by rw [HQE.out, HU.out, HV.out]; exact hlq))
          clear hlq HDC
          go_wp2
          all_goals first
            | (exfalso; rename_i hx; rw [hr2] at hx; revert hx; decide)
            | skip
          go_roundw
          case rel => exact ⟨s, h, rfl, rfl, by have := HH.out; have := HSR.out; omega, HP, HQ2, HW4, HF4⟩
          case measure => have := HH.out; simp [intOf] <;> omega
        · have hrr : ¬ z < 0 := by have := HDC.out; rw [decide_eq_false hlq] at this; simpa using this
          have hr2 : (!decide (z < 0)) = true := by rw [decide_eq_false hrr]; rfl
          have HP2 := Lib.hid (show h + 1 = S ∨ (d (h + 1 - 1)).2 ≤ (d (n - (h + 1))).2 from .inr (by rw [show h + 1 - 1 = h by omega, show n - (h + 1) = Q by have := HQE.out; have := HPN.out; omega, HU.out, HV.out]; omega))
          clear hlq HDC
          go_wp2
          all_goals first
            | (exfalso; rename_i hx; rw [hr2] at hx; revert hx; decide)
            | skip
          go_roundw
          case rel => exact ⟨h + 1, r, by go_num, rfl, by have := HH.out; have := HSR.out; omega, HP2, HQ, HW4, HF4⟩
          case measure => have := HH.out; simp [intOf] <;> omega
      · obtain rfl : s = r := by omega
        have hne : ¬ (s : Int) < (s : Int) := by omega
        obtain ⟨t, ht⟩ : ∃ t, n - s = t := ⟨_, rfl⟩
        have f5 : IntKind.i64.wrap ((n : Int) - (s : Int)) = (t : Int) := by rw [IntWalk.i64_in _ (by omega)]; omega
        have HCUT := Lib.hid (show CutAt d a m b M s t from ⟨by omega, by omega, by
          rw [ht] at HP
          rcases HP.out with e | e
          · omega
          · exact .inr (.inr (by omega)), by
          have e9 : P - s = t - 1 := by omega
          rw [e9] at HQ
          rcases HQ.out with e | e
          · omega
          · exact .inr (.inr e)⟩)
        clear ht
        have HRT := Lib.hid (fun x => cut_none HCUT.out · x)
        have HL := Lib.hid (cut_left HCUT.out HM.out)
        have HR := Lib.hid (cut_right HCUT.out HM.out)
        have HEND := Lib.hid (fun e f h1 s1 h2 s2 => cut_end (e := e) (f := f) HCUT.out HM.out h1 s1 h2 s2)
        have HROT := Lib.hid (fun h1 h2 => rotR (c := c) (d := d) s m t wr hL h1 h2 (by have := HCUT.out.ord; omega) HW.out)
        have ho := HCUT.out.ord
        have hsum := HCUT.out.sum
        clear HP HQ HCUT HM
        generalize hE : RT d s m t = E at *
        clear hE
        by_cases q1 : s < m
        · by_cases q2 : m < t
          · have i1 : (s : Int) < (m : Int) := by omega
            have i2 : (m : Int) < (t : Int) := by omega
            have i3 : (s : Int) < (M : Int) := by omega
            have i4 : (M : Int) < (t : Int) := by omega
            have H1 := Lib.hid (HROT.out q1 q2)
            clear HROT HRT HW
            go_wp2_with fail
            refine H1.out.mono ?_
            rintro _ V0 ⟨rfl, hd0, hf0⟩
            have HD0 := Lib.hid hd0
            have HF0 := Lib.hid (HF.out.trans hf0)
            clear hd0 hf0 H1 HF
            by_cases q3 : a < s
            · have i5 : (a : Int) < (s : Int) := by omega
              have H1 := Lib.hid (IH.out a s M _ _ (by omega) (by omega) (by omega) (by omega) HL.out HD0.out)
              go_wp2_with fail
              refine H1.out.mono ?_
              rintro _ V1 ⟨rfl, E1, ha1, hs1, hd1, hf1⟩
              have HA1 := Lib.hid ha1
              have HS1 := Lib.hid hs1
              have HD1 := Lib.hid hd1
              have HF1 := Lib.hid (HF0.out.trans hf1)
              clear ha1 hs1 hd1 hf1 H1
              by_cases q4 : t < b
              · have i6 : (t : Int) < (b : Int) := by omega
                have H1 := Lib.hid (IH.out M t b _ _ (by omega) (by omega) (by omega) (by omega) (HR.out.congr (fun x h1 h2 => HS1.out.out x (by omega)) (by omega)) HD1.out)
                go_wp2_with fail
                refine H1.out.mono ?_
                rintro _ V2 ⟨rfl, E2, ha2, hs2, hd2, hf2⟩
                have HA2 := Lib.hid ha2
                have HS2 := Lib.hid hs2
                have HD2 := Lib.hid hd2
                have HF2 := Lib.hid (HF1.out.trans hf2)
                clear ha2 hs2 hd2 hf2 H1
                go_wp2
                all_goals first | go_end0 | refine bodyPost_ret (results_none rfl _ _ _) rfl ?_
                all_goals exact ⟨rfl, _, (HEND.out _ _ HA1.out HS1.out HA2.out HS2.out).1, (HEND.out _ _ HA1.out HS1.out HA2.out HS2.out).2, HD2.out, HF2.out⟩
              · have i6 : ¬ (t : Int) < (b : Int) := by omega
                have i7 : decide ((t : Int) < (b : Int)) = false := decide_eq_false i6
                go_wp2
                all_goals first | go_end0 | refine bodyPost_ret (results_none rfl _ _ _) rfl ?_
                all_goals exact ⟨rfl, _, (HEND.out _ _ HA1.out HS1.out (fun x y h1 h2 h3 => ((HR.out.congr (fun x h1 h2 => HS1.out.out x (by omega)) (by omega))).l x y h1 h2 (by omega)) (Same.refl _ _ _)).1, (HEND.out _ _ HA1.out HS1.out (fun x y h1 h2 h3 => ((HR.out.congr (fun x h1 h2 => HS1.out.out x (by omega)) (by omega))).l x y h1 h2 (by omega)) (Same.refl _ _ _)).2, HD1.out, HF1.out⟩
            · have i5 : ¬ (a : Int) < (s : Int) := by omega
              have i8 : decide ((a : Int) < (s : Int)) = false := decide_eq_false i5
              by_cases q4 : t < b
              · have i6 : (t : Int) < (b : Int) := by omega
                have H1 := Lib.hid (IH.out M t b _ _ (by omega) (by omega) (by omega) (by omega) HR.out HD0.out)
                go_wp2_with fail
                refine H1.out.mono ?_
                rintro _ V2 ⟨rfl, E2, ha2, hs2, hd2, hf2⟩
                have HA2 := Lib.hid ha2
                have HS2 := Lib.hid hs2
                have HD2 := Lib.hid hd2
                have HF2 := Lib.hid (HF0.out.trans hf2)
                clear ha2 hs2 hd2 hf2 H1
                go_wp2
                all_goals first | go_end0 | refine bodyPost_ret (results_none rfl _ _ _) rfl ?_
                all_goals exact ⟨rfl, _, (HEND.out _ _ (fun x y h1 h2 h3 => HL.out.r x y (by omega) h2 h3) (Same.refl _ _ _) HA2.out HS2.out).1, (HEND.out _ _ (fun x y h1 h2 h3 => HL.out.r x y (by omega) h2 h3) (Same.refl _ _ _) HA2.out HS2.out).2, HD2.out, HF2.out⟩
              · have i6 : ¬ (t : Int) < (b : Int) := by omega
                have i7 : decide ((t : Int) < (b : Int)) = false := decide_eq_false i6
                go_wp2
                all_goals first | go_end0 | refine bodyPost_ret (results_none rfl _ _ _) rfl ?_
                all_goals exact ⟨rfl, _, (HEND.out _ _ (fun x y h1 h2 h3 => HL.out.r x y (by omega) h2 h3) (Same.refl _ _ _) (fun x y h1 h2 h3 => (HR.out).l x y h1 h2 (by omega)) (Same.refl _ _ _)).1, (HEND.out _ _ (fun x y h1 h2 h3 => HL.out.r x y (by omega) h2 h3) (Same.refl _ _ _) (fun x y h1 h2 h3 => (HR.out).l x y h1 h2 (by omega)) (Same.refl _ _ _)).2, HD0.out, HF0.out⟩
          · have i1 : (s : Int) < (m : Int) := by omega
            have i2 : ¬ (m : Int) < (t : Int) := by omega
            have i2' : decide ((m : Int) < (t : Int)) = false := decide_eq_false i2
            have i3 : ¬ (s : Int) < (M : Int) := by omega
            have i3' : decide ((s : Int) < (M : Int)) = false := decide_eq_false i3
            have i4 : (M : Int) < (t : Int) := by omega
            have i5 : (a : Int) < (s : Int) := by omega
            have i6 : (t : Int) < (b : Int) := by omega
            have HD0 := Lib.hid (own_cast2 HW.out (fun x _ => HRT.out (.inr (by omega)) x))
            have HF0 := HF
            clear HROT HRT HW HF
            have H1 := Lib.hid (IH.out M t b _ _ (by omega) (by omega) (by omega) (by omega) HR.out HD0.out)
            go_wp2_with fail
            refine H1.out.mono ?_
            rintro _ V2 ⟨rfl, E2, ha2, hs2, hd2, hf2⟩
            have HA2 := Lib.hid ha2
            have HS2 := Lib.hid hs2
            have HD2 := Lib.hid hd2
            have HF2 := Lib.hid (HF0.out.trans hf2)
            clear ha2 hs2 hd2 hf2 H1
            go_wp2
            all_goals first | go_end0 | refine bodyPost_ret (results_none rfl _ _ _) rfl ?_
            all_goals exact ⟨rfl, _, (HEND.out _ _ (fun x y h1 h2 h3 => HL.out.l x y h1 h2 (by omega)) (Same.refl _ _ _) HA2.out HS2.out).1, (HEND.out _ _ (fun x y h1 h2 h3 => HL.out.l x y h1 h2 (by omega)) (Same.refl _ _ _) HA2.out HS2.out).2, HD2.out, HF2.out⟩
        · have i1 : ¬ (s : Int) < (m : Int) := by omega
          have i1' : decide ((s : Int) < (m : Int)) = false := decide_eq_false i1
          have i4 : ¬ (M : Int) < (t : Int) := by omega
          have i4' : decide ((M : Int) < (t : Int)) = false := decide_eq_false i4
          have i5 : (a : Int) < (s : Int) := by omega
          have HD0 := Lib.hid (own_cast2 HW.out (fun x _ => HRT.out (.inl (by omega)) x))
          have HF0 := HF
          clear HROT HRT HW HF
          by_cases q3 : s < M
          · have i3 : (s : Int) < (M : Int) := by omega
            have H1 := Lib.hid (IH.out a s M _ _ (by omega) (by omega) (by omega) (by omega) HL.out HD0.out)
            go_wp2_with fail
            refine H1.out.mono ?_
            rintro _ V1 ⟨rfl, E1, ha1, hs1, hd1, hf1⟩
            have HA1 := Lib.hid ha1
            have HS1 := Lib.hid hs1
            have HD1 := Lib.hid hd1
            have HF1 := Lib.hid (HF0.out.trans hf1)
            clear ha1 hs1 hd1 hf1 H1
            go_wp2
            all_goals first | go_end0 | refine bodyPost_ret (results_none rfl _ _ _) rfl ?_
            all_goals exact ⟨rfl, _, (HEND.out _ _ HA1.out HS1.out (fun x y h1 h2 h3 => (HR.out.congr (fun x h1 h2 => HS1.out.out x (by omega)) (by omega)).r x y (by omega) h2 h3) (Same.refl _ _ _)).1, (HEND.out _ _ HA1.out HS1.out (fun x y h1 h2 h3 => (HR.out.congr (fun x h1 h2 => HS1.out.out x (by omega)) (by omega)).r x y (by omega) h2 h3) (Same.refl _ _ _)).2, HD1.out, HF1.out⟩
          · have i3 : ¬ (s : Int) < (M : Int) := by omega
            have i3' : decide ((s : Int) < (M : Int)) = false := decide_eq_false i3
            go_wp2
            all_goals first | go_end0 | refine bodyPost_ret (results_none rfl _ _ _) rfl ?_
            all_goals exact ⟨rfl, _, (HEND.out _ _ (fun x y h1 h2 h3 => HL.out.l x y h1 h2 (by omega)) (Same.refl _ _ _) (fun x y h1 h2 h3 => HR.out.r x y (by omega) h2 h3) (Same.refl _ _ _)).1, (HEND.out _ _ (fun x y h1 h2 h3 => HL.out.l x y h1 h2 (by omega)) (Same.refl _ _ _) (fun x y h1 h2 h3 => HR.out.r x y (by omega) h2 h3) (Same.refl _ _ _)).2, HD0.out, HF0.out⟩
  · have hmi : ¬ (M : Int) < (m : Int) := by omega
    have hmd : decide ((M : Int) < (m : Int)) = false := decide_eq_false hmi
    go_enter Try.func58, Try.ntmps58
    go_wp2
    go_loopw [20, 21] (fun i j w' => ∃ (s r : Nat), i = .int .i64 (s : Int) ∧ j = .int .i64 (r : Int) ∧ (a ≤ s ∧ s ≤ r ∧ r ≤ m) ∧ Hid (s = a ∨ (d (s - 1)).2 ≤ (d (n - s)).2) ∧ Hid (r = m ∨ (d (P - r)).2 < (d r).2) ∧ Hid (Dt base g L c w' d) ∧ Hid (OnlyF (fun x => x = g) w w')) (fun i j _ => (intOf j).toNat - (intOf i).toNat)
    case atStart => exact ⟨a, m, rfl, rfl, by omega, Lib.hid (.inl rfl), Lib.hid (.inl rfl), HO, Lib.hid (OnlyF.refl _ _)⟩
    case round =>
      obtain ⟨s, r, rfl, rfl, hsr, HP, HQ, HW, HF⟩ := hrel
      by_cases hlt : s < r
      · have hli : (s : Int) < (r : Int) := by omega
        have f1 : IntKind.i64.wrap ((s : Int) + (r : Int)) = (s : Int) + (r : Int) := IntWalk.i64_in _ (by omega)
        obtain ⟨h, hH⟩ : ∃ h, (s + r) / 2 = h := ⟨_, rfl⟩
        have f2 : ((s : Int) + (r : Int)) / 2 = (h : Int) := by omega
        have hp : s ≤ h ∧ h < r := by omega
        have HH := Lib.hid hp
        clear hH
        obtain ⟨Q, hQ⟩ : ∃ Q, P - h = Q := ⟨_, rfl⟩
        have f4 : IntKind.i64.wrap ((P : Int) - (h : Int)) = (Q : Int) := by rw [IntWalk.i64_in _ (by omega)]; omega
        have HQE := Lib.hid hQ
        have hhL : h < L := by omega
        have hhi : (h : Int) < (L : Int) := by omega
        have haL : Q < L := by omega
        have hai : (Q : Int) < (L : Int) := by omega
        have f3 : IntKind.i64.wrap ((h : Int) + 1) = (h : Int) + 1 := IntWalk.i64_in _ (by omega)
        obtain ⟨x0, x1⟩ := dt_read HW.out hhL
        obtain ⟨y0, y1⟩ := dt_read HW.out haL
        have xz := rown.row_lt HW.out
        obtain ⟨v, hv⟩ : ∃ v, d h = v := ⟨_, rfl⟩
        obtain ⟨u, hu⟩ : ∃ u, d Q = u := ⟨_, rfl⟩
        rw [hv] at x0 x1
        rw [hu] at y0 y1
        have X0 := core.cell_kept (a := ⟨g, h * 2, none⟩) xz x0
        have X1 := core.cell_kept (a := ⟨g, h * 2 + 1, none⟩) xz x1
        have Y0 := core.cell_kept (a := ⟨g, Q * 2, none⟩) xz y0
        have Y1 := core.cell_kept (a := ⟨g, Q * 2 + 1, none⟩) xz y1
        have hCC := HC.out u.1 u.2 v.1 v.2
        have HDC := Lib.hid (cmpV_lt u.2 v.2)
        obtain ⟨z, hz⟩ : ∃ z, cmpV u.2 v.2 = z := ⟨_, rfl⟩
        rw [hz] at hCC HDC
        have HU := Lib.hid hu
        have HV := Lib.hid hv
        have HSR := Lib.hid hsr
        clear hz hu hv hp hQ
        go_wp2
        refine wp_region_quiet_kept (by assumption) (by kernel_rfl) ?_
        repeat (first | go_big_quiet_step ((go_at_call 19; with_reducible exact Calls.kept_of (hCC _))) | quiet_step ((go_at_call 19; with_reducible exact Calls.kept_of (hCC _))))
        refine wpQuiet_nil ?_
        intro w4 hw'
        have hB : Below wr.heap.size wr w4 := by obtain ⟨⟨wk, hb0⟩, hw''⟩ := hw'; rw [hw'']; exact hb0
        clear hw' X0 X1 Y0 Y1 hCC
        have HW4 := Lib.hid (rown.ownsRow_kept HW.out hB)
        have HF4 := Lib.hid (HF.out.trans (only_below hB))
        clear x0 x1 y0 y1 xz hB
        by_cases hlq : u.2 < v.2
        · have hrr : z < 0 := by have := HDC.out; rw [decide_eq_true hlq] at this; simpa using this
          have hr2 : (!decide (z < 0)) = false := by rw [decide_eq_true hrr]; rfl
          have HQ2 := Lib.hid (show h = m ∨ (d (P - h)).2 < (d h).2 from .inr (by rw [HQE.out, HU.out, HV.out]; exact hlq))
          clear hlq HDC
          go_wp2
          all_goals first
            | (exfalso; rename_i hx; rw [hr2] at hx; revert hx; decide)
            | skip
          go_roundw
          case rel => exact ⟨s, h, rfl, rfl, by have := HH.out; have := HSR.out; omega, HP, HQ2, HW4, HF4⟩
          case measure => have := HH.out; simp [intOf] <;> omega
        · have hrr : ¬ z < 0 := by have := HDC.out; rw [decide_eq_false hlq] at this; simpa using this
          have hr2 : (!decide (z < 0)) = true := by rw [decide_eq_false hrr]; rfl
          have HP2 := Lib.hid (show h + 1 = a ∨ (d (h + 1 - 1)).2 ≤ (d (n - (h + 1))).2 from .inr (by rw [show h + 1 - 1 = h by omega, show n - (h + 1) = Q by have := HQE.out; have := HPN.out; omega, HU.out, HV.out]; omega))
          clear hlq HDC
          go_wp2
          all_goals first
            | (exfalso; rename_i hx; rw [hr2] at hx; revert hx; decide)
            | skip
          go_roundw
          case rel => exact ⟨h + 1, r, by go_num, rfl, by have := HH.out; have := HSR.out; omega, HP2, HQ, HW4, HF4⟩
          case measure => have := HH.out; simp [intOf] <;> omega
      · obtain rfl : s = r := by omega
        have hne : ¬ (s : Int) < (s : Int) := by omega
        obtain ⟨t, ht⟩ : ∃ t, n - s = t := ⟨_, rfl⟩
        have f5 : IntKind.i64.wrap ((n : Int) - (s : Int)) = (t : Int) := by rw [IntWalk.i64_in _ (by omega)]; omega
        have HCUT := Lib.hid (show CutAt d a m b M s t from ⟨by omega, by omega, by
          rw [ht] at HP
          rcases HP.out with e | e
          · omega
          · exact .inr (.inr (by omega)), by
          have e9 : P - s = t - 1 := by omega
          rw [e9] at HQ
          rcases HQ.out with e | e
          · omega
          · exact .inr (.inr e)⟩)
        clear ht
        have HRT := Lib.hid (fun x => cut_none HCUT.out · x)
        have HL := Lib.hid (cut_left HCUT.out HM.out)
        have HR := Lib.hid (cut_right HCUT.out HM.out)
        have HEND := Lib.hid (fun e f h1 s1 h2 s2 => cut_end (e := e) (f := f) HCUT.out HM.out h1 s1 h2 s2)
        have HROT := Lib.hid (fun h1 h2 => rotR (c := c) (d := d) s m t wr hL h1 h2 (by have := HCUT.out.ord; omega) HW.out)
        have ho := HCUT.out.ord
        have hsum := HCUT.out.sum
        clear HP HQ HCUT HM
        generalize hE : RT d s m t = E at *
        clear hE
        by_cases q1 : s < m
        · by_cases q2 : m < t
          · have i1 : (s : Int) < (m : Int) := by omega
            have i2 : (m : Int) < (t : Int) := by omega
            have i3 : (s : Int) < (M : Int) := by omega
            have i4 : (M : Int) < (t : Int) := by omega
            have H1 := Lib.hid (HROT.out q1 q2)
            clear HROT HRT HW
            go_wp2_with fail
            refine H1.out.mono ?_
            rintro _ V0 ⟨rfl, hd0, hf0⟩
            have HD0 := Lib.hid hd0
            have HF0 := Lib.hid (HF.out.trans hf0)
            clear hd0 hf0 H1 HF
            by_cases q3 : a < s
            · have i5 : (a : Int) < (s : Int) := by omega
              have H1 := Lib.hid (IH.out a s M _ _ (by omega) (by omega) (by omega) (by omega) HL.out HD0.out)
              go_wp2_with fail
              refine H1.out.mono ?_
              rintro _ V1 ⟨rfl, E1, ha1, hs1, hd1, hf1⟩
              have HA1 := Lib.hid ha1
              have HS1 := Lib.hid hs1
              have HD1 := Lib.hid hd1
              have HF1 := Lib.hid (HF0.out.trans hf1)
              clear ha1 hs1 hd1 hf1 H1
              by_cases q4 : t < b
              · have i6 : (t : Int) < (b : Int) := by omega
                have H1 := Lib.hid (IH.out M t b _ _ (by omega) (by omega) (by omega) (by omega) (HR.out.congr (fun x h1 h2 => HS1.out.out x (by omega)) (by omega)) HD1.out)
                go_wp2_with fail
                refine H1.out.mono ?_
                rintro _ V2 ⟨rfl, E2, ha2, hs2, hd2, hf2⟩
                have HA2 := Lib.hid ha2
                have HS2 := Lib.hid hs2
                have HD2 := Lib.hid hd2
                have HF2 := Lib.hid (HF1.out.trans hf2)
                clear ha2 hs2 hd2 hf2 H1
                go_wp2
                all_goals first | go_end0 | refine bodyPost_ret (results_none rfl _ _ _) rfl ?_
                all_goals exact ⟨rfl, _, (HEND.out _ _ HA1.out HS1.out HA2.out HS2.out).1, (HEND.out _ _ HA1.out HS1.out HA2.out HS2.out).2, HD2.out, HF2.out⟩
              · have i6 : ¬ (t : Int) < (b : Int) := by omega
                have i7 : decide ((t : Int) < (b : Int)) = false := decide_eq_false i6
                go_wp2
                all_goals first | go_end0 | refine bodyPost_ret (results_none rfl _ _ _) rfl ?_
                all_goals exact ⟨rfl, _, (HEND.out _ _ HA1.out HS1.out (fun x y h1 h2 h3 => ((HR.out.congr (fun x h1 h2 => HS1.out.out x (by omega)) (by omega))).l x y h1 h2 (by omega)) (Same.refl _ _ _)).1, (HEND.out _ _ HA1.out HS1.out (fun x y h1 h2 h3 => ((HR.out.congr (fun x h1 h2 => HS1.out.out x (by omega)) (by omega))).l x y h1 h2 (by omega)) (Same.refl _ _ _)).2, HD1.out, HF1.out⟩
            · have i5 : ¬ (a : Int) < (s : Int) := by omega
              have i8 : decide ((a : Int) < (s : Int)) = false := decide_eq_false i5
              by_cases q4 : t < b
              · have i6 : (t : Int) < (b : Int) := by omega
                have H1 := Lib.hid (IH.out M t b _ _ (by omega) (by omega) (by omega) (by omega) HR.out HD0.out)
                go_wp2_with fail
                refine H1.out.mono ?_
                rintro _ V2 ⟨rfl, E2, ha2, hs2, hd2, hf2⟩
                have HA2 := Lib.hid ha2
                have HS2 := Lib.hid hs2
                have HD2 := Lib.hid hd2
                have HF2 := Lib.hid (HF0.out.trans hf2)
                clear ha2 hs2 hd2 hf2 H1
                go_wp2
                all_goals first | go_end0 | refine bodyPost_ret (results_none rfl _ _ _) rfl ?_
                all_goals exact ⟨rfl, _, (HEND.out _ _ (fun x y h1 h2 h3 => HL.out.r x y (by omega) h2 h3) (Same.refl _ _ _) HA2.out HS2.out).1, (HEND.out _ _ (fun x y h1 h2 h3 => HL.out.r x y (by omega) h2 h3) (Same.refl _ _ _) HA2.out HS2.out).2, HD2.out, HF2.out⟩
              · have i6 : ¬ (t : Int) < (b : Int) := by omega
                have i7 : decide ((t : Int) < (b : Int)) = false := decide_eq_false i6
                go_wp2
                all_goals first | go_end0 | refine bodyPost_ret (results_none rfl _ _ _) rfl ?_
                all_goals exact ⟨rfl, _, (HEND.out _ _ (fun x y h1 h2 h3 => HL.out.r x y (by omega) h2 h3) (Same.refl _ _ _) (fun x y h1 h2 h3 => (HR.out).l x y h1 h2 (by omega)) (Same.refl _ _ _)).1, (HEND.out _ _ (fun x y h1 h2 h3 => HL.out.r x y (by omega) h2 h3) (Same.refl _ _ _) (fun x y h1 h2 h3 => (HR.out).l x y h1 h2 (by omega)) (Same.refl _ _ _)).2, HD0.out, HF0.out⟩
          · have i1 : (s : Int) < (m : Int) := by omega
            have i2 : ¬ (m : Int) < (t : Int) := by omega
            have i2' : decide ((m : Int) < (t : Int)) = false := decide_eq_false i2
            have i3 : ¬ (s : Int) < (M : Int) := by omega
            have i3' : decide ((s : Int) < (M : Int)) = false := decide_eq_false i3
            have i4 : (M : Int) < (t : Int) := by omega
            have i5 : (a : Int) < (s : Int) := by omega
            have i6 : (t : Int) < (b : Int) := by omega
            have HD0 := Lib.hid (own_cast2 HW.out (fun x _ => HRT.out (.inr (by omega)) x))
            have HF0 := HF
            clear HROT HRT HW HF
            have H1 := Lib.hid (IH.out M t b _ _ (by omega) (by omega) (by omega) (by omega) HR.out HD0.out)
            go_wp2_with fail
            refine H1.out.mono ?_
            rintro _ V2 ⟨rfl, E2, ha2, hs2, hd2, hf2⟩
            have HA2 := Lib.hid ha2
            have HS2 := Lib.hid hs2
            have HD2 := Lib.hid hd2
            have HF2 := Lib.hid (HF0.out.trans hf2)
            clear ha2 hs2 hd2 hf2 H1
            go_wp2
            all_goals first | go_end0 | refine bodyPost_ret (results_none rfl _ _ _) rfl ?_
            all_goals exact ⟨rfl, _, (HEND.out _ _ (fun x y h1 h2 h3 => HL.out.l x y h1 h2 (by omega)) (Same.refl _ _ _) HA2.out HS2.out).1, (HEND.out _ _ (fun x y h1 h2 h3 => HL.out.l x y h1 h2 (by omega)) (Same.refl _ _ _) HA2.out HS2.out).2, HD2.out, HF2.out⟩
        · have i1 : ¬ (s : Int) < (m : Int) := by omega
          have i1' : decide ((s : Int) < (m : Int)) = false := decide_eq_false i1
          have i4 : ¬ (M : Int) < (t : Int) := by omega
          have i4' : decide ((M : Int) < (t : Int)) = false := decide_eq_false i4
          have i5 : (a : Int) < (s : Int) := by omega
          have HD0 := Lib.hid (own_cast2 HW.out (fun x _ => HRT.out (.inl (by omega)) x))
          have HF0 := HF
          clear HROT HRT HW HF
          by_cases q3 : s < M
          · have i3 : (s : Int) < (M : Int) := by omega
            have H1 := Lib.hid (IH.out a s M _ _ (by omega) (by omega) (by omega) (by omega) HL.out HD0.out)
            go_wp2_with fail
            refine H1.out.mono ?_
            rintro _ V1 ⟨rfl, E1, ha1, hs1, hd1, hf1⟩
            have HA1 := Lib.hid ha1
            have HS1 := Lib.hid hs1
            have HD1 := Lib.hid hd1
            have HF1 := Lib.hid (HF0.out.trans hf1)
            clear ha1 hs1 hd1 hf1 H1
            go_wp2
            all_goals first | go_end0 | refine bodyPost_ret (results_none rfl _ _ _) rfl ?_
            all_goals exact ⟨rfl, _, (HEND.out _ _ HA1.out HS1.out (fun x y h1 h2 h3 => (HR.out.congr (fun x h1 h2 => HS1.out.out x (by omega)) (by omega)).r x y (by omega) h2 h3) (Same.refl _ _ _)).1, (HEND.out _ _ HA1.out HS1.out (fun x y h1 h2 h3 => (HR.out.congr (fun x h1 h2 => HS1.out.out x (by omega)) (by omega)).r x y (by omega) h2 h3) (Same.refl _ _ _)).2, HD1.out, HF1.out⟩
          · have i3 : ¬ (s : Int) < (M : Int) := by omega
            have i3' : decide ((s : Int) < (M : Int)) = false := decide_eq_false i3
            go_wp2
            all_goals first | go_end0 | refine bodyPost_ret (results_none rfl _ _ _) rfl ?_
            all_goals exact ⟨rfl, _, (HEND.out _ _ (fun x y h1 h2 h3 => HL.out.l x y h1 h2 (by omega)) (Same.refl _ _ _) (fun x y h1 h2 h3 => HR.out.r x y (by omega) h2 h3) (Same.refl _ _ _)).1, (HEND.out _ _ (fun x y h1 h2 h3 => HL.out.l x y h1 h2 (by omega)) (Same.refl _ _ _) (fun x y h1 h2 h3 => HR.out.r x y (by omega) h2 h3) (Same.refl _ _ _)).2, HD0.out, HF0.out⟩
/-- The merge, for parts of all lengths. -/
theorem symAt {base g L c : Nat} (hL : L ≤ 1000) : ∀ N, SymAt base g L c N
  | 0 => fun a m b d V h1 h2 h3 _ _ _ => absurd h1 (by omega)
  | N + 1 => fun a m b d V h1 h2 h3 h4 hM ho => by
    by_cases c1 : m = a + 1
    · subst c1
      exact symOne a b V hL h3 h4 hM ho
    · by_cases c2 : b = m + 1
      · subst c2
        exact symTwo a m V hL (by omega) h4 hM ho
      · exact symGen hL (symAt hL N) a m b V h1 (by omega) (by omega) h4 hM ho
end Go.Proofs.Ytkcfghbkcgommab.srt

namespace Go.Proofs.Ytkcfghbkcgommab.srt

open Go.ChangeShapes Go.WideShapes Go.ChangeAt Go.RowKit Go.Joins

open Go.Proofs.Ytkcfghbkcgommab.core Go.Proofs.Ytkcfghbkcgommab.rown Go.Proofs.Ytkcfghbkcgommab.stk Go.Proofs.Ytkcfghbkcgommab.boxed Go.Proofs.Ytkcfghbkcgommab.put3 Go.Proofs.Ytkcfghbkcgommab.ft Go.Proofs.Ytkcfghbkcgommab.revQ Go.Proofs.Ytkcfghbkcgommab.env
set_option linter.unusedVariables false
set_option linter.unusedSimpArgs false
def Up (d : Nat → P2) (a b : Nat) : Prop := ∀ p q, a ≤ p → p < q → q < b → (d p).1 < (d q).1
theorem blocks {d e f : Nat → P2} {n : Nat} (hn : 20 ≤ n) (hu : Up d 0 n) (h1 : Asc e 0 20) (s1 : Same 0 20 d e) (h2 : Asc f 20 n) (s2 : Same 20 n e f) : MP f 0 20 n ∧ Same 0 n d f := by
  refine ⟨⟨fun i j a1 a2 a3 => ?_, h2, fun i j a1 a2 a3 a4 => ?_⟩, (s1.wide (Nat.le_refl _) hn).trans (s2.wide (by omega) (Nat.le_refl _))⟩
  · rw [s2.out i (by omega), s2.out j (by omega)]; exact h1 i j a1 a2 a3
  · rw [s2.out i (by omega)]
    obtain ⟨i', b1, b2, b3⟩ := s1.into i a1 a2
    obtain ⟨j', c1, c2, c3⟩ := s2.into j a3 a4
    rw [b3, c3, s1.out j' (by omega)]
    exact hu i' j' b1 (by omega) c2
theorem dt_base {base g L c : Nat} {w : World} {d : Nat → P2} (h : Dt base g L c w d) : base ≤ w.heap.size := by
  have hlt := rown.row_lt h
  obtain ⟨-, h⟩ := h
  rcases h with ⟨h, -⟩ | ⟨g', cap, cur, hv, hb, -⟩
  · cases h
  · cases hv; omega
theorem stay {e f : Nat → P2} {a : Nat} (s : Same a a e f) (x : Nat) : f x = e x := s.out x (by omega)
set_option maxRecDepth 100000 in
set_option maxHeartbeats 8000000 in
theorem stabA {base g L c : Nat} {d : Nat → P2} (w : World) (hL : L ≤ 19) (hu : Up d 0 L) (ho : Dt base g L c w d) :
    Calls Try.prog 39 #[.slice (some ⟨g, 0, none⟩) L c, .int .i64 (L : Int), .func (.func 19) #[] #[]] w fun e w' => e = .returned (.tuple #[]) ∧ ∃ d', Asc d' 0 L ∧ Same 0 L d d' ∧ Dt base g L c w' d' ∧ OnlyF (fun x => x = g) w w' := by
  have HO := Lib.hid ho
  have HU := Lib.hid hu
  have HINS := Lib.hid (fun (a b : Nat) (e : Nat → P2) (V : World) h1 h2 h3 (h4 : Dt base g L c V e) => insR (d := e) (base := base) (g := g) (c := c) a b V (show L ≤ 1000 by omega) h1 h2 h3 (dt_base h4) h4)
  clear ho hu
  go_enter Try.func39, Try.ntmps39
  go_wp2
  have q1 : ¬ (20 : Int) ≤ (L : Int) := by omega
  have q2 : ¬ (20 : Int) < (L : Int) := by omega
  go_loopw [7, 8] (fun i j w' => i = .int .i64 0 ∧ j = .int .i64 20 ∧ Hid (Dt base g L c w' d) ∧ Hid (OnlyF (fun x => x = g) w w')) (fun i j _ => 100 - (intOf j).toNat)
  case atStart => exact ⟨rfl, rfl, HO, Lib.hid (OnlyF.refl _ _)⟩
  case round =>
    obtain ⟨rfl, rfl, HW, HF⟩ := hrel
    have H1 := Lib.hid (HINS.out 0 L _ _ (by omega) (by omega) HU.out HW.out)
    rw [show ((0 : Nat) : Int) = 0 from rfl] at H1
    go_wp2_with fail
    refine H1.out.mono ?_
    rintro _ V1 ⟨rfl, E1, ha1, hs1, hd1, hf1⟩
    have HA1 := Lib.hid ha1
    have HS1 := Lib.hid hs1
    have HD1 := Lib.hid hd1
    have HF1 := Lib.hid (HF.out.trans hf1)
    clear ha1 hs1 hd1 hf1 H1
    go_wp2
    go_loopw [6] (fun i w' => i = .int .i64 20 ∧ Hid (Dt base g L c w' E1) ∧ Hid (OnlyF (fun x => x = g) w w')) (fun i _ => 100 - (intOf i).toNat)
    case atStart => exact ⟨rfl, HD1, HF1⟩
    case round =>
      obtain ⟨rfl, HW, HF⟩ := hrel
      go_wp2
      all_goals first | go_end0 | refine bodyPost_ret (results_none rfl _ _ _) rfl ?_
      exact ⟨rfl, _, HA1.out, HS1.out, HW.out, HF.out⟩
set_option maxRecDepth 100000 in
set_option maxHeartbeats 8000000 in
theorem stabB {base g L c : Nat} {d : Nat → P2} (w : World) (hL : 20 ≤ L ∧ L ≤ 20) (hu : Up d 0 L) (ho : Dt base g L c w d) :
    Calls Try.prog 39 #[.slice (some ⟨g, 0, none⟩) L c, .int .i64 (L : Int), .func (.func 19) #[] #[]] w fun e w' => e = .returned (.tuple #[]) ∧ ∃ d', Asc d' 0 L ∧ Same 0 L d d' ∧ Dt base g L c w' d' ∧ OnlyF (fun x => x = g) w w' := by
  have HO := Lib.hid ho
  have HU := Lib.hid hu
  have HINS := Lib.hid (fun (a b : Nat) (e : Nat → P2) (V : World) h1 h2 h3 (h4 : Dt base g L c V e) => insR (d := e) (base := base) (g := g) (c := c) a b V (show L ≤ 1000 by omega) h1 h2 h3 (dt_base h4) h4)
  clear ho hu
  go_enter Try.func39, Try.ntmps39
  go_wp2
  have q1 : (20 : Int) ≤ (L : Int) := by omega
  have q2 : ¬ (40 : Int) ≤ (L : Int) := by omega
  have q3 : ¬ (20 : Int) < (L : Int) := by omega
  go_loopw [7, 8] (fun i j w' => ∃ e, ((i = .int .i64 0 ∧ j = .int .i64 20 ∧ Hid (e = d)) ∨ (i = .int .i64 20 ∧ j = .int .i64 40 ∧ Hid (Asc e 0 20 ∧ Same 0 20 d e))) ∧ Hid (Dt base g L c w' e) ∧ Hid (OnlyF (fun x => x = g) w w')) (fun i j _ => 100 - (intOf j).toNat)
  case atStart => exact ⟨d, .inl ⟨rfl, rfl, Lib.hid rfl⟩, HO, Lib.hid (OnlyF.refl _ _)⟩
  case round =>
    obtain ⟨e, hst, HW, HF⟩ := hrel
    rcases hst with ⟨rfl, rfl, HE⟩ | ⟨rfl, rfl, HE⟩
    · have HW2 := Lib.hid (show Dt base g L c wr d by rw [← HE.out]; exact HW.out)
      have H1 := Lib.hid (HINS.out 0 20 _ _ (by omega) (by omega) (fun p q h1 h2 h3 => HU.out p q h1 h2 (by omega)) HW2.out)
      rw [show ((0 : Nat) : Int) = 0 from rfl, show ((20 : Nat) : Int) = 20 from rfl] at H1
      go_wp2_with fail
      refine H1.out.mono ?_
      rintro _ V1 ⟨rfl, E1, ha1, hs1, hd1, hf1⟩
      have HA1 := Lib.hid ha1
      have HS1 := Lib.hid hs1
      have HD1 := Lib.hid hd1
      have HF1 := Lib.hid (HF.out.trans hf1)
      clear ha1 hs1 hd1 hf1 H1
      go_wp2
      go_roundw
      case rel => exact ⟨E1, .inr ⟨rfl, by go_num, Lib.hid ⟨HA1.out, HS1.out⟩⟩, HD1, HF1⟩
      case measure => simp [intOf]
    · have HX := Lib.hid (show ∀ p q, 20 ≤ p → p < q → q < L → (e p).1 < (e q).1 from fun p q h1 h2 h3 => absurd h1 (by omega))
      have H1 := Lib.hid (HINS.out 20 L _ _ (by omega) (by omega) HX.out HW.out)
      rw [show ((20 : Nat) : Int) = 20 from rfl] at H1
      go_wp2_with fail
      refine H1.out.mono ?_
      rintro _ V1 ⟨rfl, E1, ha1, hs1, hd1, hf1⟩
      have HA1 := Lib.hid ha1
      have HS1 := Lib.hid hs1
      have HD1 := Lib.hid hd1
      have HF1 := Lib.hid (HF.out.trans hf1)
      clear ha1 hs1 hd1 hf1 H1
      have HA2 := Lib.hid (show Asc E1 0 L from fun i j h1 h2 h3 => by rw [HS1.out.out i (by omega), HS1.out.out j (by omega)]; exact HE.out.1 i j h1 h2 (by omega))
      have HS2 := Lib.hid ((show Same 0 L d e from HE.out.2.wide (Nat.le_refl _) (by omega)).trans (HS1.out.wide (by omega) (by omega)))
      go_wp2
      go_loopw [6] (fun i w' => i = .int .i64 20 ∧ Hid (Dt base g L c w' E1) ∧ Hid (OnlyF (fun x => x = g) w w')) (fun i _ => 100 - (intOf i).toNat)
      case atStart => exact ⟨rfl, HD1, HF1⟩
      case round =>
        obtain ⟨rfl, HW, HF⟩ := hrel
        go_wp2
        all_goals first | go_end0 | refine bodyPost_ret (results_none rfl _ _ _) rfl ?_
        exact ⟨rfl, _, HA2.out, HS2.out, HW.out, HF.out⟩
set_option maxRecDepth 100000 in
set_option maxHeartbeats 8000000 in
theorem stabC {base g L c : Nat} {d : Nat → P2} (w : World) (hL : 20 < L ∧ L < 40) (hu : Up d 0 L) (ho : Dt base g L c w d) :
    Calls Try.prog 39 #[.slice (some ⟨g, 0, none⟩) L c, .int .i64 (L : Int), .func (.func 19) #[] #[]] w fun e w' => e = .returned (.tuple #[]) ∧ ∃ d', Asc d' 0 L ∧ Same 0 L d d' ∧ Dt base g L c w' d' ∧ OnlyF (fun x => x = g) w w' := by
  have HO := Lib.hid ho
  have HU := Lib.hid hu
  have HINS := Lib.hid (fun (a b : Nat) (e : Nat → P2) (V : World) h1 h2 h3 (h4 : Dt base g L c V e) => insR (d := e) (base := base) (g := g) (c := c) a b V (show L ≤ 1000 by omega) h1 h2 h3 (dt_base h4) h4)
  clear ho hu
  go_enter Try.func39, Try.ntmps39
  go_wp2
  have q1 : (20 : Int) ≤ (L : Int) := by omega
  have q2 : ¬ (40 : Int) ≤ (L : Int) := by omega
  have q3 : (20 : Int) < (L : Int) := by omega
  have q4 : ¬ (40 : Int) < (L : Int) := by omega
  go_loopw [7, 8] (fun i j w' => ∃ e, ((i = .int .i64 0 ∧ j = .int .i64 20 ∧ Hid (e = d)) ∨ (i = .int .i64 20 ∧ j = .int .i64 40 ∧ Hid (Asc e 0 20 ∧ Same 0 20 d e))) ∧ Hid (Dt base g L c w' e) ∧ Hid (OnlyF (fun x => x = g) w w')) (fun i j _ => 100 - (intOf j).toNat)
  case atStart => exact ⟨d, .inl ⟨rfl, rfl, Lib.hid rfl⟩, HO, Lib.hid (OnlyF.refl _ _)⟩
  case round =>
    obtain ⟨e, hst, HW, HF⟩ := hrel
    rcases hst with ⟨rfl, rfl, HE⟩ | ⟨rfl, rfl, HE⟩
    · have HW2 := Lib.hid (show Dt base g L c wr d by rw [← HE.out]; exact HW.out)
      have H1 := Lib.hid (HINS.out 0 20 _ _ (by omega) (by omega) (fun p q h1 h2 h3 => HU.out p q h1 h2 (by omega)) HW2.out)
      rw [show ((0 : Nat) : Int) = 0 from rfl, show ((20 : Nat) : Int) = 20 from rfl] at H1
      go_wp2_with fail
      refine H1.out.mono ?_
      rintro _ V1 ⟨rfl, E1, ha1, hs1, hd1, hf1⟩
      have HA1 := Lib.hid ha1
      have HS1 := Lib.hid hs1
      have HD1 := Lib.hid hd1
      have HF1 := Lib.hid (HF.out.trans hf1)
      clear ha1 hs1 hd1 hf1 H1
      go_wp2
      go_roundw
      case rel => exact ⟨E1, .inr ⟨rfl, by go_num, Lib.hid ⟨HA1.out, HS1.out⟩⟩, HD1, HF1⟩
      case measure => simp [intOf]
    · have HX := Lib.hid (show ∀ p q, 20 ≤ p → p < q → q < L → (e p).1 < (e q).1 from fun p q h1 h2 h3 => by rw [HE.out.2.out p (by omega), HE.out.2.out q (by omega)]; exact HU.out p q (by omega) h2 h3)
      have H1 := Lib.hid (HINS.out 20 L _ _ (by omega) (by omega) HX.out HW.out)
      rw [show ((20 : Nat) : Int) = 20 from rfl] at H1
      go_wp2_with fail
      refine H1.out.mono ?_
      rintro _ V2 ⟨rfl, E2, ha2, hs2, hd2, hf2⟩
      have HA2 := Lib.hid ha2
      have HS2 := Lib.hid hs2
      have HD2 := Lib.hid hd2
      have HF2 := Lib.hid (HF.out.trans hf2)
      clear ha2 hs2 hd2 hf2 H1
      have MPD := Lib.hid (blocks (by omega) HU.out HE.out.1 HE.out.2 HA2.out HS2.out)
      go_wp2
      go_loopw [6] (fun i w' => ∃ e, ((i = .int .i64 20 ∧ Hid (e = E2)) ∨ (i = .int .i64 40 ∧ Hid (Asc e 0 L ∧ Same 0 L E2 e))) ∧ Hid (Dt base g L c w' e) ∧ Hid (OnlyF (fun x => x = g) w w')) (fun i _ => 100 - (intOf i).toNat)
      case atStart => exact ⟨E2, .inl ⟨rfl, Lib.hid rfl⟩, HD2, HF2⟩
      case round =>
        obtain ⟨e, hst, HW, HF⟩ := hrel
        rcases hst with ⟨rfl, HE9⟩ | ⟨rfl, HE9⟩
        · have HW2 := Lib.hid (show Dt base g L c wr E2 by rw [← HE9.out]; exact HW.out)
          clear HW HE9
          go_wp2
          go_loopw [7, 8] (fun i j w' => i = .int .i64 0 ∧ j = .int .i64 40 ∧ Hid (Dt base g L c w' E2) ∧ Hid (OnlyF (fun x => x = g) w w')) (fun i j _ => 100 - (intOf j).toNat)
          case atStart => exact ⟨rfl, by go_num, HW2, HF⟩
          case round =>
            obtain ⟨rfl, rfl, HW3, HF3⟩ := hrel
            have H1 := Lib.hid (symAt (by omega) L 0 20 L _ _ (by omega) (by omega) (by omega) (by omega) MPD.out.1 HW3.out)
            rw [show ((0 : Nat) : Int) = 0 from rfl, show ((20 : Nat) : Int) = 20 from rfl] at H1
            go_wp2_with fail
            refine H1.out.mono ?_
            rintro _ V9 ⟨rfl, E9, ha9, hs9, hd9, hf9⟩
            have HA9 := Lib.hid ha9
            have HS9 := Lib.hid hs9
            have HD9 := Lib.hid hd9
            have HF9 := Lib.hid (HF3.out.trans hf9)
            clear ha9 hs9 hd9 hf9 H1
            go_wp2
            go_roundw
            case rel => exact ⟨E9, .inr ⟨by go_num, Lib.hid ⟨HA9.out, HS9.out⟩⟩, HD9, HF9⟩
            case measure => simp [intOf]
        · go_wp2
          all_goals first | go_end0 | refine bodyPost_ret (results_none rfl _ _ _) rfl ?_
          exact ⟨rfl, _, HE9.out.1, MPD.out.2.trans HE9.out.2, HW.out, HF.out⟩
set_option maxRecDepth 100000 in
set_option maxHeartbeats 8000000 in
theorem stabD {base g L c : Nat} {d : Nat → P2} (w : World) (hL : 40 ≤ L ∧ L ≤ 40) (hu : Up d 0 L) (ho : Dt base g L c w d) :
    Calls Try.prog 39 #[.slice (some ⟨g, 0, none⟩) L c, .int .i64 (L : Int), .func (.func 19) #[] #[]] w fun e w' => e = .returned (.tuple #[]) ∧ ∃ d', Asc d' 0 L ∧ Same 0 L d d' ∧ Dt base g L c w' d' ∧ OnlyF (fun x => x = g) w w' := by
  have HO := Lib.hid ho
  have HU := Lib.hid hu
  have HINS := Lib.hid (fun (a b : Nat) (e : Nat → P2) (V : World) h1 h2 h3 (h4 : Dt base g L c V e) => insR (d := e) (base := base) (g := g) (c := c) a b V (show L ≤ 1000 by omega) h1 h2 h3 (dt_base h4) h4)
  clear ho hu
  go_enter Try.func39, Try.ntmps39
  go_wp2
  have q1 : (20 : Int) ≤ (L : Int) := by omega
  have q2 : (40 : Int) ≤ (L : Int) := by omega
  have q3 : ¬ (60 : Int) ≤ (L : Int) := by omega
  have q4 : (20 : Int) < (L : Int) := by omega
  have q5 : ¬ (80 : Int) ≤ (L : Int) := by omega
  have q6 : ¬ (60 : Int) < (L : Int) := by omega
  have q7 : ¬ (40 : Int) < (L : Int) := by omega
  go_loopw [7, 8] (fun i j w' => ∃ e, ((i = .int .i64 0 ∧ j = .int .i64 20 ∧ Hid (e = d)) ∨ (i = .int .i64 20 ∧ j = .int .i64 40 ∧ Hid (Asc e 0 20 ∧ Same 0 20 d e)) ∨ (i = .int .i64 40 ∧ j = .int .i64 60 ∧ Hid (∃ e1, Asc e1 0 20 ∧ Same 0 20 d e1 ∧ Asc e 20 40 ∧ Same 20 40 e1 e))) ∧ Hid (Dt base g L c w' e) ∧ Hid (OnlyF (fun x => x = g) w w')) (fun i j _ => 100 - (intOf j).toNat)
  case atStart => exact ⟨d, .inl ⟨rfl, rfl, Lib.hid rfl⟩, HO, Lib.hid (OnlyF.refl _ _)⟩
  case round =>
    obtain ⟨e, hst, HW, HF⟩ := hrel
    rcases hst with ⟨rfl, rfl, HE⟩ | ⟨rfl, rfl, HE⟩ | ⟨rfl, rfl, HE⟩
    · have HW2 := Lib.hid (show Dt base g L c wr d by rw [← HE.out]; exact HW.out)
      have H1 := Lib.hid (HINS.out 0 20 _ _ (by omega) (by omega) (fun p q h1 h2 h3 => HU.out p q h1 h2 (by omega)) HW2.out)
      rw [show ((0 : Nat) : Int) = 0 from rfl, show ((20 : Nat) : Int) = 20 from rfl] at H1
      go_wp2_with fail
      refine H1.out.mono ?_
      rintro _ V1 ⟨rfl, E1, ha1, hs1, hd1, hf1⟩
      have HA1 := Lib.hid ha1
      have HS1 := Lib.hid hs1
      have HD1 := Lib.hid hd1
      have HF1 := Lib.hid (HF.out.trans hf1)
      clear ha1 hs1 hd1 hf1 H1
      go_wp2
      go_roundw
      case rel => exact ⟨E1, .inr (.inl ⟨rfl, by go_num, Lib.hid ⟨HA1.out, HS1.out⟩⟩), HD1, HF1⟩
      case measure => simp [intOf]
    · have HX := Lib.hid (show ∀ p q, 20 ≤ p → p < q → q < 40 → (e p).1 < (e q).1 from fun p q h1 h2 h3 => by rw [HE.out.2.out p (by omega), HE.out.2.out q (by omega)]; exact HU.out p q (by omega) h2 (by omega))
      have H1 := Lib.hid (HINS.out 20 40 _ _ (by omega) (by omega) HX.out HW.out)
      rw [show ((20 : Nat) : Int) = 20 from rfl, show ((40 : Nat) : Int) = 40 from rfl] at H1
      go_wp2_with fail
      refine H1.out.mono ?_
      rintro _ V1 ⟨rfl, E1, ha1, hs1, hd1, hf1⟩
      have HA1 := Lib.hid ha1
      have HS1 := Lib.hid hs1
      have HD1 := Lib.hid hd1
      have HF1 := Lib.hid (HF.out.trans hf1)
      clear ha1 hs1 hd1 hf1 H1
      go_wp2
      go_roundw
      case rel => exact ⟨E1, .inr (.inr ⟨rfl, by go_num, Lib.hid ⟨e, HE.out.1, HE.out.2, HA1.out, HS1.out⟩⟩), HD1, HF1⟩
      case measure => simp [intOf]
    · have HX := Lib.hid (show ∀ p q, 40 ≤ p → p < q → q < L → (e p).1 < (e q).1 from fun p q h1 h2 h3 => absurd h1 (by omega))
      have H1 := Lib.hid (HINS.out 40 L _ _ (by omega) (by omega) HX.out HW.out)
      rw [show ((40 : Nat) : Int) = 40 from rfl] at H1
      go_wp2_with fail
      refine H1.out.mono ?_
      rintro _ V2 ⟨rfl, E2, ha2, hs2, hd2, hf2⟩
      have HA2 := Lib.hid ha2
      have HS2 := Lib.hid hs2
      have HD2 := Lib.hid hd2
      have HF2 := Lib.hid (HF.out.trans hf2)
      clear ha2 hs2 hd2 hf2 H1
      obtain ⟨e1, c1, c2, c3, c4⟩ := HE.out
      have K1 := Lib.hid c1
      have K2 := Lib.hid c2
      have HAE := Lib.hid (show Asc E2 20 L from fun i j h1 h2 h3 => by rw [HS2.out.out i (by omega), HS2.out.out j (by omega)]; exact c3 i j h1 h2 (by omega))
      have HSE := Lib.hid ((show Same 20 L e1 e from c4.wide (Nat.le_refl _) (by omega)).trans (HS2.out.wide (by omega) (by omega)))
      clear c1 c2 c3 c4 HE
      have MPD := Lib.hid (blocks (by omega) HU.out K1.out K2.out HAE.out HSE.out)
      go_wp2
      go_loopw [6] (fun i w' => ∃ e, ((i = .int .i64 20 ∧ Hid (e = E2)) ∨ (i = .int .i64 40 ∧ Hid (Asc e 0 40 ∧ Same 0 40 E2 e))) ∧ Hid (Dt base g L c w' e) ∧ Hid (OnlyF (fun x => x = g) w w')) (fun i _ => 100 - (intOf i).toNat)
      case atStart => exact ⟨E2, .inl ⟨rfl, Lib.hid rfl⟩, HD2, HF2⟩
      case round =>
        obtain ⟨e, hst, HW, HF⟩ := hrel
        rcases hst with ⟨rfl, HE⟩ | ⟨rfl, HE⟩
        · have HW2 := Lib.hid (show Dt base g L c wr E2 by rw [← HE.out]; exact HW.out)
          clear HW HE
          go_wp2
          go_loopw [7, 8] (fun i j w' => ∃ e, ((i = .int .i64 0 ∧ j = .int .i64 40 ∧ Hid (e = E2)) ∨ (i = .int .i64 40 ∧ j = .int .i64 80 ∧ Hid (Asc e 0 40 ∧ Same 0 40 E2 e))) ∧ Hid (Dt base g L c w' e) ∧ Hid (OnlyF (fun x => x = g) w w')) (fun i j _ => 100 - (intOf j).toNat)
          case atStart => exact ⟨E2, .inl ⟨rfl, by go_num, Lib.hid rfl⟩, HW2, HF⟩
          case round =>
            obtain ⟨e, hst, HW3, HF3⟩ := hrel
            rcases hst with ⟨rfl, rfl, HE3⟩ | ⟨rfl, rfl, HE3⟩
            · have HW4 := Lib.hid (show Dt base g L c wr E2 by rw [← HE3.out]; exact HW3.out)
              have H1 := Lib.hid (symAt (by omega) 40 0 20 40 _ _ (by omega) (by omega) (by omega) (by omega) (show MP _ 0 20 40 by rw [show 40 = L by omega]; exact MPD.out.1) HW4.out)
              rw [show ((0 : Nat) : Int) = 0 from rfl, show ((20 : Nat) : Int) = 20 from rfl, show ((40 : Nat) : Int) = 40 from rfl] at H1
              go_wp2_with fail
              refine H1.out.mono ?_
              rintro _ V9 ⟨rfl, E9, ha9, hs9, hd9, hf9⟩
              have HA9 := Lib.hid ha9
              have HS9 := Lib.hid hs9
              have HD9 := Lib.hid hd9
              have HF9 := Lib.hid (HF3.out.trans hf9)
              clear ha9 hs9 hd9 hf9 H1
              go_wp2
              go_roundw
              case rel => exact ⟨E9, .inr ⟨rfl, by go_num, Lib.hid ⟨HA9.out, HS9.out⟩⟩, HD9, HF9⟩
              case measure => simp [intOf]
            · go_wp2
              go_roundw
              case rel => exact ⟨e, .inr ⟨by go_num, HE3⟩, HW3, HF3⟩
              case measure => simp [intOf]
        · go_wp2
          all_goals first | go_end0 | refine bodyPost_ret (results_none rfl _ _ _) rfl ?_
          exact ⟨rfl, _, (show Asc _ 0 L by rw [show L = 40 by omega]; exact HE.out.1), MPD.out.2.trans (show Same 0 L _ _ by rw [show L = 40 by omega]; exact HE.out.2), HW.out, HF.out⟩
theorem stab {base g L c : Nat} {d : Nat → P2} (w : World) (hL : L ≤ 40) (hu : Up d 0 L) (ho : Dt base g L c w d) :
    Calls Try.prog 39 #[.slice (some ⟨g, 0, none⟩) L c, .int .i64 (L : Int), .func (.func 19) #[] #[]] w fun e w' => e = .returned (.tuple #[]) ∧ ∃ d', Asc d' 0 L ∧ Same 0 L d d' ∧ Dt base g L c w' d' ∧ OnlyF (fun x => x = g) w w' := by
  by_cases h1 : L ≤ 19
  · exact stabA w h1 hu ho
  · by_cases h2 : L = 20
    · exact stabB w (by omega) hu ho
    · by_cases h3 : L = 40
      · exact stabD w (by omega) hu ho
      · exact stabC w (by omega) hu ho
theorem sortR {base g L c : Nat} {d : Nat → P2} (w : World) (hL : L ≤ 40) (hu : Up d 0 L) (ho : Dt base g L c w d) :
    Calls Try.prog 22 #[.slice (some ⟨g, 0, none⟩) L c, .func (.func 19) #[] #[]] w fun e w' => e = .returned (.tuple #[]) ∧ ∃ d', Asc d' 0 L ∧ Same 0 L d d' ∧ Dt base g L c w' d' ∧ OnlyF (fun x => x = g) w w' := by
  have H := Lib.hid (stab w hL hu ho)
  clear hu ho
  go_enter Try.func22, Try.ntmps22
  go_wp2_with fail
  refine H.out.mono ?_
  rintro _ V ⟨rfl, h⟩
  go_wp2
  all_goals first | go_end0 | refine bodyPost_ret (results_none rfl _ _ _) rfl ?_
  exact ⟨rfl, h⟩
end Go.Proofs.Ytkcfghbkcgommab.srt
