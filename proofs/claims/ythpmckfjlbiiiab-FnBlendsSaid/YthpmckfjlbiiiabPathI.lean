/-
  Proved: the program's function that tells whether pairs are a path answers as the document's definition.
  Conditions: none.
-/
import Derived.Test.YthpmckfjlbiiiabLeads
namespace Go.Proofs.Ythpmckfjlbiiiab.path
open Go.ChangeShapes Go.WideShapes Go.ChangeAt Go.RowKit Go.Joins
open Go.Proofs.Ythpmckfjlbiiiab.core Go.Proofs.Ythpmckfjlbiiiab.rown Go.Proofs.Ythpmckfjlbiiiab.stk Go.Proofs.Ythpmckfjlbiiiab.boxed Go.Proofs.Ythpmckfjlbiiiab.ft Go.Proofs.Ythpmckfjlbiiiab.seq
set_option linter.unusedVariables false
set_option linter.unusedSimpArgs false
theorem vP_of {k : Nat} {f : Nat → P2} {n m band : Int} (h : vP k f n m band = true) : (1 ≤ n ∧ 1 ≤ m) ∧ 0 < k ∧ ((f 0).1 = 0 ∧ (f 0).2 = 0) ∧ ((f (k - 1)).1 = n - 1 ∧ (f (k - 1)).2 = m - 1) ∧ ∀ x, x < k → okAt f n m band x := by
  unfold vP at h
  split at h
  · rename_i h1; exact ⟨h1, okPath_of h⟩
  · cases h
theorem vP_no {k : Nat} {f : Nat → P2} {n m band : Int} (h : ¬ ((1 ≤ n ∧ 1 ≤ m) ∧ 0 < k ∧ ((f 0).1 = 0 ∧ (f 0).2 = 0) ∧ ((f (k - 1)).1 = n - 1 ∧ (f (k - 1)).2 = m - 1) ∧ ∀ x, x < k → okAt f n m band x)) : vP k f n m band = false := by
  cases hv : vP k f n m band with
  | false => rfl
  | true => exact absurd (vP_of hv) h
/-- What the program has seen of a path. -/
def seen (f : Nat → P2) (band : Int) (j : Nat) : Prop := (0 ≤ (f j).1 ∧ (f j).1 ≤ (j : Int)) ∧ (0 ≤ (f j).2 ∧ (f j).2 ≤ (j : Int)) ∧ absv ((f j).1 - (f j).2) ≤ band ∧ (0 < j → stepP (f (j - 1)) (f j))
theorem vP_yes {K : Nat} {f : Nat → P2} {n m band : Int} (hK : K ≤ 1048576) (hn : inI64 n) (hm : inI64 m) (h0 : (f 0).1 = 0 ∧ (f 0).2 = 0) (h1 : (f K).1 = wrap64 (n - 1)) (h2 : (f K).2 = wrap64 (m - 1)) (hs : ∀ j, j < K + 1 → seen f band j) : vP (K + 1) f n m band = true := by
  unfold inI64 at hn hm
  obtain ⟨a, b, -, -⟩ := hs K (by omega)
  have key : ∀ z : Int, -9223372036854775808 ≤ z ∧ z ≤ 9223372036854775807 → 0 ≤ wrap64 (z - 1) ∧ wrap64 (z - 1) ≤ 1048576 → wrap64 (z - 1) = z - 1 := fun z hz hw => by
    by_cases e : z = -9223372036854775808
    · subst e
      have : wrap64 (-9223372036854775808 - 1) = 9223372036854775807 := by unfold wrap64; omega
      omega
    · rw [← IntWalk.i64_left]; exact IntWalk.i64_in _ (by omega)
  have e1 := key n hn (by omega)
  have e2 := key m hm (by omega)
  rw [e1] at h1
  rw [e2] at h2
  have mono : ∀ d j, j + d < K + 1 → (f j).1 ≤ (f (j + d)).1 ∧ (f j).2 ≤ (f (j + d)).2 := by
    intro d
    induction d with
    | zero => intro j _; exact ⟨Int.le_refl _, Int.le_refl _⟩
    | succ d ih =>
      intro j hj
      have q := ih j (by omega)
      have s := (hs (j + (d + 1)) hj).2.2.2 (by omega)
      rw [show j + (d + 1) - 1 = j + d by omega] at s
      unfold stepP at s
      omega
  unfold vP
  rw [if_pos ⟨by omega, by omega⟩]
  refine okPath_true ⟨by omega, h0, ⟨h1, h2⟩, fun x hx => ?_⟩
  obtain ⟨c1, c2, c3, c4⟩ := hs x hx
  have q := mono (K - x) x (by omega)
  rw [show x + (K - x) = K by omega] at q
  exact ⟨⟨⟨c1.1, by omega⟩, ⟨c2.1, by omega⟩, c3⟩, c4⟩
set_option maxRecDepth 100000 in
set_option maxHeartbeats 16000000 in
theorem pathI {c : Nat} (A : Option Addr) (k : Nat) (f : Nat → P2) (n m band : Int) (w : World) (hk : k ≤ 1048576) (hn : inI64 n) (hm : inI64 m) (hp : SpAt w A k f) :
    Calls Try.prog 28 #[.slice A k c, .int .i64 n, .int .i64 m, .int .i64 band] w fun e w' => e = .returned (.bool (vP k f n m band)) ∧ Below w.heap.size w w' := by
  have hu : undef = Value.tuple #[] := rfl
  by_cases hk0 : k = 0
  · subst hk0
    have HF := Lib.hid (vP_no (k := 0) (f := f) (n := n) (m := m) (band := band) (fun h => absurd h.2.1 (by omega)))
    rw [HF.out]
    clear hp
    go_enter Try.func28, Try.ntmps28
    go_wp2
    go_ret
    exact ⟨rfl, Below.refl _ _⟩
  have hkp : 0 < k := by omega
  have hki0 : ((k : Int) == 0) = false := by simp; omega
  have hkd : decide ((k : Int) = 0) = false := decide_eq_false (by omega)
  have hki : (0 : Int) < (k : Int) := by omega
  have hkl : k - 1 < k := by omega
  have HP := Lib.hid hp
  obtain ⟨g0, o0, rfl, hg0, p0, p1⟩ := hp 0 hkp
  obtain ⟨g1, o1, e1, -, l0, l1⟩ := hp (k - 1) hkl
  injection e1 with e1
  injection e1 with e1 e2
  subst e1 e2
  simp only [Nat.zero_mul, Nat.add_zero] at p0 p1
  clear hp
  obtain ⟨K, hK⟩ : ∃ K, k = K + 1 := ⟨k - 1, by omega⟩
  subst hK
  simp only [Nat.add_sub_cancel] at l0 l1
  have hKi : (K : Int) < (K : Int) + 1 := by omega
  have hKn : K < K + 1 := by omega
  have hK0 : (0 : Int) < (K : Int) + 1 := by omega
  have hKp : 0 < K + 1 := by omega
  have HFF := Lib.hid (fun h => vP_no (k := K + 1) (f := f) (n := n) (m := m) (band := band) h)
  have HTT := Lib.hid (fun h0 h1 h2 hs => vP_yes (K := K) (f := f) (n := n) (m := m) (band := band) (by omega) hn hm h0 h1 h2 hs)
  simp only [Nat.add_sub_cancel] at HFF
  have key : ∀ z : Int, inI64 z → 1 ≤ z → wrap64 (z - 1) = z - 1 := fun z hz h => by
    unfold inI64 at hz
    rw [← IntWalk.i64_left]; exact IntWalk.i64_in _ (by omega)
  have HW := Lib.hid (show (1 ≤ n → wrap64 (n - 1) = n - 1) ∧ (1 ≤ m → wrap64 (m - 1) = m - 1) from ⟨key n hn, key m hm⟩)
  have hub : n ≤ 9223372036854775807 ∧ m ≤ 9223372036854775807 := by unfold inI64 at hn hm; omega
  clear key
  have HAT := Lib.hid (show ∀ x, x < K + 1 → ¬ okAt f n m band x → vP (K + 1) f n m band = false from fun x hx h => HFF.out fun h' => h (h'.2.2.2.2 x hx))
  obtain ⟨N, hN⟩ : ∃ v, wrap64 (n - 1) = v := ⟨_, rfl⟩
  obtain ⟨M, hM⟩ : ∃ v, wrap64 (m - 1) = v := ⟨_, rfl⟩
  have EN : IntKind.i64.wrap (n - 1) = N := by rw [IntWalk.i64_left, hN]
  have EM : IntKind.i64.wrap (m - 1) = M := by rw [IntWalk.i64_left, hM]
  rw [hN, hM] at HTT HW
  have HL := Lib.hid (show ((f 0).1 = 0 ∧ (f 0).2 = 0) ∧ (f K).1 = N ∧ (f K).2 = M ∨ vP (K + 1) f n m band = false from by
    by_cases h : ((f 0).1 = 0 ∧ (f 0).2 = 0) ∧ (f K).1 = N ∧ (f K).2 = M
    · exact .inl h
    · refine .inr (HFF.out fun h' => h ⟨h'.2.2.1, ?_, ?_⟩)
      · rw [HW.out.1 h'.1.1]; exact h'.2.2.2.1.1
      · rw [HW.out.2 h'.1.2]; exact h'.2.2.2.1.2)
  obtain ⟨a, ha⟩ : ∃ v, (f 0).1 = v := ⟨_, rfl⟩
  obtain ⟨b, hb⟩ : ∃ v, (f 0).2 = v := ⟨_, rfl⟩
  obtain ⟨d, hd⟩ : ∃ v, (f K).1 = v := ⟨_, rfl⟩
  obtain ⟨e, he⟩ : ∃ v, (f K).2 = v := ⟨_, rfl⟩
  rw [ha] at p0 HL HTT
  rw [hb] at p1 HL HTT
  rw [hd] at l0 HL HTT
  rw [he] at l1 HL HTT
  have H00 := Lib.hid (show (f 0).1 = a ∧ (f 0).2 = b from ⟨ha, hb⟩)
  clear ha hb hd he HFF HW
  have HV : ¬ ((a = 0 ∧ b = 0) ∧ d = N ∧ e = M) → vP (K + 1) f n m band = false := fun h => HL.out.resolve_left h
  clear HL
  by_cases hc0 : a = 0
  rotate_left
  · have HF := Lib.hid (HV (fun h => hc0 h.1.1))
    rw [HF.out]
    clear HTT HAT HV hN hM
    go_enter Try.func28, Try.ntmps28
    go_wp2
    go_ret
    exact ⟨rfl, Below.refl _ _⟩
  subst hc0
  by_cases hc1 : b = 0
  rotate_left
  · have HF := Lib.hid (HV (fun h => hc1 h.1.2))
    rw [HF.out]
    clear HTT HAT HV hN hM
    go_enter Try.func28, Try.ntmps28
    go_wp2
    go_ret
    exact ⟨rfl, Below.refl _ _⟩
  subst hc1
  by_cases hc2 : d = N
  rotate_left
  · have HF := Lib.hid (HV (fun h => hc2 h.2.1))
    rw [HF.out]
    clear HTT HAT HV
    go_enter Try.func28, Try.ntmps28
    go_wp2
    go_ret
    exact ⟨rfl, Below.refl _ _⟩
  by_cases hc3 : e = M
  rotate_left
  · have HF := Lib.hid (HV (fun h => hc3 h.2.2))
    rw [HF.out]
    clear HTT HAT HV
    subst hc2
    go_enter Try.func28, Try.ntmps28
    go_wp2
    go_ret
    exact ⟨rfl, Below.refl _ _⟩
  subst hc2 hc3
  clear HV
  have HT := Lib.hid (fun hs => HTT.out ⟨rfl, rfl⟩ rfl rfl hs)
  clear HTT
  have hmx : Try.prog.follows .mixedOrders = true := by kernel_rfl
  go_enter Try.func28, Try.ntmps28
  go_wp2
  clear p0 p1 l0 l1
  go_loopw [37] (fun i w' => ∃ x : Nat, x ≤ K + 1 ∧ i = .int .i64 (x : Int) ∧ Hid (∀ j, j < x → seen f band j) ∧ Hid (Below w.heap.size w w')) (fun i _ => K + 1 - (intOf i).toNat)
  case atStart => exact ⟨0, Nat.zero_le _, rfl, Lib.hid (fun j hj => absurd hj (by omega)), Lib.hid (Below.refl _ _)⟩
  case round =>
    obtain ⟨x, hx, rfl, HE, HB⟩ := hrel
    by_cases hlt : x < K + 1
    · obtain ⟨g1, o1, e1, hg, p0, p1⟩ := (HP.out.kept HB.out) x hlt
      injection e1 with e1
      injection e1 with e1 e2
      subst e1 e2
      have hli : (x : Int) < (K : Int) + 1 := by omega
      have HNO := Lib.hid (fun h => HAT.out x hlt h)
      have B8 := Lib.hid (HB.out.trans ((below_alloc1 wr (.cells #[.int .i64 (f x).1, .int .i64 (f x).2] 59)).mono HB.out.size))
      have HAP := Lib.hid (show okAt f n m band x → apW (f x).1 (f x).2 ≤ band from fun h => by
        obtain ⟨⟨h1, h2, h3⟩, -⟩ := h
        rw [apW_in (by omega) (by omega)]
        exact h3)
      have HSEE := Lib.hid (show seen f band x → ∀ j, j < x + 1 → seen f band j from fun h1 j hj => by
        rcases Nat.lt_or_ge j x with h' | h'
        · exact HE.out j h'
        · obtain rfl : j = x := by omega
          exact h1)
      have HPQ := Lib.hid (fun (h : 0 < x) => (HP.out.kept HB.out) (x - 1) (by omega))
      have HQS := Lib.hid (fun (h : 0 < x) => HE.out (x - 1) (by omega))
      have HSX := Lib.hid (show seen f band x ↔ (0 ≤ (f x).1 ∧ (f x).1 ≤ (x : Int)) ∧ (0 ≤ (f x).2 ∧ (f x).2 ≤ (x : Int)) ∧ absv ((f x).1 - (f x).2) ≤ band ∧ (0 < x → stepP (f (x - 1)) (f x)) from Iff.rfl)
      have HST := Lib.hid (show okAt f n m band x → 0 < x → stepP (f (x - 1)) (f x) from fun h => h.2)
      have H0X := Lib.hid (show x = 0 → (f x).1 = 0 ∧ (f x).2 = 0 from fun h => by rw [h]; exact H00.out)
      have HP1 := Lib.hid (fun W => apartI (f x).1 (f x).2 W)
      clear HE
      obtain ⟨p, hpk⟩ : ∃ p, f x = p := ⟨_, rfl⟩
      obtain ⟨D, hD⟩ : ∃ D, apW (f x).1 (f x).2 = D := ⟨_, rfl⟩
      have HDD := Lib.hid (show ((0 ≤ p.1 ∧ p.1 ≤ (x : Int)) ∧ (0 ≤ p.2 ∧ p.2 ≤ (x : Int)) → absv (p.1 - p.2) = D) from fun h => by rw [← hpk] at h ⊢; rw [← hD, apW_in (by omega) (by omega)])
      rw [hD] at HAP HP1
      rw [hpk] at p0 p1 B8 HP1 HSX HST H0X
      clear hpk hD
      by_cases hDb : band < D
      · have HF := Lib.hid (HNO.out fun h => by have := HAP.out h; omega)
        have hDd : decide (band < D) = true := decide_eq_true hDb
        clear HNO HAP HSEE HPQ HQS HSX HST H0X HDD
        go_wp2
        have K0 := heap_alloc_new wr (.cells #[.int .i64 p.1, .int .i64 p.2] 59)
        obtain ⟨w0, hw0⟩ : ∃ v, v = wr.alloc (.cells #[.int .i64 p.1, .int .i64 p.2] 59) := ⟨_, rfl⟩
        rw [← hw0] at B8 K0 ⊢
        have c0 := cell_kept (w := w0) (a := ⟨wr.heap.size, 0, none⟩) (v := .int .i64 p.1) (block_size K0) (by rw [cell_of_block K0]; rfl)
        have c1 := cell_kept (w := w0) (a := ⟨wr.heap.size, 1, none⟩) (v := .int .i64 p.2) (block_size K0) (by rw [cell_of_block K0]; rfl)
        refine wp_region_quiet_kept (by assumption) (by kernel_rfl) ?_
        repeat (first | go_big_quiet_step (((go_at_call 62; with_reducible exact Calls.kept_of (still_b (HP1.out _))))) | quiet_step (((go_at_call 62; with_reducible exact Calls.kept_of (still_b (HP1.out _))))))
        refine wpQuiet_nil ?_
        intro w4 hw'
        have hB : Below w0.heap.size w0 w4 := by obtain ⟨⟨wk, hb0⟩, hw''⟩ := hw'; rw [hw'']; exact hb0
        have HB4 := Lib.hid (B8.out.trans (hB.mono B8.out.size))
        clear hw' hB c0 c1
        go_wp2
        go_ret
        exact ⟨by rw [HF.out]; rfl, HB4.out⟩
      have hDd : decide (band < D) = false := decide_eq_false hDb
      by_cases hx0 : 0 < x
      · have hxi : (0 : Int) < (x : Int) := by omega
        have hxd : decide ((0 : Int) < (x : Int)) = true := decide_eq_true hxi
        obtain ⟨y, rfl⟩ : ∃ y, x = y + 1 := ⟨x - 1, by omega⟩
        obtain ⟨g2, o2, e2, -, q0, q1⟩ := HPQ.out hx0
        injection e2 with e2
        injection e2 with e2 e3
        subst e2 e3
        simp only [Nat.add_sub_cancel] at q0 q1 HQS HSX HST
        obtain ⟨s1, s2, -, -⟩ := HQS.out hx0
        obtain ⟨q, hq⟩ : ∃ q, f y = q := ⟨_, rfl⟩
        rw [hq] at q0 q1 HSX HST s1 s2
        clear hq HQS HPQ
        by_cases hs : stepP q p
        · have HN := Lib.hid (HSEE.out (HSX.out.2 (by
            have hs' := hs
            unfold stepP at hs'
            have h1 : (0 ≤ p.1 ∧ p.1 ≤ ((y + 1 : Nat) : Int)) ∧ (0 ≤ p.2 ∧ p.2 ≤ ((y + 1 : Nat) : Int)) := by omega
            exact ⟨h1.1, h1.2, by rw [HDD.out h1]; omega, fun _ => hs⟩)))
          have HL := Lib.hid (fun W => leads_yes q p (by omega) (by omega) hs W)
          clear HNO HAP HSEE HSX HST H0X HDD hs s1 s2
          go_wp2
          have K0 := heap_alloc_new wr (.cells #[.int .i64 p.1, .int .i64 p.2] 59)
          obtain ⟨w0, hw0⟩ : ∃ v, v = wr.alloc (.cells #[.int .i64 p.1, .int .i64 p.2] 59) := ⟨_, rfl⟩
          rw [← hw0] at B8 K0 ⊢
          have c0 := cell_kept (w := w0) (a := ⟨wr.heap.size, 0, none⟩) (v := .int .i64 p.1) (block_size K0) (by rw [cell_of_block K0]; rfl)
          have c1 := cell_kept (w := w0) (a := ⟨wr.heap.size, 1, none⟩) (v := .int .i64 p.2) (block_size K0) (by rw [cell_of_block K0]; rfl)
          have hbw : Below wr.heap.size wr w0 := by rw [hw0]; exact below_alloc1 _ _
          have d0 := cell_kept (w := w0) (a := ⟨g0, o0 + y * 2, none⟩) (Nat.lt_of_lt_of_le hg hbw.size) ((hbw.cell (p := ⟨g0, o0 + y * 2, none⟩) hg).trans q0)
          have d1 := cell_kept (w := w0) (a := ⟨g0, o0 + y * 2 + 1, none⟩) (Nat.lt_of_lt_of_le hg hbw.size) ((hbw.cell (p := ⟨g0, o0 + y * 2 + 1, none⟩) hg).trans q1)
          refine wp_region_quiet_kept (by assumption) (by kernel_rfl) ?_
          repeat (first | go_big_quiet_step ((first | (go_at_call 62; with_reducible exact Calls.kept_of (still_b (HP1.out _))) | (go_at_call 63; with_reducible exact Calls.kept_of (HL.out _)))) | quiet_step ((first | (go_at_call 62; with_reducible exact Calls.kept_of (still_b (HP1.out _))) | (go_at_call 63; with_reducible exact Calls.kept_of (HL.out _)))))
          refine wpQuiet_nil ?_
          intro w4 hw'
          have hB : Below w0.heap.size w0 w4 := by obtain ⟨⟨wk, hb0⟩, hw''⟩ := hw'; rw [hw'']; exact hb0
          have HB4 := Lib.hid (B8.out.trans (hB.mono B8.out.size))
          clear hw' hB c0 c1 d0 d1
          go_wp2
          go_roundw
          case rel => exact ⟨y + 1 + 1, by omega, by go_num, HN, HB4⟩
          case measure => simp [intOf]; omega
        · have HF := Lib.hid (HNO.out fun h => hs (HST.out h (by omega)))
          have HL := Lib.hid (fun W => leads_no q p (by omega) (by omega) hs W)
          clear HNO HAP HSEE HSX HST H0X HDD hs s1 s2
          go_wp2
          have K0 := heap_alloc_new wr (.cells #[.int .i64 p.1, .int .i64 p.2] 59)
          obtain ⟨w0, hw0⟩ : ∃ v, v = wr.alloc (.cells #[.int .i64 p.1, .int .i64 p.2] 59) := ⟨_, rfl⟩
          rw [← hw0] at B8 K0 ⊢
          have c0 := cell_kept (w := w0) (a := ⟨wr.heap.size, 0, none⟩) (v := .int .i64 p.1) (block_size K0) (by rw [cell_of_block K0]; rfl)
          have c1 := cell_kept (w := w0) (a := ⟨wr.heap.size, 1, none⟩) (v := .int .i64 p.2) (block_size K0) (by rw [cell_of_block K0]; rfl)
          have hbw : Below wr.heap.size wr w0 := by rw [hw0]; exact below_alloc1 _ _
          have d0 := cell_kept (w := w0) (a := ⟨g0, o0 + y * 2, none⟩) (Nat.lt_of_lt_of_le hg hbw.size) ((hbw.cell (p := ⟨g0, o0 + y * 2, none⟩) hg).trans q0)
          have d1 := cell_kept (w := w0) (a := ⟨g0, o0 + y * 2 + 1, none⟩) (Nat.lt_of_lt_of_le hg hbw.size) ((hbw.cell (p := ⟨g0, o0 + y * 2 + 1, none⟩) hg).trans q1)
          refine wp_region_quiet_kept (by assumption) (by kernel_rfl) ?_
          repeat (first | go_big_quiet_step ((first | (go_at_call 62; with_reducible exact Calls.kept_of (still_b (HP1.out _))) | (go_at_call 63; with_reducible exact Calls.kept_of (HL.out _)))) | quiet_step ((first | (go_at_call 62; with_reducible exact Calls.kept_of (still_b (HP1.out _))) | (go_at_call 63; with_reducible exact Calls.kept_of (HL.out _)))))
          refine wpQuiet_nil ?_
          intro w4 hw'
          have hB : Below w0.heap.size w0 w4 := by obtain ⟨⟨wk, hb0⟩, hw''⟩ := hw'; rw [hw'']; exact hb0
          have HB4 := Lib.hid (B8.out.trans (hB.mono B8.out.size))
          clear hw' hB c0 c1 d0 d1
          go_wp2
          go_ret
          exact ⟨by rw [HF.out]; rfl, HB4.out⟩
      · have hxi : ¬ (0 : Int) < (x : Int) := by omega
        have hxd : decide ((0 : Int) < (x : Int)) = false := decide_eq_false hxi
        have HN := Lib.hid (HSEE.out (HSX.out.2 (by
          obtain ⟨h1, h2⟩ := H0X.out (by omega)
          have h3 : (0 ≤ p.1 ∧ p.1 ≤ (x : Int)) ∧ (0 ≤ p.2 ∧ p.2 ≤ (x : Int)) := by omega
          exact ⟨h3.1, h3.2, by rw [HDD.out h3]; omega, fun h => absurd h hx0⟩)))
        clear HNO HAP HSEE HPQ HQS HSX HST H0X HDD
        go_wp2
        have K0 := heap_alloc_new wr (.cells #[.int .i64 p.1, .int .i64 p.2] 59)
        obtain ⟨w0, hw0⟩ : ∃ v, v = wr.alloc (.cells #[.int .i64 p.1, .int .i64 p.2] 59) := ⟨_, rfl⟩
        rw [← hw0] at B8 K0 ⊢
        have c0 := cell_kept (w := w0) (a := ⟨wr.heap.size, 0, none⟩) (v := .int .i64 p.1) (block_size K0) (by rw [cell_of_block K0]; rfl)
        have c1 := cell_kept (w := w0) (a := ⟨wr.heap.size, 1, none⟩) (v := .int .i64 p.2) (block_size K0) (by rw [cell_of_block K0]; rfl)
        refine wp_region_quiet_kept (by assumption) (by kernel_rfl) ?_
        repeat (first | go_big_quiet_step (((go_at_call 62; with_reducible exact Calls.kept_of (still_b (HP1.out _))))) | quiet_step (((go_at_call 62; with_reducible exact Calls.kept_of (still_b (HP1.out _))))))
        refine wpQuiet_nil ?_
        intro w4 hw'
        have hB : Below w0.heap.size w0 w4 := by obtain ⟨⟨wk, hb0⟩, hw''⟩ := hw'; rw [hw'']; exact hb0
        have HB4 := Lib.hid (B8.out.trans (hB.mono B8.out.size))
        clear hw' hB c0 c1
        go_wp2
        go_roundw
        case rel => exact ⟨x + 1, by omega, by go_num, HN, HB4⟩
        case measure => simp [intOf]; omega
    · obtain rfl : x = K + 1 := by omega
      have HF := Lib.hid (HT.out HE.out)
      go_wp2
      go_ret
      exact ⟨by rw [HF.out]; rfl, HB.out⟩
end Go.Proofs.Ythpmckfjlbiiiab.path
