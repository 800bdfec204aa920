/-
  Proved: the document's function that tells whether pairs are a path answers as the document's definition.
  Conditions: the numbers of elements are positive.
-/
import Derived.Test.YtgbelodobgmlbabSeq
namespace Go.Proofs.Ytgbelodobgmlbab.path
open Go.ChangeShapes Go.WideShapes Go.ChangeAt Go.RowKit Go.Joins
open Go.Proofs.Ytgbelodobgmlbab.core Go.Proofs.Ytgbelodobgmlbab.rown Go.Proofs.Ytgbelodobgmlbab.stk Go.Proofs.Ytgbelodobgmlbab.boxed Go.Proofs.Ytgbelodobgmlbab.ft Go.Proofs.Ytgbelodobgmlbab.seq
set_option linter.unusedVariables false
set_option linter.unusedSimpArgs false
/-- One pair lies within the lists and the band. -/
def inP (n m band : Int) (p : P2) : Prop := (0 ≤ p.1 ∧ p.1 ≤ n - 1) ∧ (0 ≤ p.2 ∧ p.2 ≤ m - 1) ∧ absv (p.1 - p.2) ≤ band
/-- One pair follows another one. -/
def stepP (q p : P2) : Prop := (0 ≤ p.1 - q.1 ∧ p.1 - q.1 ≤ 1) ∧ (0 ≤ p.2 - q.2 ∧ p.2 - q.2 ≤ 1) ∧ ¬ (p.1 = q.1 ∧ p.2 = q.2)
def okAt (f : Nat → P2) (n m band : Int) (x : Nat) : Prop := inP n m band (f x) ∧ (0 < x → stepP (f (x - 1)) (f x))
/-- The k pairs are a path for n and m elements, within the band. -/
noncomputable def okPath (k : Nat) (f : Nat → P2) (n m band : Int) : Bool := @decide (0 < k ∧ ((f 0).1 = 0 ∧ (f 0).2 = 0) ∧ ((f (k - 1)).1 = n - 1 ∧ (f (k - 1)).2 = m - 1) ∧ ∀ x, x < k → okAt f n m band x) (Classical.propDecidable _)
theorem okPath_true {k : Nat} {f : Nat → P2} {n m band : Int} (h : 0 < k ∧ ((f 0).1 = 0 ∧ (f 0).2 = 0) ∧ ((f (k - 1)).1 = n - 1 ∧ (f (k - 1)).2 = m - 1) ∧ ∀ x, x < k → okAt f n m band x) : okPath k f n m band = true := by
  unfold okPath; exact @decide_eq_true _ (Classical.propDecidable _) h
theorem okPath_of {k : Nat} {f : Nat → P2} {n m band : Int} (h : okPath k f n m band = true) : 0 < k ∧ ((f 0).1 = 0 ∧ (f 0).2 = 0) ∧ ((f (k - 1)).1 = n - 1 ∧ (f (k - 1)).2 = m - 1) ∧ ∀ x, x < k → okAt f n m band x := by
  unfold okPath at h; exact @of_decide_eq_true _ (Classical.propDecidable _) h
theorem okPath_no {k : Nat} {f : Nat → P2} {n m band : Int} (h : ¬ (0 < k ∧ ((f 0).1 = 0 ∧ (f 0).2 = 0) ∧ ((f (k - 1)).1 = n - 1 ∧ (f (k - 1)).2 = m - 1) ∧ ∀ x, x < k → okAt f n m band x)) : okPath k f n m band = false := by
  unfold okPath; exact @decide_eq_false _ (Classical.propDecidable _) h
theorem okPath_at {k : Nat} {f : Nat → P2} {n m band : Int} (x : Nat) (hx : x < k) (h : ¬ okAt f n m band x) : okPath k f n m band = false := okPath_no fun ⟨_, _, _, c⟩ => h (c x hx)
set_option maxRecDepth 100000 in
set_option maxHeartbeats 16000000 in
theorem pathS {c : Nat} (A : Option Addr) (k : Nat) (f : Nat → P2) (n m band : Int) (w : World) (hk : k ≤ 1048576) (hn : 1 ≤ n ∧ n ≤ 9223372036854775807) (hm : 1 ≤ m ∧ m ≤ 9223372036854775807) (hp : SpAt w A k f) :
    Calls Try.prog 37 #[.slice A k c, .int .i64 n, .int .i64 m, .int .i64 band] w fun e w' => e = .returned (.bool (okPath k f n m band)) ∧ Below w.heap.size w w' := by
  by_cases hk0 : k = 0
  · subst hk0
    have HF := Lib.hid (okPath_no (k := 0) (f := f) (n := n) (m := m) (band := band) (fun h => absurd h.1 (by omega)))
    rw [HF.out]
    clear hp
    have hu : undef = Value.tuple #[] := rfl
    go_enter Try.func37, Try.ntmps37
    go_wp2
    go_ret
    exact ⟨rfl, Below.refl _ _⟩
  have hkp : 0 < k := by omega
  have hki0 : ((k : Int) == 0) = false := by simp; omega
  have hkd : decide ((k : Int) = 0) = false := decide_eq_false (by omega)
  have hki : (0 : Int) < (k : Int) := by omega
  have hkl : k - 1 < k := by omega
  have HP := Lib.hid hp
  obtain ⟨g0, o0, rfl, hg0, p0, p1⟩ := hp 0 hkp
  obtain ⟨g1, o1, e1, -, l0, l1⟩ := hp (k - 1) hkl
  injection e1 with e1
  injection e1 with e1 e2
  subst e1 e2
  simp only [Nat.zero_mul, Nat.add_zero] at p0 p1
  clear hp
  obtain ⟨K, hK⟩ : ∃ K, k = K + 1 := ⟨k - 1, by omega⟩
  subst hK
  simp only [Nat.add_sub_cancel] at l0 l1
  have hKi : (K : Int) < (K : Int) + 1 := by omega
  have hKn : K < K + 1 := by omega
  have hK0 : (0 : Int) < (K : Int) + 1 := by omega
  have hKp : 0 < K + 1 := by omega
  have HFF := Lib.hid (fun h => okPath_no (k := K + 1) (f := f) (n := n) (m := m) (band := band) h)
  have HTT := Lib.hid (fun h => okPath_true (k := K + 1) (f := f) (n := n) (m := m) (band := band) h)
  have HAT := Lib.hid (fun x hx h => okPath_at (k := K + 1) (f := f) (n := n) (m := m) (band := band) x hx h)
  simp only [Nat.add_sub_cancel] at HFF HTT
  have HL := Lib.hid (show (f 0).1 = (f 0).1 from rfl)
  obtain ⟨a, ha⟩ : ∃ v, (f 0).1 = v := ⟨_, rfl⟩
  obtain ⟨b, hb⟩ : ∃ v, (f 0).2 = v := ⟨_, rfl⟩
  obtain ⟨d, hd⟩ : ∃ v, (f K).1 = v := ⟨_, rfl⟩
  obtain ⟨e, he⟩ : ∃ v, (f K).2 = v := ⟨_, rfl⟩
  rw [ha] at p0 HFF HTT
  rw [hb] at p1 HFF HTT
  rw [hd] at l0 HFF HTT
  rw [he] at l1 HFF HTT
  obtain ⟨N, hN⟩ : ∃ v, n - 1 = v := ⟨_, rfl⟩
  obtain ⟨M, hM⟩ : ∃ v, m - 1 = v := ⟨_, rfl⟩
  have hNb : 0 ≤ N ∧ N ≤ 9223372036854775806 := by omega
  have hMb : 0 ≤ M ∧ M ≤ 9223372036854775806 := by omega
  have EN : IntKind.i64.wrap (n - 1) = N := by rw [hN]; exact IntWalk.i64_in _ (by omega)
  have EM : IntKind.i64.wrap (m - 1) = M := by rw [hM]; exact IntWalk.i64_in _ (by omega)
  have FN : wrap64 (n - 1) = N := by rw [← IntWalk.i64_left]; exact EN
  have FM : wrap64 (m - 1) = M := by rw [← IntWalk.i64_left]; exact EM
  rw [hN, hM] at HFF HTT
  have HIN := Lib.hid (show ∀ p : P2, inP n m band p ↔ (0 ≤ p.1 ∧ p.1 ≤ N) ∧ (0 ≤ p.2 ∧ p.2 ≤ M) ∧ absv (p.1 - p.2) ≤ band from fun p => by unfold inP; rw [hN, hM])
  clear ha hb hd he hN hM hk0 HL
  have hu : undef = Value.tuple #[] := rfl
  by_cases hc0 : a = 0
  rotate_left
  · have HF := Lib.hid (HFF.out (fun h => hc0 h.2.1.1))
    rw [HF.out]
    clear HFF HTT HAT HIN
    go_enter Try.func37, Try.ntmps37
    go_wp2
    go_ret
    exact ⟨rfl, Below.refl _ _⟩
  subst hc0
  by_cases hc1 : b = 0
  rotate_left
  · have HF := Lib.hid (HFF.out (fun h => hc1 h.2.1.2))
    rw [HF.out]
    clear HFF HTT HAT HIN
    go_enter Try.func37, Try.ntmps37
    go_wp2
    go_ret
    exact ⟨rfl, Below.refl _ _⟩
  subst hc1
  by_cases hc2 : d = N
  rotate_left
  · have HF := Lib.hid (HFF.out (fun h => hc2 h.2.2.1.1))
    rw [HF.out]
    clear HFF HTT HAT HIN
    go_enter Try.func37, Try.ntmps37
    go_wp2
    go_ret
    exact ⟨rfl, Below.refl _ _⟩
  replace hc2 := hc2.symm
  subst hc2
  by_cases hc3 : e = M
  rotate_left
  · have HF := Lib.hid (HFF.out (fun h => hc3 h.2.2.1.2))
    rw [HF.out]
    clear HFF HTT HAT HIN
    go_enter Try.func37, Try.ntmps37
    go_wp2
    go_ret
    exact ⟨rfl, Below.refl _ _⟩
  replace hc3 := hc3.symm
  subst hc3
  clear HFF
  have HT := Lib.hid (fun hx => HTT.out ⟨hKp, ⟨rfl, rfl⟩, ⟨rfl, rfl⟩, hx⟩)
  clear HTT
  go_enter Try.func37, Try.ntmps37
  go_wp2
  clear p0 p1 l0 l1
  go_loopw [10] (fun i w' => ∃ x : Nat, x ≤ K + 1 ∧ i = .int .i64 (x : Int) ∧ Hid (∀ j, j < x → okAt f n m band j) ∧ Hid (Below w.heap.size w w')) (fun i _ => K + 1 - (intOf i).toNat)
  case atStart => exact ⟨0, Nat.zero_le _, rfl, Lib.hid (fun j hj => absurd hj (by omega)), Lib.hid (Below.refl _ _)⟩
  case round =>
    obtain ⟨x, hx, rfl, HE, HB⟩ := hrel
    by_cases hlt : x < K + 1
    · obtain ⟨g1, o1, e1, hg, p0, p1⟩ := (HP.out.kept HB.out) x hlt
      injection e1 with e1
      injection e1 with e1 e2
      subst e1 e2
      have hli : (x : Int) < (K : Int) + 1 := by omega
      have HNO := Lib.hid (fun h => HAT.out x hlt h)
      have HOK := Lib.hid (show inP n m band (f x) → (0 < x → stepP (f (x - 1)) (f x)) → ∀ j, j < x + 1 → okAt f n m band j from fun h1 h2 j hj => by
        rcases Nat.lt_or_ge j x with h' | h'
        · exact HE.out j h'
        · obtain rfl : j = x := by omega
          exact ⟨h1, h2⟩)
      have HIX := Lib.hid (HIN.out (f x))
      have HA : okAt f n m band x ↔ inP n m band (f x) ∧ (0 < x → stepP (f (x - 1)) (f x)) := Iff.rfl
      have HAA := Lib.hid HA
      have HQQ := Lib.hid (fun (h : 0 < x) => (HIN.out (f (x - 1))).1 (HE.out (x - 1) (by omega)).1)
      have HPQ := Lib.hid (fun (h : 0 < x) => (HP.out.kept HB.out) (x - 1) (by omega))
      obtain ⟨p, hpk⟩ : ∃ p, f x = p := ⟨_, rfl⟩
      rw [hpk] at p0 p1 HOK HIX HAA
      have B8 := Lib.hid (HB.out.trans ((below_alloc1 wr (.cells #[.int .i64 p.1, .int .i64 p.2] 39)).mono HB.out.size))
      clear hpk HA HE
      by_cases c1 : 0 ≤ p.1 ∧ p.1 ≤ N
      rotate_left
      · have HF := Lib.hid (HNO.out (fun h => c1 (HIX.out.1 (HAA.out.1 h).1).1))
        go_wp2_with fail
        refine (in_f _ _ _ c1 _).mono ?_
        rintro e w2 ⟨rfl, rfl⟩
        go_wp2
        go_ret
        exact ⟨by rw [HF.out]; rfl, B8.out⟩
      by_cases c2 : 0 ≤ p.2 ∧ p.2 ≤ M
      rotate_left
      · have HF := Lib.hid (HNO.out (fun h => c2 (HIX.out.1 (HAA.out.1 h).1).2.1))
        go_wp2_with fail
        refine (in_t _ _ _ c1 _).mono ?_
        rintro e w2 ⟨rfl, rfl⟩
        go_wp2_with fail
        refine (in_f _ _ _ c2 _).mono ?_
        rintro e w2 ⟨rfl, rfl⟩
        go_wp2
        go_ret
        exact ⟨by rw [HF.out]; rfl, B8.out⟩
      have HS := Lib.hid (fun W => sizeS (p.1 - p.2) (by omega) (by omega) W)
      have hab := absv_in (n := p.1 - p.2) (B := 9223372036854775806) (by omega) (by omega)
      obtain ⟨D, hD⟩ : ∃ D, absv (p.1 - p.2) = D := ⟨_, rfl⟩
      rw [hD] at HS HIX hab
      clear hD
      by_cases c3 : D ≤ band
      rotate_left
      · have HF := Lib.hid (HNO.out (fun h => c3 (HIX.out.1 (HAA.out.1 h).1).2.2))
        have c3' : decide (band < D) = true := decide_eq_true (by omega)
        have c3i : band < D := by omega
        go_wp2_with fail
        refine (in_t _ _ _ c1 _).mono ?_
        rintro e w2 ⟨rfl, rfl⟩
        go_wp2_with fail
        refine (in_t _ _ _ c2 _).mono ?_
        rintro e w2 ⟨rfl, rfl⟩
        go_wp2_with fail
        with_reducible refine (HS.out _).mono ?_
        rintro e w2 ⟨rfl, rfl⟩
        go_wp2
        go_ret
        exact ⟨by rw [HF.out]; rfl, B8.out⟩
      have HIY := Lib.hid (HIX.out.2 ⟨c1, c2, c3⟩)
      have c3' : decide (band < D) = false := decide_eq_false (by omega)
      have c3i : ¬ band < D := by omega
      by_cases hx0 : x = 0
      · subst hx0
        have HN := Lib.hid (HOK.out HIY.out (fun h => absurd h (by omega)))
        clear HNO HOK HIX HAA HQQ HPQ
        simp only [Nat.zero_mul, Nat.add_zero] at p0 p1
        go_wp2_with fail
        refine (in_t _ _ _ c1 _).mono ?_
        rintro e w2 ⟨rfl, rfl⟩
        go_wp2_with fail
        refine (in_t _ _ _ c2 _).mono ?_
        rintro e w2 ⟨rfl, rfl⟩
        go_wp2_with fail
        with_reducible refine (HS.out _).mono ?_
        rintro e w2 ⟨rfl, rfl⟩
        clear p0 p1
        go_wp2
        go_roundw
        case rel => exact ⟨0 + 1, by omega, by go_num, HN, B8⟩
        case measure => simp [intOf]
      obtain ⟨y, rfl⟩ : ∃ y, x = y + 1 := ⟨x - 1, by omega⟩
      simp only [Nat.add_sub_cancel] at HOK HAA HQQ HPQ
      obtain ⟨g1, o1, e1, -, q0, q1⟩ := HPQ.out (by omega)
      injection e1 with e1
      injection e1 with e1 e2
      subst e1 e2
      have hq := HQQ.out (by omega)
      obtain ⟨q, hqk⟩ : ∃ q, f y = q := ⟨_, rfl⟩
      rw [hqk] at q0 q1 hq HOK HAA
      obtain ⟨hq1, hq2, -⟩ := hq
      obtain ⟨d1, hd1⟩ : ∃ d, p.1 - q.1 = d := ⟨_, rfl⟩
      obtain ⟨d2, hd2⟩ : ∃ d, p.2 - q.2 = d := ⟨_, rfl⟩
      have E1 : IntKind.i64.wrap (p.1 - q.1) = d1 := by rw [hd1]; exact IntWalk.i64_in _ (by omega)
      have E2 : IntKind.i64.wrap (p.2 - q.2) = d2 := by rw [hd2]; exact IntWalk.i64_in _ (by omega)
      have F1 : wrap64 (p.1 - q.1) = d1 := by rw [← IntWalk.i64_left]; exact E1
      have F2 : wrap64 (p.2 - q.2) = d2 := by rw [← IntWalk.i64_left]; exact E2
      have HST := Lib.hid (show stepP q p ↔ (0 ≤ d1 ∧ d1 ≤ 1) ∧ (0 ≤ d2 ∧ d2 ≤ 1) ∧ ¬ (p.1 = q.1 ∧ p.2 = q.2) from by unfold stepP; rw [hd1, hd2])
      have B9 := Lib.hid (B8.out.trans ((below_alloc1 (wr.alloc (.cells #[.int .i64 p.1, .int .i64 p.2] 39)) (.cells #[.int .i64 q.1, .int .i64 q.2] 39)).mono B8.out.size))
      have hy0 : (((y + 1 : Nat) : Int) == 0) = false := by simp; omega
      have hy1 : ((y : Int) + 1 == 0) = false := by simp; omega
      have hy2 : ¬ ((y : Int) + 1 = 0) := by omega
      have hyK : (y : Int) < (K : Int) + 1 := by omega
      have hyN : y < K + 1 := by omega
      have hy1K : y + 1 < K + 1 := by omega
      have hyp : (0 : Int) ≤ (y : Int) := by omega
      clear hqk hd1 hd2 hx0 HPQ HQQ hab
      by_cases s1 : 0 ≤ d1 ∧ d1 ≤ 1
      rotate_left
      · have HF := Lib.hid (HNO.out (fun h => s1 (HST.out.1 ((HAA.out.1 h).2 (by omega))).1))
        clear HNO HOK HIX HAA
        go_wp2_with fail
        refine (in_t _ _ _ c1 _).mono ?_
        rintro e w2 ⟨rfl, rfl⟩
        go_wp2_with fail
        refine (in_t _ _ _ c2 _).mono ?_
        rintro e w2 ⟨rfl, rfl⟩
        go_wp2_with fail
        with_reducible refine (HS.out _).mono ?_
        rintro e w2 ⟨rfl, rfl⟩
        go_wp2_with fail
        refine (in_f _ _ _ s1 _).mono ?_
        rintro e w2 ⟨rfl, rfl⟩
        go_wp2
        go_ret
        exact ⟨by rw [HF.out]; rfl, B9.out⟩
      by_cases s2 : 0 ≤ d2 ∧ d2 ≤ 1
      rotate_left
      · have HF := Lib.hid (HNO.out (fun h => s2 (HST.out.1 ((HAA.out.1 h).2 (by omega))).2.1))
        clear HNO HOK HIX HAA
        go_wp2_with fail
        refine (in_t _ _ _ c1 _).mono ?_
        rintro e w2 ⟨rfl, rfl⟩
        go_wp2_with fail
        refine (in_t _ _ _ c2 _).mono ?_
        rintro e w2 ⟨rfl, rfl⟩
        go_wp2_with fail
        with_reducible refine (HS.out _).mono ?_
        rintro e w2 ⟨rfl, rfl⟩
        go_wp2_with fail
        refine (in_t _ _ _ s1 _).mono ?_
        rintro e w2 ⟨rfl, rfl⟩
        go_wp2_with fail
        refine (in_f _ _ _ s2 _).mono ?_
        rintro e w2 ⟨rfl, rfl⟩
        go_wp2
        go_ret
        exact ⟨by rw [HF.out]; rfl, B9.out⟩
      by_cases s3 : p.1 = q.1 ∧ p.2 = q.2
      · have HF := Lib.hid (HNO.out (fun h => (HST.out.1 ((HAA.out.1 h).2 (by omega))).2.2 s3))
        have HT3 := Lib.hid s3
        clear HNO HOK HIX HAA HST s3
        go_wp2_with fail
        refine (in_t _ _ _ c1 _).mono ?_
        rintro e w2 ⟨rfl, rfl⟩
        go_wp2_with fail
        refine (in_t _ _ _ c2 _).mono ?_
        rintro e w2 ⟨rfl, rfl⟩
        go_wp2_with fail
        with_reducible refine (HS.out _).mono ?_
        rintro e w2 ⟨rfl, rfl⟩
        go_wp2_with fail
        refine (in_t _ _ _ s1 _).mono ?_
        rintro e w2 ⟨rfl, rfl⟩
        go_wp2_with fail
        refine (in_t _ _ _ s2 _).mono ?_
        rintro e w2 ⟨rfl, rfl⟩
        obtain ⟨t1, t2⟩ := HT3.out
        clear E1 E2 F1 F2
        rw [t1, t2] at B9
        go_wp2
        go_ret
        exact ⟨by rw [HF.out]; rfl, B9.out⟩
      have HN := Lib.hid (HOK.out HIY.out (fun _ => HST.out.2 ⟨s1, s2, s3⟩))
      clear HNO HOK HIX HAA HST
      have HT4 := Lib.hid (show ¬ p.1 = q.1 ∨ (p.1 = q.1 ∧ ¬ p.2 = q.2) by omega)
      clear s3
      · go_wp2_with fail
        refine (in_t _ _ _ c1 _).mono ?_
        rintro e w2 ⟨rfl, rfl⟩
        go_wp2_with fail
        refine (in_t _ _ _ c2 _).mono ?_
        rintro e w2 ⟨rfl, rfl⟩
        go_wp2_with fail
        with_reducible refine (HS.out _).mono ?_
        rintro e w2 ⟨rfl, rfl⟩
        go_wp2_with fail
        refine (in_t _ _ _ s1 _).mono ?_
        rintro e w2 ⟨rfl, rfl⟩
        go_wp2_with fail
        refine (in_t _ _ _ s2 _).mono ?_
        rintro e w2 ⟨rfl, rfl⟩
        clear p0 p1 q0 q1 E1 E2 F1 F2
        rcases HT4.out with t1 | ⟨t1, t2⟩
        all_goals
          try rw [t1] at B9
          go_wp2
          go_roundw
          case rel => exact ⟨y + 1 + 1, by omega, by go_num, HN, B9⟩
          case measure => simp [intOf]; omega
    · obtain rfl : x = K + 1 := by omega
      have HF := Lib.hid (HT.out HE.out)
      go_wp2
      go_ret
      exact ⟨by rw [HF.out]; rfl, HB.out⟩
end Go.Proofs.Ytgbelodobgmlbab.path
