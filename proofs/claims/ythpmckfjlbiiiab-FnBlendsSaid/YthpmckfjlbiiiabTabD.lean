/-
  Proved: the document's function that tells whether pairs are a path answers as the document's definition; what the document's functions that test paths and both lists return; what the document's function that tells the cost of a path returns; the table of least costs as a function, its steps and its bounds; rows of one number.
  Conditions: those of each theorem.
-/
import Derived.Test.YthpmckfjlbiiiabSeq
namespace Go.Proofs.Ythpmckfjlbiiiab.path
open Go.ChangeShapes Go.WideShapes Go.ChangeAt Go.RowKit Go.Joins
open Go.Proofs.Ythpmckfjlbiiiab.core Go.Proofs.Ythpmckfjlbiiiab.rown Go.Proofs.Ythpmckfjlbiiiab.stk Go.Proofs.Ythpmckfjlbiiiab.boxed Go.Proofs.Ythpmckfjlbiiiab.ft Go.Proofs.Ythpmckfjlbiiiab.seq
set_option linter.unusedVariables false
set_option linter.unusedSimpArgs false
/-- One pair lies within the lists and the band. -/
def inP (n m band : Int) (p : P2) : Prop := (0 ≤ p.1 ∧ p.1 ≤ n - 1) ∧ (0 ≤ p.2 ∧ p.2 ≤ m - 1) ∧ absv (p.1 - p.2) ≤ band
/-- One pair follows another one. -/
def stepP (q p : P2) : Prop := (0 ≤ p.1 - q.1 ∧ p.1 - q.1 ≤ 1) ∧ (0 ≤ p.2 - q.2 ∧ p.2 - q.2 ≤ 1) ∧ ¬ (p.1 = q.1 ∧ p.2 = q.2)
def okAt (f : Nat → P2) (n m band : Int) (x : Nat) : Prop := inP n m band (f x) ∧ (0 < x → stepP (f (x - 1)) (f x))
/-- The k pairs are a path for n and m elements, within the band. -/
noncomputable def okPath (k : Nat) (f : Nat → P2) (n m band : Int) : Bool := @decide (0 < k ∧ ((f 0).1 = 0 ∧ (f 0).2 = 0) ∧ ((f (k - 1)).1 = n - 1 ∧ (f (k - 1)).2 = m - 1) ∧ ∀ x, x < k → okAt f n m band x) (Classical.propDecidable _)
theorem okPath_true {k : Nat} {f : Nat → P2} {n m band : Int} (h : 0 < k ∧ ((f 0).1 = 0 ∧ (f 0).2 = 0) ∧ ((f (k - 1)).1 = n - 1 ∧ (f (k - 1)).2 = m - 1) ∧ ∀ x, x < k → okAt f n m band x) : okPath k f n m band = true := by
  unfold okPath; exact @decide_eq_true _ (Classical.propDecidable _) h
theorem okPath_of {k : Nat} {f : Nat → P2} {n m band : Int} (h : okPath k f n m band = true) : 0 < k ∧ ((f 0).1 = 0 ∧ (f 0).2 = 0) ∧ ((f (k - 1)).1 = n - 1 ∧ (f (k - 1)).2 = m - 1) ∧ ∀ x, x < k → okAt f n m band x := by
  unfold okPath at h; exact @of_decide_eq_true _ (Classical.propDecidable _) h
theorem okPath_no {k : Nat} {f : Nat → P2} {n m band : Int} (h : ¬ (0 < k ∧ ((f 0).1 = 0 ∧ (f 0).2 = 0) ∧ ((f (k - 1)).1 = n - 1 ∧ (f (k - 1)).2 = m - 1) ∧ ∀ x, x < k → okAt f n m band x)) : okPath k f n m band = false := by
  unfold okPath; exact @decide_eq_false _ (Classical.propDecidable _) h
theorem okPath_at {k : Nat} {f : Nat → P2} {n m band : Int} (x : Nat) (hx : x < k) (h : ¬ okAt f n m band x) : okPath k f n m band = false := okPath_no fun ⟨_, _, _, c⟩ => h (c x hx)
set_option maxRecDepth 100000 in
set_option maxHeartbeats 16000000 in
theorem pathS {c : Nat} (A : Option Addr) (k : Nat) (f : Nat → P2) (n m band : Int) (w : World) (hk : k ≤ 1048576) (hn : 1 ≤ n ∧ n ≤ 9223372036854775807) (hm : 1 ≤ m ∧ m ≤ 9223372036854775807) (hp : SpAt w A k f) :
    Calls Try.prog 66 #[.slice A k c, .int .i64 n, .int .i64 m, .int .i64 band] w fun e w' => e = .returned (.bool (okPath k f n m band)) ∧ Below w.heap.size w w' := by
  by_cases hk0 : k = 0
  · subst hk0
    have HF := Lib.hid (okPath_no (k := 0) (f := f) (n := n) (m := m) (band := band) (fun h => absurd h.1 (by omega)))
    rw [HF.out]
    clear hp
    have hu : undef = Value.tuple #[] := rfl
    go_enter Try.func66, Try.ntmps66
    go_wp2
    go_ret
    exact ⟨rfl, Below.refl _ _⟩
  have hkp : 0 < k := by omega
  have hki0 : ((k : Int) == 0) = false := by simp; omega
  have hkd : decide ((k : Int) = 0) = false := decide_eq_false (by omega)
  have hki : (0 : Int) < (k : Int) := by omega
  have hkl : k - 1 < k := by omega
  have HP := Lib.hid hp
  obtain ⟨g0, o0, rfl, hg0, p0, p1⟩ := hp 0 hkp
  obtain ⟨g1, o1, e1, -, l0, l1⟩ := hp (k - 1) hkl
  injection e1 with e1
  injection e1 with e1 e2
  subst e1 e2
  simp only [Nat.zero_mul, Nat.add_zero] at p0 p1
  clear hp
  obtain ⟨K, hK⟩ : ∃ K, k = K + 1 := ⟨k - 1, by omega⟩
  subst hK
  simp only [Nat.add_sub_cancel] at l0 l1
  have hKi : (K : Int) < (K : Int) + 1 := by omega
  have hKn : K < K + 1 := by omega
  have hK0 : (0 : Int) < (K : Int) + 1 := by omega
  have hKp : 0 < K + 1 := by omega
  have HFF := Lib.hid (fun h => okPath_no (k := K + 1) (f := f) (n := n) (m := m) (band := band) h)
  have HTT := Lib.hid (fun h => okPath_true (k := K + 1) (f := f) (n := n) (m := m) (band := band) h)
  have HAT := Lib.hid (fun x hx h => okPath_at (k := K + 1) (f := f) (n := n) (m := m) (band := band) x hx h)
  simp only [Nat.add_sub_cancel] at HFF HTT
  have HL := Lib.hid (show (f 0).1 = (f 0).1 from rfl)
  obtain ⟨a, ha⟩ : ∃ v, (f 0).1 = v := ⟨_, rfl⟩
  obtain ⟨b, hb⟩ : ∃ v, (f 0).2 = v := ⟨_, rfl⟩
  obtain ⟨d, hd⟩ : ∃ v, (f K).1 = v := ⟨_, rfl⟩
  obtain ⟨e, he⟩ : ∃ v, (f K).2 = v := ⟨_, rfl⟩
  rw [ha] at p0 HFF HTT
  rw [hb] at p1 HFF HTT
  rw [hd] at l0 HFF HTT
  rw [he] at l1 HFF HTT
  obtain ⟨N, hN⟩ : ∃ v, n - 1 = v := ⟨_, rfl⟩
  obtain ⟨M, hM⟩ : ∃ v, m - 1 = v := ⟨_, rfl⟩
  have hNb : 0 ≤ N ∧ N ≤ 9223372036854775806 := by omega
  have hMb : 0 ≤ M ∧ M ≤ 9223372036854775806 := by omega
  have EN : IntKind.i64.wrap (n - 1) = N := by rw [hN]; exact IntWalk.i64_in _ (by omega)
  have EM : IntKind.i64.wrap (m - 1) = M := by rw [hM]; exact IntWalk.i64_in _ (by omega)
  have FN : wrap64 (n - 1) = N := by rw [← IntWalk.i64_left]; exact EN
  have FM : wrap64 (m - 1) = M := by rw [← IntWalk.i64_left]; exact EM
  rw [hN, hM] at HFF HTT
  have HIN := Lib.hid (show ∀ p : P2, inP n m band p ↔ (0 ≤ p.1 ∧ p.1 ≤ N) ∧ (0 ≤ p.2 ∧ p.2 ≤ M) ∧ absv (p.1 - p.2) ≤ band from fun p => by unfold inP; rw [hN, hM])
  clear ha hb hd he hN hM hk0 HL
  have hu : undef = Value.tuple #[] := rfl
  by_cases hc0 : a = 0
  rotate_left
  · have HF := Lib.hid (HFF.out (fun h => hc0 h.2.1.1))
    rw [HF.out]
    clear HFF HTT HAT HIN
    go_enter Try.func66, Try.ntmps66
    go_wp2
    go_ret
    exact ⟨rfl, Below.refl _ _⟩
  subst hc0
  by_cases hc1 : b = 0
  rotate_left
  · have HF := Lib.hid (HFF.out (fun h => hc1 h.2.1.2))
    rw [HF.out]
    clear HFF HTT HAT HIN
    go_enter Try.func66, Try.ntmps66
    go_wp2
    go_ret
    exact ⟨rfl, Below.refl _ _⟩
  subst hc1
  by_cases hc2 : d = N
  rotate_left
  · have HF := Lib.hid (HFF.out (fun h => hc2 h.2.2.1.1))
    rw [HF.out]
    clear HFF HTT HAT HIN
    go_enter Try.func66, Try.ntmps66
    go_wp2
    go_ret
    exact ⟨rfl, Below.refl _ _⟩
  replace hc2 := hc2.symm
  subst hc2
  by_cases hc3 : e = M
  rotate_left
  · have HF := Lib.hid (HFF.out (fun h => hc3 h.2.2.1.2))
    rw [HF.out]
    clear HFF HTT HAT HIN
    go_enter Try.func66, Try.ntmps66
    go_wp2
    go_ret
    exact ⟨rfl, Below.refl _ _⟩
  replace hc3 := hc3.symm
  subst hc3
  clear HFF
  have HT := Lib.hid (fun hx => HTT.out ⟨hKp, ⟨rfl, rfl⟩, ⟨rfl, rfl⟩, hx⟩)
  clear HTT
  go_enter Try.func66, Try.ntmps66
  go_wp2
  clear p0 p1 l0 l1
  go_loopw [10] (fun i w' => ∃ x : Nat, x ≤ K + 1 ∧ i = .int .i64 (x : Int) ∧ Hid (∀ j, j < x → okAt f n m band j) ∧ Hid (Below w.heap.size w w')) (fun i _ => K + 1 - (intOf i).toNat)
  case atStart => exact ⟨0, Nat.zero_le _, rfl, Lib.hid (fun j hj => absurd hj (by omega)), Lib.hid (Below.refl _ _)⟩
  case round =>
    obtain ⟨x, hx, rfl, HE, HB⟩ := hrel
    by_cases hlt : x < K + 1
    · obtain ⟨g1, o1, e1, hg, p0, p1⟩ := (HP.out.kept HB.out) x hlt
      injection e1 with e1
      injection e1 with e1 e2
      subst e1 e2
      have hli : (x : Int) < (K : Int) + 1 := by omega
      have HNO := Lib.hid (fun h => HAT.out x hlt h)
      have HOK := Lib.hid (show inP n m band (f x) → (0 < x → stepP (f (x - 1)) (f x)) → ∀ j, j < x + 1 → okAt f n m band j from fun h1 h2 j hj => by
        rcases Nat.lt_or_ge j x with h' | h'
        · exact HE.out j h'
        · obtain rfl : j = x := by omega
          exact ⟨h1, h2⟩)
      have HIX := Lib.hid (HIN.out (f x))
      have HA : okAt f n m band x ↔ inP n m band (f x) ∧ (0 < x → stepP (f (x - 1)) (f x)) := Iff.rfl
      have HAA := Lib.hid HA
      have HQQ := Lib.hid (fun (h : 0 < x) => (HIN.out (f (x - 1))).1 (HE.out (x - 1) (by omega)).1)
      have HPQ := Lib.hid (fun (h : 0 < x) => (HP.out.kept HB.out) (x - 1) (by omega))
      obtain ⟨p, hpk⟩ : ∃ p, f x = p := ⟨_, rfl⟩
      rw [hpk] at p0 p1 HOK HIX HAA
      have B8 := Lib.hid (HB.out.trans ((below_alloc1 wr (.cells #[.int .i64 p.1, .int .i64 p.2] 59)).mono HB.out.size))
      clear hpk HA HE
      by_cases c1 : 0 ≤ p.1 ∧ p.1 ≤ N
      rotate_left
      · have HF := Lib.hid (HNO.out (fun h => c1 (HIX.out.1 (HAA.out.1 h).1).1))
        go_wp2_with fail
        refine (in_f _ _ _ c1 _).mono ?_
        rintro e w2 ⟨rfl, rfl⟩
        go_wp2
        go_ret
        exact ⟨by rw [HF.out]; rfl, B8.out⟩
      by_cases c2 : 0 ≤ p.2 ∧ p.2 ≤ M
      rotate_left
      · have HF := Lib.hid (HNO.out (fun h => c2 (HIX.out.1 (HAA.out.1 h).1).2.1))
        go_wp2_with fail
        refine (in_t _ _ _ c1 _).mono ?_
        rintro e w2 ⟨rfl, rfl⟩
        go_wp2_with fail
        refine (in_f _ _ _ c2 _).mono ?_
        rintro e w2 ⟨rfl, rfl⟩
        go_wp2
        go_ret
        exact ⟨by rw [HF.out]; rfl, B8.out⟩
      have HS := Lib.hid (fun W => sizeS (p.1 - p.2) (by omega) (by omega) W)
      have hab := absv_in (n := p.1 - p.2) (B := 9223372036854775806) (by omega) (by omega)
      obtain ⟨D, hD⟩ : ∃ D, absv (p.1 - p.2) = D := ⟨_, rfl⟩
      rw [hD] at HS HIX hab
      clear hD
      by_cases c3 : D ≤ band
      rotate_left
      · have HF := Lib.hid (HNO.out (fun h => c3 (HIX.out.1 (HAA.out.1 h).1).2.2))
        have c3' : decide (band < D) = true := decide_eq_true (by omega)
        have c3i : band < D := by omega
        go_wp2_with fail
        refine (in_t _ _ _ c1 _).mono ?_
        rintro e w2 ⟨rfl, rfl⟩
        go_wp2_with fail
        refine (in_t _ _ _ c2 _).mono ?_
        rintro e w2 ⟨rfl, rfl⟩
        go_wp2_with fail
        with_reducible refine (HS.out _).mono ?_
        rintro e w2 ⟨rfl, rfl⟩
        go_wp2
        go_ret
        exact ⟨by rw [HF.out]; rfl, B8.out⟩
      have HIY := Lib.hid (HIX.out.2 ⟨c1, c2, c3⟩)
      have c3' : decide (band < D) = false := decide_eq_false (by omega)
      have c3i : ¬ band < D := by omega
      by_cases hx0 : x = 0
      · subst hx0
        have HN := Lib.hid (HOK.out HIY.out (fun h => absurd h (by omega)))
        clear HNO HOK HIX HAA HQQ HPQ
        simp only [Nat.zero_mul, Nat.add_zero] at p0 p1
        go_wp2_with fail
        refine (in_t _ _ _ c1 _).mono ?_
        rintro e w2 ⟨rfl, rfl⟩
        go_wp2_with fail
        refine (in_t _ _ _ c2 _).mono ?_
        rintro e w2 ⟨rfl, rfl⟩
        go_wp2_with fail
        with_reducible refine (HS.out _).mono ?_
        rintro e w2 ⟨rfl, rfl⟩
        clear p0 p1
        go_wp2
        go_roundw
        case rel => exact ⟨0 + 1, by omega, by go_num, HN, B8⟩
        case measure => simp [intOf]
      obtain ⟨y, rfl⟩ : ∃ y, x = y + 1 := ⟨x - 1, by omega⟩
      simp only [Nat.add_sub_cancel] at HOK HAA HQQ HPQ
      obtain ⟨g1, o1, e1, -, q0, q1⟩ := HPQ.out (by omega)
      injection e1 with e1
      injection e1 with e1 e2
      subst e1 e2
      have hq := HQQ.out (by omega)
      obtain ⟨q, hqk⟩ : ∃ q, f y = q := ⟨_, rfl⟩
      rw [hqk] at q0 q1 hq HOK HAA
      obtain ⟨hq1, hq2, -⟩ := hq
      obtain ⟨d1, hd1⟩ : ∃ d, p.1 - q.1 = d := ⟨_, rfl⟩
      obtain ⟨d2, hd2⟩ : ∃ d, p.2 - q.2 = d := ⟨_, rfl⟩
      have E1 : IntKind.i64.wrap (p.1 - q.1) = d1 := by rw [hd1]; exact IntWalk.i64_in _ (by omega)
      have E2 : IntKind.i64.wrap (p.2 - q.2) = d2 := by rw [hd2]; exact IntWalk.i64_in _ (by omega)
      have F1 : wrap64 (p.1 - q.1) = d1 := by rw [← IntWalk.i64_left]; exact E1
      have F2 : wrap64 (p.2 - q.2) = d2 := by rw [← IntWalk.i64_left]; exact E2
      have HST := Lib.hid (show stepP q p ↔ (0 ≤ d1 ∧ d1 ≤ 1) ∧ (0 ≤ d2 ∧ d2 ≤ 1) ∧ ¬ (p.1 = q.1 ∧ p.2 = q.2) from by unfold stepP; rw [hd1, hd2])
      have B9 := Lib.hid (B8.out.trans ((below_alloc1 (wr.alloc (.cells #[.int .i64 p.1, .int .i64 p.2] 59)) (.cells #[.int .i64 q.1, .int .i64 q.2] 59)).mono B8.out.size))
      have hy0 : (((y + 1 : Nat) : Int) == 0) = false := by simp; omega
      have hy1 : ((y : Int) + 1 == 0) = false := by simp; omega
      have hy2 : ¬ ((y : Int) + 1 = 0) := by omega
      have hyK : (y : Int) < (K : Int) + 1 := by omega
      have hyN : y < K + 1 := by omega
      have hy1K : y + 1 < K + 1 := by omega
      have hyp : (0 : Int) ≤ (y : Int) := by omega
      clear hqk hd1 hd2 hx0 HPQ HQQ hab
      by_cases s1 : 0 ≤ d1 ∧ d1 ≤ 1
      rotate_left
      · have HF := Lib.hid (HNO.out (fun h => s1 (HST.out.1 ((HAA.out.1 h).2 (by omega))).1))
        clear HNO HOK HIX HAA
        go_wp2_with fail
        refine (in_t _ _ _ c1 _).mono ?_
        rintro e w2 ⟨rfl, rfl⟩
        go_wp2_with fail
        refine (in_t _ _ _ c2 _).mono ?_
        rintro e w2 ⟨rfl, rfl⟩
        go_wp2_with fail
        with_reducible refine (HS.out _).mono ?_
        rintro e w2 ⟨rfl, rfl⟩
        go_wp2_with fail
        refine (in_f _ _ _ s1 _).mono ?_
        rintro e w2 ⟨rfl, rfl⟩
        go_wp2
        go_ret
        exact ⟨by rw [HF.out]; rfl, B9.out⟩
      by_cases s2 : 0 ≤ d2 ∧ d2 ≤ 1
      rotate_left
      · have HF := Lib.hid (HNO.out (fun h => s2 (HST.out.1 ((HAA.out.1 h).2 (by omega))).2.1))
        clear HNO HOK HIX HAA
        go_wp2_with fail
        refine (in_t _ _ _ c1 _).mono ?_
        rintro e w2 ⟨rfl, rfl⟩
        go_wp2_with fail
        refine (in_t _ _ _ c2 _).mono ?_
        rintro e w2 ⟨rfl, rfl⟩
        go_wp2_with fail
        with_reducible refine (HS.out _).mono ?_
        rintro e w2 ⟨rfl, rfl⟩
        go_wp2_with fail
        refine (in_t _ _ _ s1 _).mono ?_
        rintro e w2 ⟨rfl, rfl⟩
        go_wp2_with fail
        refine (in_f _ _ _ s2 _).mono ?_
        rintro e w2 ⟨rfl, rfl⟩
        go_wp2
        go_ret
        exact ⟨by rw [HF.out]; rfl, B9.out⟩
      by_cases s3 : p.1 = q.1 ∧ p.2 = q.2
      · have HF := Lib.hid (HNO.out (fun h => (HST.out.1 ((HAA.out.1 h).2 (by omega))).2.2 s3))
        have HT3 := Lib.hid s3
        clear HNO HOK HIX HAA HST s3
        go_wp2_with fail
        refine (in_t _ _ _ c1 _).mono ?_
        rintro e w2 ⟨rfl, rfl⟩
        go_wp2_with fail
        refine (in_t _ _ _ c2 _).mono ?_
        rintro e w2 ⟨rfl, rfl⟩
        go_wp2_with fail
        with_reducible refine (HS.out _).mono ?_
        rintro e w2 ⟨rfl, rfl⟩
        go_wp2_with fail
        refine (in_t _ _ _ s1 _).mono ?_
        rintro e w2 ⟨rfl, rfl⟩
        go_wp2_with fail
        refine (in_t _ _ _ s2 _).mono ?_
        rintro e w2 ⟨rfl, rfl⟩
        obtain ⟨t1, t2⟩ := HT3.out
        clear E1 E2 F1 F2
        rw [t1, t2] at B9
        go_wp2
        go_ret
        exact ⟨by rw [HF.out]; rfl, B9.out⟩
      have HN := Lib.hid (HOK.out HIY.out (fun _ => HST.out.2 ⟨s1, s2, s3⟩))
      clear HNO HOK HIX HAA HST
      have HT4 := Lib.hid (show ¬ p.1 = q.1 ∨ (p.1 = q.1 ∧ ¬ p.2 = q.2) by omega)
      clear s3
      · go_wp2_with fail
        refine (in_t _ _ _ c1 _).mono ?_
        rintro e w2 ⟨rfl, rfl⟩
        go_wp2_with fail
        refine (in_t _ _ _ c2 _).mono ?_
        rintro e w2 ⟨rfl, rfl⟩
        go_wp2_with fail
        with_reducible refine (HS.out _).mono ?_
        rintro e w2 ⟨rfl, rfl⟩
        go_wp2_with fail
        refine (in_t _ _ _ s1 _).mono ?_
        rintro e w2 ⟨rfl, rfl⟩
        go_wp2_with fail
        refine (in_t _ _ _ s2 _).mono ?_
        rintro e w2 ⟨rfl, rfl⟩
        clear p0 p1 q0 q1 E1 E2 F1 F2
        rcases HT4.out with t1 | ⟨t1, t2⟩
        all_goals
          try rw [t1] at B9
          go_wp2
          go_roundw
          case rel => exact ⟨y + 1 + 1, by omega, by go_num, HN, B9⟩
          case measure => simp [intOf]; omega
    · obtain rfl : x = K + 1 := by omega
      have HF := Lib.hid (HT.out HE.out)
      go_wp2
      go_ret
      exact ⟨by rw [HF.out]; rfl, HB.out⟩
end Go.Proofs.Ythpmckfjlbiiiab.path

namespace Go.Proofs.Ythpmckfjlbiiiab.path

open Go.ChangeShapes Go.WideShapes Go.ChangeAt Go.RowKit Go.Joins

open Go.Proofs.Ythpmckfjlbiiiab.core Go.Proofs.Ythpmckfjlbiiiab.rown Go.Proofs.Ythpmckfjlbiiiab.stk Go.Proofs.Ythpmckfjlbiiiab.boxed Go.Proofs.Ythpmckfjlbiiiab.ft Go.Proofs.Ythpmckfjlbiiiab.seq
set_option linter.unusedVariables false
set_option linter.unusedSimpArgs false
noncomputable def vP (k : Nat) (f : Nat → P2) (n m band : Int) : Bool := if 1 ≤ n ∧ 1 ≤ m then okPath k f n m band else false
set_option maxRecDepth 100000 in
set_option maxHeartbeats 2000000 in
theorem validPathS {c : Nat} (A : Option Addr) (k : Nat) (f : Nat → P2) (n m band : Int) (w : World) (hk : k ≤ 1048576) (hn : inI64 n) (hm : inI64 m) (hp : SpAt w A k f) :
    Calls Try.prog 30 #[.slice A k c, .int .i64 n, .int .i64 m, .int .i64 band] w fun e w' => e = .returned (.bool (vP k f n m band)) ∧ Below w.heap.size w w' := by
  unfold inI64 at hn hm
  have hu : undef = Value.tuple #[] := rfl
  by_cases h1 : 1 ≤ n
  rotate_left
  · have HV := Lib.hid (show vP k f n m band = false by unfold vP; rw [if_neg (fun h => h1 h.1)])
    have hd : decide (1 ≤ n) = false := decide_eq_false h1
    clear hp
    go_enter Try.func30, Try.ntmps30
    go_wp2
    go_ret
    exact ⟨by rw [HV.out]; rfl, Below.refl _ _⟩
  by_cases h2 : 1 ≤ m
  rotate_left
  · have HV := Lib.hid (show vP k f n m band = false by unfold vP; rw [if_neg (fun h => h2 h.2)])
    have hd : decide (1 ≤ n) = true := decide_eq_true h1
    have hd2 : decide (1 ≤ m) = false := decide_eq_false h2
    clear hp
    go_enter Try.func30, Try.ntmps30
    go_wp2
    go_ret
    exact ⟨by rw [HV.out]; rfl, Below.refl _ _⟩
  have HC := Lib.hid (pathS (c := c) A k f n m band w hk ⟨h1, hn.2⟩ ⟨h2, hm.2⟩ hp)
  have HV := Lib.hid (show vP k f n m band = okPath k f n m band by unfold vP; rw [if_pos ⟨h1, h2⟩])
  have hd : decide (1 ≤ n) = true := decide_eq_true h1
  have hd2 : decide (1 ≤ m) = true := decide_eq_true h2
  clear hp
  obtain ⟨r, hr⟩ : ∃ r, okPath k f n m band = r := ⟨_, rfl⟩
  rw [hr] at HC HV
  clear hr
  go_enter Try.func30, Try.ntmps30
  go_wp2_with fail
  refine HC.out.mono ?_
  rintro e w1 ⟨rfl, hb⟩
  have HB := Lib.hid hb
  clear hb
  cases r
  all_goals
    go_wp2
    go_ret
    exact ⟨by rw [HV.out]; rfl, HB.out⟩
/-- The code of two lists and a path. -/
noncomputable def fitC (na nb k : Nat) (fa fb : Nat → P3) (f : Nat → P2) : Int := if okQ na fa = true ∧ okQ nb fb = true then (if okPath k f na nb 72 = true then 0 else 2) else 1
end Go.Proofs.Ythpmckfjlbiiiab.path

namespace Go.Proofs.Ythpmckfjlbiiiab.path

open Go.ChangeShapes Go.WideShapes Go.ChangeAt Go.RowKit Go.Joins

open Go.Proofs.Ythpmckfjlbiiiab.core Go.Proofs.Ythpmckfjlbiiiab.rown Go.Proofs.Ythpmckfjlbiiiab.stk Go.Proofs.Ythpmckfjlbiiiab.boxed Go.Proofs.Ythpmckfjlbiiiab.ft Go.Proofs.Ythpmckfjlbiiiab.seq
set_option linter.unusedVariables false
set_option linter.unusedSimpArgs false
def sumZ (g : Nat → Int) : Nat → Int
  | 0 => 0
  | n + 1 => sumZ g n + g n
theorem sumZ_in {g : Nat → Int} {B : Int} : ∀ {n : Nat}, (∀ j, j < n → 0 ≤ g j ∧ g j ≤ B) → 0 ≤ sumZ g n ∧ sumZ g n ≤ (n : Int) * B
  | 0, _ => by simp [sumZ]
  | n + 1, h => by
    have h1 := sumZ_in (n := n) fun j hj => h j (by omega)
    have h2 := h n (by omega)
    have h3 : ((n + 1 : Nat) : Int) * B = (n : Int) * B + B := by push_cast; rw [Int.add_mul, Int.one_mul]
    rw [h3]; unfold sumZ; omega
/-- The cost of one pair of a path. -/
def pcAt (fa fb : Nat → P3) (f : Nat → P2) (x : Nat) : Int := cst (fa (f x).1.toNat) (fb (f x).2.toNat)
noncomputable def pcR (na nb k : Nat) (fa fb : Nat → P3) (f : Nat → P2) : Int := if fitC na nb k fa fb f = 0 then sumZ (pcAt fa fb f) k else 0
theorem fit_of {na nb k : Nat} {fa fb : Nat → P3} {f : Nat → P2} (h : fitC na nb k fa fb f = 0) : okQ na fa = true ∧ okQ nb fb = true ∧ okPath k f na nb 72 = true := by
  unfold fitC at h
  split at h
  · rename_i h1
    split at h
    · rename_i h2; exact ⟨h1.1, h1.2, h2⟩
    · cases h
  · cases h
theorem fit_any (na nb k : Nat) (fa fb : Nat → P3) (f : Nat → P2) : fitC na nb k fa fb f = 0 ∨ fitC na nb k fa fb f = 1 ∨ fitC na nb k fa fb f = 2 := by
  unfold fitC; split <;> (try split) <;> simp
/-- What a pair of a path points at. -/
theorem fit_at {na nb k : Nat} {fa fb : Nat → P3} {f : Nat → P2} (h : fitC na nb k fa fb f = 0) (x : Nat) (hx : x < k) : ∃ i j, i < na ∧ j < nb ∧ f x = ((i : Int), (j : Int)) ∧ inF (fa i) = true ∧ inF (fb j) = true ∧ pcAt fa fb f x = cst (fa i) (fb j) := by
  obtain ⟨h1, h2, h3⟩ := fit_of h
  obtain ⟨⟨⟨a1, a2⟩, ⟨b1, b2⟩, -⟩, -⟩ := (okPath_of h3).2.2.2 x hx
  refine ⟨(f x).1.toNat, (f x).2.toNat, by omega, by omega, ?_, (okQ_of h1).2.2 _ (by omega), (okQ_of h2).2.2 _ (by omega), rfl⟩
  rw [Prod.ext_iff]
  exact ⟨by simp only; omega, by simp only; omega⟩
end Go.Proofs.Ythpmckfjlbiiiab.path

namespace Go.Proofs.Ythpmckfjlbiiiab.tab

open Go.ChangeShapes Go.WideShapes Go.ChangeAt Go.RowKit Go.Joins

open Go.Proofs.Ythpmckfjlbiiiab.core Go.Proofs.Ythpmckfjlbiiiab.rown Go.Proofs.Ythpmckfjlbiiiab.stk Go.Proofs.Ythpmckfjlbiiiab.boxed Go.Proofs.Ythpmckfjlbiiiab.ft Go.Proofs.Ythpmckfjlbiiiab.seq
set_option linter.unusedVariables false
set_option linter.unusedSimpArgs false
def one (F : Nat → Int) (i : Nat) : List Value := [.int .i64 (F i)]
theorem one_len (F : Nat → Int) : ∀ i, (one F i).length = 1 := fun i => rfl
theorem one_get (F : Nat → Int) : ∀ i j, j < 1 → (one F i)[j]? = some (.int .i64 (F i)) := fun i j hj => by
  obtain rfl : j = 0 := by omega
  rfl
theorem set1 (F F' : Nat → Int) (n d : Nat) (hd : d < n) (v : Int) (h : ∀ j, F' j = if j = d then v else F j) : (rws (one F) n).set d (.int .i64 v) = rws (one F') n := by
  have hl := rws_len (one_len F) n
  have hl2 := rws_len (one_len F') n
  apply List.ext_getElem?
  intro j
  rcases Nat.lt_or_ge j n with hj | hj
  · have e1 := rws_get (one_len F) j 0 (by omega) n hj
    have e2 := rws_get (one_len F') j 0 (by omega) n hj
    rw [Nat.mul_one, Nat.add_zero] at e1 e2
    rw [e2, List.getElem?_set, hl]
    by_cases e : d = j
    · subst e
      rw [if_pos rfl, if_pos (by omega)]
      unfold one
      rw [h, if_pos rfl]
      rfl
    · rw [if_neg e, e1]
      unfold one
      rw [h, if_neg (by omega)]
  · rw [List.getElem?_eq_none (by simp only [List.length_set]; omega), List.getElem?_eq_none (by omega)]
theorem infoI : (Try.prog.info? 2).map (fun i => (i.zero, i.size, i.bytes)) = some (some (.int .i64 0), 1, 8) := by kernel_rfl
theorem one_cell {w : World} {base n E g c : Nat} {F : Nat → Int} (h : w.ownsRow base E 1 (.slice (some ⟨g, 0, none⟩) n c) n (rws (one F) n)) {q : Nat} (hq : q < n) : w.cell? ⟨g, q, none⟩ = some (.int .i64 (F q)) := by
  have := row_cell h (one_len _) hq (show 0 < 1 by omega) rfl
  rw [Nat.mul_one, Nat.add_zero] at this
  exact this
/-- A cost that no path has. -/
def far : Int := 1000000000
def cellT (fa fb : Nat → P3) (band : Int) (i j : Nat) (b : Int) : Int := if b = far ∨ band < absv ((i : Int) - (j : Int)) then far else b + cst (fa i) (fb j)
def row0 (fa fb : Nat → P3) (band : Int) : Nat → Int
  | 0 => cellT fa fb band 0 0 0
  | j + 1 => cellT fa fb band 0 (j + 1) (min far (row0 fa fb band j))
def rowS (fa fb : Nat → P3) (band : Int) (i : Nat) (r : Nat → Int) : Nat → Int
  | 0 => cellT fa fb band (i + 1) 0 (min far (r 0))
  | j + 1 => cellT fa fb band (i + 1) (j + 1) (min (min (min far (r j)) (r (j + 1))) (rowS fa fb band i r j))
/-- The least cost of a path to the pair of i and j. -/
def tab (fa fb : Nat → P3) (band : Int) : Nat → Nat → Int
  | 0 => row0 fa fb band
  | i + 1 => rowS fa fb band i (tab fa fb band i)
theorem tab_yy {fa fb : Nat → P3} {band : Int} {i j : Nat} (hi : i ≠ 0) (hj : j ≠ 0) : tab fa fb band i j = cellT fa fb band i j (min (min (min far (tab fa fb band (i - 1) (j - 1))) (tab fa fb band (i - 1) j)) (tab fa fb band i (j - 1))) := by
  obtain ⟨i, rfl⟩ : ∃ x, i = x + 1 := ⟨i - 1, by omega⟩
  obtain ⟨j, rfl⟩ : ∃ x, j = x + 1 := ⟨j - 1, by omega⟩
  rfl
theorem tab_yn {fa fb : Nat → P3} {band : Int} {i : Nat} (hi : i ≠ 0) : tab fa fb band i 0 = cellT fa fb band i 0 (min far (tab fa fb band (i - 1) 0)) := by
  obtain ⟨i, rfl⟩ : ∃ x, i = x + 1 := ⟨i - 1, by omega⟩
  rfl
theorem tab_ny {fa fb : Nat → P3} {band : Int} {j : Nat} (hj : j ≠ 0) : tab fa fb band 0 j = cellT fa fb band 0 j (min far (tab fa fb band 0 (j - 1))) := by
  obtain ⟨j, rfl⟩ : ∃ x, j = x + 1 := ⟨j - 1, by omega⟩
  rfl
theorem tab_nn {fa fb : Nat → P3} {band : Int} : tab fa fb band 0 0 = cellT fa fb band 0 0 0 := rfl
theorem cellT_in {fa fb : Nat → P3} {band : Int} {i j : Nat} {b : Int} (hi : inF (fa i) = true) (hj : inF (fb j) = true) (hb : 0 ≤ b ∧ b ≤ far) : 0 ≤ cellT fa fb band i j b ∧ cellT fa fb band i j b ≤ 1000000574 := by
  have h := cst_in hi hj
  unfold far at hb
  unfold cellT
  split
  · unfold far; omega
  · omega
theorem tab_in {fa fb : Nat → P3} {band : Int} {n m : Nat} (ha : ∀ i, i < n → inF (fa i) = true) (hb : ∀ j, j < m → inF (fb j) = true) : ∀ i j, i < n → j < m → 0 ≤ tab fa fb band i j ∧ tab fa fb band i j ≤ 1000000574 := by
  have hf : (0 : Int) ≤ far := by unfold far; omega
  intro i
  induction i with
  | zero =>
    intro j
    induction j with
    | zero => intro h1 h2; exact cellT_in (ha 0 h1) (hb 0 h2) ⟨by omega, hf⟩
    | succ j ih =>
      intro h1 h2
      have h := ih h1 (by omega)
      rw [tab_ny (by omega), Nat.add_sub_cancel]
      exact cellT_in (ha 0 h1) (hb _ h2) ⟨by omega, by omega⟩
  | succ i ihi =>
    intro j
    induction j with
    | zero =>
      intro h1 h2
      have h := ihi 0 (by omega) h2
      rw [tab_yn (by omega), Nat.add_sub_cancel]
      exact cellT_in (ha _ h1) (hb _ h2) ⟨by omega, by omega⟩
    | succ j ih =>
      intro h1 h2
      have h := ih h1 (by omega)
      have h' := ihi j (by omega) (by omega)
      have h'' := ihi (j + 1) (by omega) h2
      rw [tab_yy (by omega) (by omega), Nat.add_sub_cancel, Nat.add_sub_cancel]
      exact cellT_in (ha _ h1) (hb _ h2) ⟨by omega, by omega⟩
theorem cellT_far {fa fb : Nat → P3} {band : Int} {i j : Nat} {b : Int} (h : b = far ∨ band < absv ((i : Int) - (j : Int))) : cellT fa fb band i j b = far := by unfold cellT; rw [if_pos h]
theorem cellT_sum {fa fb : Nat → P3} {band : Int} {i j : Nat} {b : Int} (h : b ≠ far) (h2 : ¬ band < absv ((i : Int) - (j : Int))) : cellT fa fb band i j b = b + cst (fa i) (fb j) := by
  unfold cellT; rw [if_neg (fun h' => h'.elim h h2)]
/-- The table as one row of numbers. -/
def tabQ (fa fb : Nat → P3) (band : Int) (m : Nat) (q : Nat) : Int := tab fa fb band (q / m) (q % m)
theorem tabQ_at (fa fb : Nat → P3) (band : Int) {m i j : Nat} (hj : j < m) : tabQ fa fb band m (i * m + j) = tab fa fb band i j := by
  unfold tabQ
  rw [Nat.add_comm (i * m) j, Nat.add_mul_div_right _ _ (by omega : 0 < m), Nat.add_mul_mod_self_right, Nat.div_eq_of_lt hj, Nat.mod_eq_of_lt hj, Nat.zero_add]
/-- A new table of zeros. -/
theorem makeN (n : Nat) (hn : n ≤ 1048576) (w : World) : ∃ cur : Array Value, (Instr.makeSlice 30 (.int .i64 (n : Int)) (.int .i64 (n : Int))).run Try.prog w = .ok (.slice (some ⟨w.heap.size, 0, none⟩) n n) (w.alloc (.cells cur 2)) ∧
    (w.alloc (.cells cur 2)).ownsRow w.heap.size 2 1 (.slice (some ⟨w.heap.size, 0, none⟩) n n) n (rws (one fun _ => 0) n) := by
  obtain ⟨i0, hi, hz0, hz1, hz2⟩ := rown.info_get infoI
  have hr := run_make (P := Try.prog) w 30 2 i0 _ Try.underlying30 hi hz0 .i64 .i64 n n (by omega) (by omega) (by rw [hz2]; omega) (by omega)
  simp only [Int.toNat_natCast] at hr
  have hl := rws_len (one_len fun _ => 0) n
  have e : (madeCells (Value.int .i64 0).cells (n * i0.size)).toList = rws (one fun _ => 0) n := by
    rw [hz1, Nat.mul_one]
    apply List.ext_getElem?
    intro j
    rcases Nat.lt_or_ge j n with h | h
    · have h2 := rws_get (one_len fun _ => 0) j 0 (by omega) n h
      rw [Nat.mul_one, Nat.add_zero] at h2
      rw [h2]
      simp [madeCells, Value.cells, one, h, Nat.mod_one]
    · rw [List.getElem?_eq_none (by simp [madeCells]; omega), List.getElem?_eq_none (by omega)]
  have hs : (madeCells (Value.int .i64 0).cells (n * i0.size)).size = n * 1 := by rw [hz1]; simp [madeCells]
  refine ⟨_, hr, by omega, .inr ⟨w.heap.size, n, _, rfl, Nat.le_refl _, heap_alloc_new _ _, Nat.le_refl _, by simp only [maxLen]; omega, by rw [hs], ?_⟩⟩
  rw [e, Nat.mul_one, List.take_of_length_le (by omega)]
end Go.Proofs.Ythpmckfjlbiiiab.tab
