/-
  Proved: what the program's functions that test an envelope return.
  Conditions: none.
-/
import Derived.Test.YthpmckfjlbiiiaaEnvOk
import Derived.Test.YthpmckfjlbiiiaaBandI
namespace Go.Proofs.Ythpmckfjlbiiiaa.env
open Go.ChangeShapes Go.WideShapes Go.ChangeAt Go.RowKit Go.Joins
open Go.Proofs.Ythpmckfjlbiiiaa.core Go.Proofs.Ythpmckfjlbiiiaa.rown Go.Proofs.Ythpmckfjlbiiiaa.stk Go.Proofs.Ythpmckfjlbiiiaa.boxed Go.Proofs.Ythpmckfjlbiiiaa.ft Go.Proofs.Ythpmckfjlbiiiaa.seq
set_option linter.unusedVariables false
set_option linter.unusedSimpArgs false
/-- Low and high numbers, whatever their number. -/
noncomputable def limOk (n m : Nat) (lo hi : Nat → Int) : Bool := @decide (n = m ∧ ∀ i, i < n → (0 ≤ lo i ∧ lo i ≤ hi i) ∧ hi i ≤ 255) (Classical.propDecidable _)
theorem lim_true {n m : Nat} {lo hi : Nat → Int} (h : n = m ∧ ∀ i, i < n → (0 ≤ lo i ∧ lo i ≤ hi i) ∧ hi i ≤ 255) : limOk n m lo hi = true := by
  unfold limOk; exact @decide_eq_true _ (Classical.propDecidable _) h
theorem lim_of {n m : Nat} {lo hi : Nat → Int} (h : limOk n m lo hi = true) : n = m ∧ ∀ i, i < n → (0 ≤ lo i ∧ lo i ≤ hi i) ∧ hi i ≤ 255 := by
  unfold limOk at h; exact @of_decide_eq_true _ (Classical.propDecidable _) h
theorem lim_no {n m : Nat} {lo hi : Nat → Int} (h : ¬ (n = m ∧ ∀ i, i < n → (0 ≤ lo i ∧ lo i ≤ hi i) ∧ hi i ≤ 255)) : limOk n m lo hi = false := by
  unfold limOk; exact @decide_eq_false _ (Classical.propDecidable _) h
set_option maxRecDepth 100000 in
set_option maxHeartbeats 8000000 in
theorem limI {ca cb : Nat} (A B : Option Addr) (n m : Nat) (lo hi : Nat → Int) (w : World) (hn : n ≤ 1048576) (hm : m ≤ 1048576) (pa : NumAt w A n lo) (pb : NumAt w B m hi) :
    Calls Try.prog 67 #[.slice A n ca, .slice B m cb] w fun e w' => e = .returned (.bool (limOk n m lo hi)) ∧ Below w.heap.size w w' := by
  have HPA := Lib.hid pa
  have HPB := Lib.hid pb
  clear pa pb
  by_cases hnm : n = m
  rotate_left
  · have HV := Lib.hid (lim_no (lo := lo) (hi := hi) fun h => hnm h.1)
    have hd : decide ((n : Int) = (m : Int)) = false := decide_eq_false (by omega)
    have hd2 : ¬ (n : Int) = (m : Int) := by omega
    clear hnm
    go_enter Try.func67, Try.ntmps67
    go_wp2
    go_ret
    exact ⟨by rw [HV.out]; rfl, Below.refl _ _⟩
  subst hnm
  have HFF := Lib.hid (fun h => lim_no (n := n) (m := n) (lo := lo) (hi := hi) h)
  have HTT := Lib.hid (fun h => lim_true (n := n) (m := n) (lo := lo) (hi := hi) h)
  clear hm
  generalize limOk n n lo hi = R at *
  go_enter Try.func67, Try.ntmps67
  go_wp2
  go_loopw [14] (fun i w' => ∃ x : Nat, x ≤ n ∧ i = .int .i64 (x : Int) ∧ Hid (∀ j, j < x → (0 ≤ lo j ∧ lo j ≤ hi j) ∧ hi j ≤ 255) ∧ Hid (Below w.heap.size w w')) (fun i _ => n - (intOf i).toNat)
  case atStart => exact ⟨0, Nat.zero_le _, rfl, Lib.hid (fun j hj => absurd hj (by omega)), Lib.hid (Below.refl _ _)⟩
  case round =>
    obtain ⟨x, hx, rfl, HE, HB⟩ := hrel
    by_cases hlt : x < n
    · have hli : (x : Int) < (n : Int) := by omega
      obtain ⟨g1, o1, rfl, hg1, a0⟩ := (HPA.out.kept HB.out) x hlt
      obtain ⟨g2, o2, rfl, hg2, b0⟩ := (HPB.out.kept HB.out) x hlt
      have HL := Lib.hid (show ¬ ((0 ≤ lo x ∧ lo x ≤ hi x) ∧ hi x ≤ 255) → R = false from fun h => HFF.out fun q => h (q.2 x hlt))
      have HM := Lib.hid (show ((0 ≤ lo x ∧ lo x ≤ hi x) ∧ hi x ≤ 255) → ∀ j, j < x + 1 → (0 ≤ lo j ∧ lo j ≤ hi j) ∧ hi j ≤ 255 from fun h j hj => by
        rcases Nat.lt_or_ge j x with h' | h'
        · exact HE.out j h'
        · obtain rfl : j = x := by omega
          exact h)
      clear HE
      generalize lo x = l at *
      generalize hi x = h at *
      by_cases h0 : l < 0
      · have h0d : decide (l < 0) = true := decide_eq_true h0
        have HR := Lib.hid (HL.out fun q => by omega)
        clear HL HM
        go_wp2
        go_ret
        exact ⟨by rw [HR.out]; rfl, HB.out⟩
      · have h0d : decide (l < 0) = false := decide_eq_false h0
        by_cases h1 : h < l
        · have h1d : decide (h < l) = true := decide_eq_true h1
          have HR := Lib.hid (HL.out fun q => by omega)
          clear HL HM
          go_wp2
          go_ret
          exact ⟨by rw [HR.out]; rfl, HB.out⟩
        · have h1d : decide (h < l) = false := decide_eq_false h1
          by_cases h2 : 255 < h
          · have h2d : decide (255 < h) = true := decide_eq_true h2
            have HR := Lib.hid (HL.out fun q => by omega)
            clear HL HM
            go_wp2
            go_ret
            exact ⟨by rw [HR.out]; rfl, HB.out⟩
          · have h2d : decide (255 < h) = false := decide_eq_false h2
            have HM2 := Lib.hid (HM.out (by omega))
            clear HL HM
            go_wp2
            go_roundw
            case rel => exact ⟨x + 1, by omega, by go_num, HM2, HB⟩
            case measure => simp [intOf]; omega
    · have hxe : ¬ (x : Int) < (n : Int) := by omega
      have HR := Lib.hid (HTT.out ⟨trivial, fun i hi' => HE.out i (by omega)⟩)
      clear hlt
      go_wp2
      go_ret
      exact ⟨by rw [HR.out]; rfl, HB.out⟩
theorem okE_lim (en : Nat → Nat) (eg : Nat → Nat → Int) : okE en eg = (decide (1 ≤ en 0) && decide (en 0 ≤ 72) && decide (en 2 = en 0) && limOk (en 0) (en 1) (eg 0) (eg 1) && limOk (en 2) (en 3) (eg 2) (eg 3)) := by
  rw [Bool.eq_iff_iff]
  unfold okE
  simp only [Bool.and_eq_true, decide_eq_true_eq]
  constructor
  · rintro ⟨⟨h1, h2⟩, h3⟩
    obtain ⟨e1, ⟨r1, r2⟩, q1⟩ := bnd_of h1
    obtain ⟨e2, r3, q2⟩ := bnd_of h2
    exact ⟨⟨⟨⟨r1, r2⟩, h3.symm⟩, lim_true ⟨e1, q1⟩⟩, lim_true ⟨e2, q2⟩⟩
  · rintro ⟨⟨⟨⟨r1, r2⟩, h3⟩, h1⟩, h2⟩
    obtain ⟨e1, q1⟩ := lim_of h1
    obtain ⟨e2, q2⟩ := lim_of h2
    exact ⟨⟨bnd_true ⟨e1, ⟨r1, r2⟩, q1⟩, bnd_true ⟨e2, ⟨by omega, by omega⟩, q2⟩⟩, h3.symm⟩
set_option maxRecDepth 100000 in
set_option maxHeartbeats 8000000 in
theorem validEI (ea : Nat → Option Addr) (en ec : Nat → Nat) (eg : Nat → Nat → Int) (w : World) (hn : ∀ k, k < 4 → en k ≤ 1048576) (h : ∀ k, k < 4 → NumAt w (ea k) (en k) (eg k)) :
    Calls Try.prog 26 #[.agg #[.slice (ea 0) (en 0) (ec 0), .slice (ea 1) (en 1) (ec 1), .slice (ea 2) (en 2) (ec 2), .slice (ea 3) (en 3) (ec 3)]] w fun e w' => e = .returned (.bool (okE en eg)) ∧ Below w.heap.size w w' := by
  have HE := Lib.hid (env_box (ec := ec) h)
  have HB := Lib.hid (below_alloc1 w (.cells #[.slice (ea 0) (en 0) (ec 0), .slice (ea 1) (en 1) (ec 1), .slice (ea 2) (en 2) (ec 2), .slice (ea 3) (en 3) (ec 3)] 26))
  have H1 := Lib.hid (fun W hW => limI (ca := ec 0) (cb := ec 1) (ea 0) (ea 1) (en 0) (en 1) (eg 0) (eg 1) W (hn 0 (by omega)) (hn 1 (by omega)) ((HE.out.nums 0 (by omega)).kept hW) ((HE.out.nums 1 (by omega)).kept hW))
  have H2 := Lib.hid (fun W hW => limI (ca := ec 2) (cb := ec 3) (ea 2) (ea 3) (en 2) (en 3) (eg 2) (eg 3) W (hn 2 (by omega)) (hn 3 (by omega)) ((HE.out.nums 2 (by omega)).kept hW) ((HE.out.nums 3 (by omega)).kept hW))
  have HV := Lib.hid (okE_lim en eg)
  have hBl := HE.out.lt
  have c0 := HE.out.cells 0 (by omega)
  have c1 := HE.out.cells 1 (by omega)
  have c2 := HE.out.cells 2 (by omega)
  have c3 := HE.out.cells 3 (by omega)
  have HCE := Lib.hid (fun (W : World) (hW : Below (w.alloc (.cells #[.slice (ea 0) (en 0) (ec 0), .slice (ea 1) (en 1) (ec 1), .slice (ea 2) (en 2) (ec 2), .slice (ea 3) (en 3) (ec 3)] 26)).heap.size (w.alloc (.cells #[.slice (ea 0) (en 0) (ec 0), .slice (ea 1) (en 1) (ec 1), .slice (ea 2) (en 2) (ec 2), .slice (ea 3) (en 3) (ec 3)] 26)) W) => And.intro (HE.out.kept hW).lt (And.intro ((HE.out.kept hW).cells 2 (by omega)) ((HE.out.kept hW).cells 3 (by omega))))
  rw [HV.out]
  clear h hn HV HE
  generalize hL1 : limOk (en 0) (en 1) (eg 0) (eg 1) = r1 at *
  generalize hL2 : limOk (en 2) (en 3) (eg 2) (eg 3) = r2 at *
  clear hL1 hL2
  generalize ea 0 = A0 at *
  generalize ea 1 = A1 at *
  generalize ea 2 = A2 at *
  generalize ea 3 = A3 at *
  generalize ec 0 = k0 at *
  generalize ec 1 = k1 at *
  generalize ec 2 = k2 at *
  generalize ec 3 = k3 at *
  generalize en 0 = n0 at *
  generalize en 1 = n1 at *
  generalize en 2 = n2 at *
  generalize en 3 = n3 at *
  have hu : undef = Value.tuple #[] := rfl
  by_cases q1 : 1 ≤ n0
  rotate_left
  · have q1d : decide ((1 : Int) ≤ (n0 : Int)) = false := decide_eq_false (by omega)
    have HR := Lib.hid (show (decide (1 ≤ n0) && decide (n0 ≤ 72) && decide (n2 = n0) && r1 && r2) = false by rw [decide_eq_false q1]; simp)
    rw [HR.out]
    clear HR q1
    go_enter Try.func26, Try.ntmps26
    go_wp2
    go_ret
    exact ⟨rfl, HB.out⟩
  have q1d : decide ((1 : Int) ≤ (n0 : Int)) = true := decide_eq_true (by omega)
  by_cases q2 : n0 ≤ 72
  rotate_left
  · have q2d : decide ((n0 : Int) ≤ 72) = false := decide_eq_false (by omega)
    have HR := Lib.hid (show (decide (1 ≤ n0) && decide (n0 ≤ 72) && decide (n2 = n0) && r1 && r2) = false by rw [decide_eq_false q2]; simp)
    rw [HR.out]
    clear HR q1 q2
    go_enter Try.func26, Try.ntmps26
    go_wp2
    go_ret
    exact ⟨rfl, HB.out⟩
  have q2d : decide ((n0 : Int) ≤ 72) = true := decide_eq_true (by omega)
  by_cases q3 : n2 = n0
  rotate_left
  · have q3d : decide ((n2 : Int) = (n0 : Int)) = false := decide_eq_false (by omega)
    have q3n : ¬ (n2 : Int) = (n0 : Int) := by omega
    have HR := Lib.hid (show (decide (1 ≤ n0) && decide (n0 ≤ 72) && decide (n2 = n0) && r1 && r2) = false by rw [decide_eq_false q3]; simp)
    rw [HR.out]
    clear HR q1 q2 q3
    go_enter Try.func26, Try.ntmps26
    go_wp2
    go_ret
    exact ⟨rfl, HB.out⟩
  have q3d : decide ((n2 : Int) = (n0 : Int)) = true := decide_eq_true (by omega)
  have q3n : (n2 : Int) = (n0 : Int) := by omega
  have HX := Lib.hid (H1.out _ (Below.refl _ _))
  have HR := Lib.hid (show (decide (1 ≤ n0) && decide (n0 ≤ 72) && decide (n2 = n0) && r1 && r2) = (r1 && r2) by rw [decide_eq_true q1, decide_eq_true q2, decide_eq_true q3]; simp)
  rw [HR.out]
  clear HR q1 q2 q3 H1
  cases r1 with
  | false =>
    go_enter Try.func26, Try.ntmps26
    go_wp2_with fail
    refine HX.out.mono ?_
    rintro e w1 ⟨rfl, hb⟩
    have B1 := Lib.hid (HB.out.trans (hb.mono HB.out.size))
    clear hb
    go_wp2
    go_ret
    exact ⟨rfl, B1.out⟩
  | true =>
    go_enter Try.func26, Try.ntmps26
    go_wp2_with fail
    refine HX.out.mono ?_
    rintro e w1 ⟨rfl, hb⟩
    have B1 := Lib.hid (HB.out.trans (hb.mono HB.out.size))
    have HY := Lib.hid (H2.out _ hb)
    obtain ⟨l1, d2, d3⟩ := HCE.out _ hb
    clear hb
    go_wp2_with fail
    refine HY.out.mono ?_
    rintro e w2 ⟨rfl, hb⟩
    have B2 := Lib.hid (B1.out.trans (hb.mono B1.out.size))
    clear hb
    go_wp2
    go_ret
    exact ⟨by simp, B2.out⟩
end Go.Proofs.Ythpmckfjlbiiiaa.env
