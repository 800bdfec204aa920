/-
  Proved: what the document's functions that test an envelope return.
  Conditions: none.
-/
import Derived.Test.YthpmckfjlbiiiaaBandS
namespace Go.Proofs.Ythpmckfjlbiiiaa.env
open Go.ChangeShapes Go.WideShapes Go.ChangeAt Go.RowKit Go.Joins
open Go.Proofs.Ythpmckfjlbiiiaa.core Go.Proofs.Ythpmckfjlbiiiaa.rown Go.Proofs.Ythpmckfjlbiiiaa.stk Go.Proofs.Ythpmckfjlbiiiaa.boxed Go.Proofs.Ythpmckfjlbiiiaa.ft Go.Proofs.Ythpmckfjlbiiiaa.seq
set_option linter.unusedVariables false
set_option linter.unusedSimpArgs false
/-- A list of numbers. -/
def NumAt (w : World) (A : Option Addr) (n : Nat) (g : Nat → Int) : Prop :=
  ∀ i, i < n → ∃ b o : Nat, A = some ⟨b, o, none⟩ ∧ b < w.heap.size ∧ w.cell? ⟨b, o + i, none⟩ = some (.int .i64 (g i))
theorem NumAt.kept {w w' : World} {A : Option Addr} {n : Nat} {g : Nat → Int} (h : NumAt w A n g) (hb : Below w.heap.size w w') : NumAt w' A n g := fun i hi => by
  obtain ⟨b, o, e, h1, h2⟩ := h i hi
  exact ⟨b, o, e, Nat.lt_of_lt_of_le h1 hb.size, (hb.cell (p := ⟨b, o + i, none⟩) h1).trans h2⟩
/-- Low and high numbers are bounds. -/
noncomputable def bndOk (n m : Nat) (lo hi : Nat → Int) : Bool := @decide (n = m ∧ (1 ≤ n ∧ n ≤ 72) ∧ ∀ i, i < n → (0 ≤ lo i ∧ lo i ≤ hi i) ∧ hi i ≤ 255) (Classical.propDecidable _)
theorem bnd_true {n m : Nat} {lo hi : Nat → Int} (h : n = m ∧ (1 ≤ n ∧ n ≤ 72) ∧ ∀ i, i < n → (0 ≤ lo i ∧ lo i ≤ hi i) ∧ hi i ≤ 255) : bndOk n m lo hi = true := by
  unfold bndOk; exact @decide_eq_true _ (Classical.propDecidable _) h
theorem bnd_of {n m : Nat} {lo hi : Nat → Int} (h : bndOk n m lo hi = true) : n = m ∧ (1 ≤ n ∧ n ≤ 72) ∧ ∀ i, i < n → (0 ≤ lo i ∧ lo i ≤ hi i) ∧ hi i ≤ 255 := by
  unfold bndOk at h; exact @of_decide_eq_true _ (Classical.propDecidable _) h
theorem bnd_no {n m : Nat} {lo hi : Nat → Int} (h : ¬ (n = m ∧ (1 ≤ n ∧ n ≤ 72) ∧ ∀ i, i < n → (0 ≤ lo i ∧ lo i ≤ hi i) ∧ hi i ≤ 255)) : bndOk n m lo hi = false := by
  unfold bndOk; exact @decide_eq_false _ (Classical.propDecidable _) h
set_option maxRecDepth 100000 in
set_option maxHeartbeats 8000000 in
theorem boundsS {ca cb : Nat} (A B : Option Addr) (n m : Nat) (lo hi : Nat → Int) (w : World) (hn : n ≤ 1048576) (hm : m ≤ 1048576) (pa : NumAt w A n lo) (pb : NumAt w B m hi) :
    Calls Try.prog 98 #[.slice A n ca, .slice B m cb] w fun e w' => e = .returned (.bool (bndOk n m lo hi)) ∧ Below w.heap.size w w' := by
  have HPA := Lib.hid pa
  have HPB := Lib.hid pb
  clear pa pb
  by_cases hnm : n = m
  rotate_left
  · have HV := Lib.hid (bnd_no (lo := lo) (hi := hi) fun h => hnm h.1)
    have hd : decide ((n : Int) = (m : Int)) = false := decide_eq_false (by omega)
    have hd2 : ¬ (n : Int) = (m : Int) := by omega
    clear hnm
    go_enter Try.func98, Try.ntmps98
    go_wp2
    go_ret
    exact ⟨by rw [HV.out]; rfl, Below.refl _ _⟩
  subst hnm
  by_cases hs : 1 ≤ n ∧ n ≤ 72
  rotate_left
  · have HV := Lib.hid (bnd_no (n := n) (m := n) (lo := lo) (hi := hi) fun h => hs h.2.1)
    have HI := Lib.hid (fun W => in_f (n : Int) 1 72 (by omega) W)
    clear hs
    go_enter Try.func98, Try.ntmps98
    go_wp2_with fail
    with_reducible refine (HI.out _).mono ?_
    rintro e _ ⟨rfl, rfl⟩
    go_wp2
    go_ret
    exact ⟨by rw [HV.out]; rfl, Below.refl _ _⟩
  have HI := Lib.hid (fun W => in_t (n : Int) 1 72 (by omega) W)
  have HFF := Lib.hid (fun h => bnd_no (n := n) (m := n) (lo := lo) (hi := hi) h)
  have HTT := Lib.hid (fun h => bnd_true (n := n) (m := n) (lo := lo) (hi := hi) h)
  have HS := Lib.hid hs
  have hn72 : n ≤ 72 := hs.2
  have hmx : Try.prog.follows .mixedOrders = true := by kernel_rfl
  clear hs hm
  generalize bndOk n n lo hi = R at *
  go_enter Try.func98, Try.ntmps98
  go_wp2_with fail
  with_reducible refine (HI.out _).mono ?_
  rintro e _ ⟨rfl, rfl⟩
  clear HI
  go_wp2
  go_loopw [5] (fun i w' => ∃ x : Nat, x ≤ n ∧ i = .int .i64 (x : Int) ∧ Hid (∀ j, j < x → (0 ≤ lo j ∧ lo j ≤ hi j) ∧ hi j ≤ 255) ∧ Hid (Below w.heap.size w w')) (fun i _ => n - (intOf i).toNat)
  case atStart => exact ⟨0, Nat.zero_le _, rfl, Lib.hid (fun j hj => absurd hj (by omega)), Lib.hid (Below.refl _ _)⟩
  case round =>
    obtain ⟨x, hx, rfl, HE, HB⟩ := hrel
    by_cases hlt : x < n
    · have hli : (x : Int) < (n : Int) := by omega
      obtain ⟨g1, o1, rfl, hg1, a0⟩ := (HPA.out.kept HB.out) x hlt
      obtain ⟨g2, o2, rfl, hg2, b0⟩ := (HPB.out.kept HB.out) x hlt
      have HL := Lib.hid (show ¬ ((0 ≤ lo x ∧ lo x ≤ hi x) ∧ hi x ≤ 255) → R = false from fun h => HFF.out fun q => h (q.2.2 x hlt))
      have HM := Lib.hid (show ((0 ≤ lo x ∧ lo x ≤ hi x) ∧ hi x ≤ 255) → ∀ j, j < x + 1 → (0 ≤ lo j ∧ lo j ≤ hi j) ∧ hi j ≤ 255 from fun h j hj => by
        rcases Nat.lt_or_ge j x with h' | h'
        · exact HE.out j h'
        · obtain rfl : j = x := by omega
          exact h)
      have A0 := cell_kept (a := ⟨g1, o1 + x, none⟩) hg1 a0
      have B0 := cell_kept (a := ⟨g2, o2 + x, none⟩) hg2 b0
      clear a0 b0 hg1 hg2 HE
      generalize lo x = l at *
      generalize hi x = h at *
      by_cases hin : 0 ≤ l ∧ l ≤ h
      · have HC := Lib.hid (fun W => in_t l 0 h hin W)
        by_cases h255 : h ≤ 255
        · have hd : decide (255 < h) = false := decide_eq_false (by omega)
          have HM2 := Lib.hid (HM.out ⟨hin, h255⟩)
          clear hin h255 HL HM
          go_wp2
          refine wp_region_quiet_kept (by assumption) (by kernel_rfl) ?_
          repeat (first | go_big_quiet_step (((go_at_call 56; with_reducible exact Calls.kept_of (still_b (HC.out _))))) | quiet_step (((go_at_call 56; with_reducible exact Calls.kept_of (still_b (HC.out _))))))
          refine wpQuiet_nil ?_
          intro w4 hw'
          have hB : Below wr.heap.size wr w4 := by obtain ⟨⟨wk, hb0⟩, hw''⟩ := hw'; rw [hw'']; exact hb0
          have HB4 := Lib.hid (HB.out.trans (hB.mono HB.out.size))
          clear hw' hB A0 B0
          go_wp2
          go_roundw
          case rel => exact ⟨x + 1, by omega, by go_num, HM2, HB4⟩
          case measure => simp [intOf]; omega
        · have hd : decide (255 < h) = true := decide_eq_true (by omega)
          have HR := Lib.hid (HL.out fun q => h255 q.2)
          clear hin h255 HL HM
          go_wp2
          refine wp_region_quiet_kept (by assumption) (by kernel_rfl) ?_
          repeat (first | go_big_quiet_step (((go_at_call 56; with_reducible exact Calls.kept_of (still_b (HC.out _))))) | quiet_step (((go_at_call 56; with_reducible exact Calls.kept_of (still_b (HC.out _))))))
          refine wpQuiet_nil ?_
          intro w4 hw'
          have hB : Below wr.heap.size wr w4 := by obtain ⟨⟨wk, hb0⟩, hw''⟩ := hw'; rw [hw'']; exact hb0
          have HB4 := Lib.hid (HB.out.trans (hB.mono HB.out.size))
          clear hw' hB A0 B0
          go_wp2
          go_ret
          exact ⟨by rw [HR.out]; rfl, HB4.out⟩
      · have HC := Lib.hid (fun W => in_f l 0 h hin W)
        have HR := Lib.hid (HL.out fun q => hin q.1)
        clear hin HL HM
        go_wp2
        refine wp_region_quiet_kept (by assumption) (by kernel_rfl) ?_
        repeat (first | go_big_quiet_step (((go_at_call 56; with_reducible exact Calls.kept_of (still_b (HC.out _))))) | quiet_step (((go_at_call 56; with_reducible exact Calls.kept_of (still_b (HC.out _))))))
        refine wpQuiet_nil ?_
        intro w4 hw'
        have hB : Below wr.heap.size wr w4 := by obtain ⟨⟨wk, hb0⟩, hw''⟩ := hw'; rw [hw'']; exact hb0
        have HB4 := Lib.hid (HB.out.trans (hB.mono HB.out.size))
        clear hw' hB A0 B0
        go_wp2
        go_ret
        exact ⟨by rw [HR.out]; rfl, HB4.out⟩
    · have hxe : ¬ (x : Int) < (n : Int) := by omega
      have HR := Lib.hid (HTT.out ⟨trivial, HS.out, fun i hi' => HE.out i (by omega)⟩)
      clear hlt
      go_wp2
      go_ret
      exact ⟨by rw [HR.out]; rfl, HB.out⟩
end Go.Proofs.Ythpmckfjlbiiiaa.env
