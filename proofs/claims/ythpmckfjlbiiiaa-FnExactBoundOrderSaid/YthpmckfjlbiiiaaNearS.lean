/-
  Proved: what the document's function that tests a list, lists and a band returns; what the document's search for the nearest list returns.
  Conditions: those of each theorem.
-/
import Derived.Test.YthpmckfjlbiiiaaBoundS
namespace Go.Proofs.Ythpmckfjlbiiiaa.env
open Go.ChangeShapes Go.WideShapes Go.ChangeAt Go.RowKit Go.Joins
open Go.Proofs.Ythpmckfjlbiiiaa.core Go.Proofs.Ythpmckfjlbiiiaa.rown Go.Proofs.Ythpmckfjlbiiiaa.stk Go.Proofs.Ythpmckfjlbiiiaa.boxed Go.Proofs.Ythpmckfjlbiiiaa.ft Go.Proofs.Ythpmckfjlbiiiaa.seq Go.Proofs.Ythpmckfjlbiiiaa.tab
set_option linter.unusedVariables false
set_option linter.unusedSimpArgs false
/-- A list of lists of features. -/
def LsAt (w : World) (A : Option Addr) (n : Nat) (ln : Nat → Nat) (lf : Nat → Nat → P3) : Prop :=
  ∀ i, i < n → ∃ (b o : Nat) (Ai : Option Addr) (ci : Nat), A = some ⟨b, o, none⟩ ∧ b < w.heap.size ∧ w.cell? ⟨b, o + i, none⟩ = some (.slice Ai (ln i) ci) ∧ PtsAt w Ai (ln i) (lf i)
theorem LsAt.kept {w w' : World} {A : Option Addr} {n : Nat} {ln : Nat → Nat} {lf : Nat → Nat → P3} (h : LsAt w A n ln lf) (hb : Below w.heap.size w w') : LsAt w' A n ln lf := fun i hi => by
  obtain ⟨b, o, Ai, ci, e, h1, h2, h3⟩ := h i hi
  exact ⟨b, o, Ai, ci, e, Nat.lt_of_lt_of_le h1 hb.size, (hb.cell (p := ⟨b, o + i, none⟩) h1).trans h2, h3.kept hb⟩
/-- All lists are valid, and there are not too many. -/
def LiOk (na : Nat) (fa : Nat → P3) (n : Nat) (ln : Nat → Nat) (lf : Nat → Nat → P3) : Prop := okQ na fa = true ∧ n ≤ 40 ∧ ∀ i, i < n → okQ (ln i) (lf i) = true
noncomputable def liOk (na : Nat) (fa : Nat → P3) (n : Nat) (ln : Nat → Nat) (lf : Nat → Nat → P3) : Bool := @decide (LiOk na fa n ln lf) (Classical.propDecidable _)
theorem li_iff {na : Nat} {fa : Nat → P3} {n : Nat} {ln : Nat → Nat} {lf : Nat → Nat → P3} : liOk na fa n ln lf = true ↔ LiOk na fa n ln lf := by unfold liOk; exact @decide_eq_true_iff _ (Classical.propDecidable _)
noncomputable def liC (na : Nat) (fa : Nat → P3) (n : Nat) (ln : Nat → Nat) (lf : Nat → Nat → P3) (band : Int) : Int := if liOk na fa n ln lf = true then (if 0 ≤ band ∧ band ≤ 72 then 0 else 2) else 1
theorem liC_of {na : Nat} {fa : Nat → P3} {n : Nat} {ln : Nat → Nat} {lf : Nat → Nat → P3} {band : Int} (h : liC na fa n ln lf band = 0) : LiOk na fa n ln lf ∧ 0 ≤ band ∧ band ≤ 72 := by
  unfold liC at h
  split at h
  · rename_i h1
    split at h
    · rename_i h2; exact ⟨li_iff.1 h1, h2⟩
    · cases h
  · cases h
theorem liC_any (na : Nat) (fa : Nat → P3) (n : Nat) (ln : Nat → Nat) (lf : Nat → Nat → P3) (band : Int) : liC na fa n ln lf band = 0 ∨ liC na fa n ln lf band = 1 ∨ liC na fa n ln lf band = 2 := by
  unfold liC; split <;> (try split) <;> simp
set_option maxRecDepth 100000 in
set_option maxHeartbeats 8000000 in
theorem codeLS {ca cb : Nat} (A B : Option Addr) (na n : Nat) (fa : Nat → P3) (ln : Nat → Nat) (lf : Nat → Nat → P3) (band : Int) (w : World) (ha : na ≤ 1048576) (hn : n ≤ 1048576) (hl : ∀ i, i < n → ln i ≤ 1048576) (pa : PtsAt w A na fa) (pb : LsAt w B n ln lf) :
    Calls Try.prog 76 #[.slice A na ca, .slice B n cb, .int .i64 band] w fun e w' => e = .returned (.int .i64 (liC na fa n ln lf band)) ∧ Below w.heap.size w w' := by
  have HQ := Lib.hid (okQS (c := ca) A na fa w ha pa)
  have HPB := Lib.hid pb
  have HLN := Lib.hid hl
  have HC := Lib.hid (show ∀ bd : Bool, (bd = false ↔ okQ na fa = true ∧ n ≤ 40 ∧ ∀ j, j < n → okQ (ln j) (lf j) = true) → liC na fa n ln lf band = if bd = true then 1 else if 0 ≤ band ∧ band ≤ 72 then 0 else 2 from fun bd hbd => by
    unfold liC
    cases bd with
    | false => rw [if_pos (li_iff.2 (hbd.1 rfl))]; simp
    | true =>
      have : ¬ liOk na fa n ln lf = true := fun h => by have := hbd.2 (li_iff.1 h); cases this
      rw [if_neg this]; simp)
  clear pa pb hl
  generalize liC na fa n ln lf band = R at *
  obtain ⟨va, hva⟩ : ∃ v, okQ na fa = v := ⟨_, rfl⟩
  rw [hva] at HQ
  have HVA := Lib.hid hva
  clear hva
  obtain ⟨b0, hb0⟩ : ∃ b : Bool, b = (!va || decide (40 < n)) := ⟨_, rfl⟩
  have HB0 := Lib.hid (show b0 = false ↔ okQ na fa = true ∧ n ≤ 40 ∧ ∀ j, j < 0 → okQ (ln j) (lf j) = true by
    rw [hb0, HVA.out]
    cases va <;> simp)
  have HBV := Lib.hid hb0
  clear hb0
  go_enter Try.func76, Try.ntmps76
  go_wp2_with fail
  refine HQ.out.mono ?_
  rintro e w1 ⟨rfl, hb1⟩
  have B1 := Lib.hid hb1
  have PB1 := Lib.hid (HPB.out.kept hb1)
  clear hb1 HQ HPB
  cases va with
  | false =>
    have hb0 : b0 = true := by rw [HBV.out]; rfl
    subst hb0
    go_wp2
    go_loopw [7, 8] (fun bd i w' => ∃ x : Nat, x ≤ n ∧ i = .int .i64 (x : Int) ∧ bd = .bool true ∧ Hid (Below w1.heap.size w1 w')) (fun _ i _ => n - (intOf i).toNat)
    case atStart => exact ⟨0, Nat.zero_le _, rfl, rfl, Lib.hid (Below.refl _ _)⟩
    case round =>
      obtain ⟨x, hx, rfl, rfl, HB⟩ := hrel
      by_cases hlt : x < n
      · have hli : (x : Int) < (n : Int) := by omega
        go_wp2
        go_roundw
        case rel => exact ⟨x + 1, by omega, by go_num, rfl, HB⟩
        case measure => simp [intOf]; omega
      · have hxn : ¬ (x : Int) < (n : Int) := by omega
        have HR := Lib.hid (show R = 1 by rw [HC.out true ⟨fun h => (by cases h), fun h => (by have := HVA.out; rw [h.1] at this; cases this)⟩]; rfl)
        go_wp2
        go_ret
        exact ⟨by rw [HR.out]; rfl, B1.out.trans (HB.out.mono B1.out.size)⟩
  | true =>
    have hb0 : b0 = decide ((40 : Int) < (n : Int)) := by rw [HBV.out]; simp; omega
    have HB00 := Lib.hid hb0
    clear hb0
    go_wp2
    go_loopw [7, 8] (fun bd i w' => ∃ (x : Nat) (b : Bool), x ≤ n ∧ i = .int .i64 (x : Int) ∧ bd = .bool b ∧ Hid (b = false ↔ okQ na fa = true ∧ n ≤ 40 ∧ ∀ j, j < x → okQ (ln j) (lf j) = true) ∧ Hid (Below w1.heap.size w1 w')) (fun _ i _ => n - (intOf i).toNat)
    case atStart => exact ⟨0, b0, Nat.zero_le _, rfl, by rw [HB00.out], HB0, Lib.hid (Below.refl _ _)⟩
    case round =>
      obtain ⟨x, b, hx, rfl, rfl, HI, HB⟩ := hrel
      by_cases hlt : x < n
      · have hli : (x : Int) < (n : Int) := by omega
        have hx1 : x + 1 ≤ n := by omega
        have hms : n - (x + 1) < n - x := by omega
        cases b with
        | true =>
          have HI2 := Lib.hid (show (true = false ↔ okQ na fa = true ∧ n ≤ 40 ∧ ∀ j, j < x + 1 → okQ (ln j) (lf j) = true) from ⟨fun h => (by cases h), fun h => HI.out.2 ⟨h.1, h.2.1, fun j hj => h.2.2 j (by omega)⟩⟩)
          go_wp2
          go_roundw
          case rel => exact ⟨x + 1, true, hx1, by go_num, rfl, HI2, HB⟩
          case measure => simp [intOf]; omega
        | false =>
          obtain ⟨g, o, Ai, ci, rfl, hg, c0, hp⟩ := (PB1.out.kept HB.out) x hlt
          have HQ2 := Lib.hid (okQS (c := ci) Ai (ln x) (lf x) wr (HLN.out x hlt) hp)
          obtain ⟨r, hr⟩ : ∃ r, okQ (ln x) (lf x) = r := ⟨_, rfl⟩
          rw [hr] at HQ2
          have HI2 := Lib.hid (show ((!r) = false ↔ okQ na fa = true ∧ n ≤ 40 ∧ ∀ j, j < x + 1 → okQ (ln j) (lf j) = true) by
            obtain ⟨i1, i2, i3⟩ := HI.out.1 rfl
            constructor
            · intro h
              refine ⟨i1, i2, fun j hj => ?_⟩
              rcases Nat.lt_or_ge j x with h' | h'
              · exact i3 j h'
              · obtain rfl : j = x := by omega
                rw [hr]; simpa using h
            · intro h
              have := h.2.2 x (by omega)
              rw [hr] at this
              rw [this]; rfl)
          clear hr hp HI
          generalize ln x = q at *
          go_wp2_with fail
          refine HQ2.out.mono ?_
          rintro e w2 ⟨rfl, hb2⟩
          have HB2 := Lib.hid (HB.out.trans (hb2.mono HB.out.size))
          clear hb2 HQ2 c0 hg HB
          go_wp2
          go_roundw
          case rel => exact ⟨x + 1, !r, hx1, by go_num, rfl, HI2, HB2⟩
          case measure => simp [intOf]; omega
      · have hxn : ¬ (x : Int) < (n : Int) := by omega
        have hxe := Lib.hid (show x = n by omega)
        have HR := Lib.hid (HC.out b ⟨fun h => ⟨(HI.out.1 h).1, (HI.out.1 h).2.1, fun j hj => (HI.out.1 h).2.2 j (by have := hxe.out; omega)⟩, fun h => HI.out.2 ⟨h.1, h.2.1, fun j hj => h.2.2 j (by have := hxe.out; omega)⟩⟩)
        have BB := Lib.hid (B1.out.trans (HB.out.mono B1.out.size))
        clear hlt
        cases b with
        | true =>
          go_wp2
          go_ret
          exact ⟨by rw [HR.out]; rfl, BB.out⟩
        | false =>
          by_cases hb : 0 ≤ band ∧ band ≤ 72
          · have HIN := Lib.hid (fun W => in_t band 0 72 hb W)
            have HR2 := Lib.hid (show R = 0 by rw [HR.out, if_neg (by simp), if_pos hb])
            clear hb HR
            go_wp2_with fail
            with_reducible refine (HIN.out _).mono ?_
            rintro e _ ⟨rfl, rfl⟩
            go_wp2
            go_ret
            exact ⟨by rw [HR2.out]; rfl, BB.out⟩
          · have HIN := Lib.hid (fun W => in_f band 0 72 hb W)
            have HR2 := Lib.hid (show R = 2 by rw [HR.out, if_neg (by simp), if_neg hb])
            clear hb HR
            go_wp2_with fail
            with_reducible refine (HIN.out _).mono ?_
            rintro e _ ⟨rfl, rfl⟩
            go_wp2
            go_ret
            exact ⟨by rw [HR2.out]; rfl, BB.out⟩
end Go.Proofs.Ythpmckfjlbiiiaa.env

namespace Go.Proofs.Ythpmckfjlbiiiaa.env

open Go.ChangeShapes Go.WideShapes Go.ChangeAt Go.RowKit Go.Joins

open Go.Proofs.Ythpmckfjlbiiiaa.core Go.Proofs.Ythpmckfjlbiiiaa.rown Go.Proofs.Ythpmckfjlbiiiaa.stk Go.Proofs.Ythpmckfjlbiiiaa.boxed Go.Proofs.Ythpmckfjlbiiiaa.ft Go.Proofs.Ythpmckfjlbiiiaa.seq Go.Proofs.Ythpmckfjlbiiiaa.tab
set_option linter.unusedVariables false
set_option linter.unusedSimpArgs false
def costL (na : Nat) (fa : Nat → P3) (ln : Nat → Nat) (lf : Nat → Nat → P3) (band : Int) (i : Nat) : Int := leastE na (ln i) fa (lf i) band
def takes (na : Nat) (ln : Nat → Nat) (band : Int) (i : Nat) : Bool := bandOk (na : Int) (ln i : Int) band
/-- The search so far: which list is the nearest one, and its cost. -/
def nst (na : Nat) (fa : Nat → P3) (ln : Nat → Nat) (lf : Nat → Nat → P3) (band : Int) : Nat → Int × Int
  | 0 => (-1, 0)
  | i + 1 => if takes na ln band i = true then (if (nst na fa ln lf band i).1 < 0 ∨ costL na fa ln lf band i < (nst na fa ln lf band i).2 then ((i : Int), costL na fa ln lf band i) else nst na fa ln lf band i) else nst na fa ln lf band i
noncomputable def nearR (na : Nat) (fa : Nat → P3) (n : Nat) (ln : Nat → Nat) (lf : Nat → Nat → P3) (band : Int) : Int × Int × Int :=
  if liC na fa n ln lf band = 0 then (if (nst na fa ln lf band n).1 < 0 then (0, 0, 3) else ((nst na fa ln lf band n).1, (nst na fa ln lf band n).2, 0)) else (0, 0, liC na fa n ln lf band)
set_option maxRecDepth 100000 in
set_option maxHeartbeats 8000000 in
theorem nearestS {ca cb : Nat} (A B : Option Addr) (na n : Nat) (fa : Nat → P3) (ln : Nat → Nat) (lf : Nat → Nat → P3) (band : Int) (w : World) (ha : na ≤ 1048576) (hn : n ≤ 1048576) (hl : ∀ i, i < n → ln i ≤ 1048576) (pa : PtsAt w A na fa) (pb : LsAt w B n ln lf) :
    Calls Try.prog 34 #[.slice A na ca, .slice B n cb, .int .i64 band] w fun e w' => e = .returned (.tuple #[.int .i64 (nearR na fa n ln lf band).1, .int .i64 (nearR na fa n ln lf band).2.1, .int .i64 (nearR na fa n ln lf band).2.2]) ∧ Below w.heap.size w w' := by
  have HC := Lib.hid (codeLS (ca := ca) (cb := cb) A B na n fa ln lf band w ha hn hl pa pb)
  have HPA := Lib.hid pa
  have HPB := Lib.hid pb
  clear pa pb hl
  by_cases h0 : liC na fa n ln lf band = 0
  rotate_left
  · have HR := Lib.hid (show nearR na fa n ln lf band = (0, 0, liC na fa n ln lf band) by unfold nearR; rw [if_neg h0])
    have h12 : liC na fa n ln lf band = 1 ∨ liC na fa n ln lf band = 2 := by have := liC_any na fa n ln lf band; omega
    rw [HR.out]
    clear h0 HR HPA HPB
    rcases h12 with h | h
    all_goals
      rw [h] at HC ⊢
      clear h
      go_enter Try.func34, Try.ntmps34
      go_wp2_with fail
      refine HC.out.mono ?_
      rintro e w1 ⟨rfl, hb1⟩
      have B1 := Lib.hid hb1
      clear hb1
      go_wp2
      go_ret3
      exact ⟨rfl, B1.out⟩
  obtain ⟨⟨va, hn40, vl⟩, hbd⟩ := liC_of h0
  have a2 := (okQ_of va).2.1
  have HL := Lib.hid (fun W Ai ci i (hi : i < n) hA hB => leastS (ca := ca) (cb := ci) A Ai na (ln i) fa (lf i) band W hA hB va (vl i hi))
  have HLN := Lib.hid (fun i (hi : i < n) => (okQ_of (vl i hi)).2.1)
  have HR := Lib.hid (show nearR na fa n ln lf band = if (nst na fa ln lf band n).1 < 0 then (0, 0, 3) else ((nst na fa ln lf band n).1, (nst na fa ln lf band n).2, 0) by unfold nearR; rw [if_pos h0])
  have HT := Lib.hid (show ∀ i, bandOk (na : Int) (ln i : Int) band = takes na ln band i from fun _ => rfl)
  have HCC := Lib.hid (show ∀ i, leastE na (ln i) fa (lf i) band = costL na fa ln lf band i from fun _ => rfl)
  rw [h0] at HC
  obtain ⟨G, hG⟩ : ∃ G, nst na fa ln lf band = G := ⟨_, rfl⟩
  have HG := Lib.hid (show G 0 = (-1, 0) ∧ ∀ i, G (i + 1) = if takes na ln band i = true then (if (G i).1 < 0 ∨ costL na fa ln lf band i < (G i).2 then ((i : Int), costL na fa ln lf band i) else G i) else G i by rw [← hG]; exact ⟨rfl, fun _ => rfl⟩)
  rw [hG] at HR
  generalize nearR na fa n ln lf band = R at *
  clear hG h0 va vl hbd ha
  go_enter Try.func34, Try.ntmps34
  go_wp2_with fail
  refine HC.out.mono ?_
  rintro e w1 ⟨rfl, hb1⟩
  have B1 := Lib.hid hb1
  have PA1 := Lib.hid (HPA.out.kept hb1)
  have PB1 := Lib.hid (HPB.out.kept hb1)
  clear hb1 HC HPA HPB
  go_wp2
  go_loopw [10, 11, 12] (fun at_ best i w' => ∃ x : Nat, x ≤ n ∧ i = .int .i64 (x : Int) ∧ at_ = .int .i64 (G x).1 ∧ best = .int .i64 (G x).2 ∧ Hid (Below w1.heap.size w1 w')) (fun _ _ i _ => n - (intOf i).toNat)
  case atStart => exact ⟨0, Nat.zero_le _, rfl, by rw [HG.out.1], by rw [HG.out.1], Lib.hid (Below.refl _ _)⟩
  case round =>
    obtain ⟨x, hx, rfl, rfl, rfl, HB⟩ := hrel
    obtain ⟨⟨p1, p2⟩, hp12⟩ : ∃ p, G x = p := ⟨_, rfl⟩
    by_cases hlt : x < n
    · have hli : (x : Int) < (n : Int) := by omega
      have hx1 : x + 1 ≤ n := by omega
      have hms : n - (x + 1) < n - x := by omega
      have hgx := HG.out.2 x
      rw [hp12] at hgx
      simp only at hgx
      obtain ⟨g, o, Ai, ci, rfl, hg, c0, hp⟩ := (PB1.out.kept HB.out) x hlt
      have HI := Lib.hid (fun W => inS (ca := ca) (cb := ci) A Ai na (ln x) band W (by omega) (by have := HLN.out x hlt; omega))
      have H1 := Lib.hid (HL.out wr Ai ci x hlt (PA1.out.kept HB.out) hp)
      rw [HT.out x] at HI
      rw [HCC.out x] at H1
      have HGX := Lib.hid hgx
      have HP12 := Lib.hid hp12
      rw [hp12]
      clear hp hgx hp12 hlt
      generalize costL na fa ln lf band x = v at *
      generalize takes na ln band x = t at *
      generalize ln x = q at *
      simp only
      cases t with
      | false =>
        have HN := Lib.hid (show G (x + 1) = (p1, p2) by rw [HGX.out]; rfl)
        clear HGX H1
        go_wp2_with fail
        with_reducible refine (HI.out _).mono ?_
        rintro e _ ⟨rfl, rfl⟩
        go_wp2
        go_roundw
        case rel => exact ⟨x + 1, hx1, by go_num, by rw [HN.out], by rw [HN.out], HB⟩
        case measure => simp [intOf]; omega
      | true =>
        have HN := Lib.hid (show G (x + 1) = if p1 < 0 ∨ v < p2 then ((x : Int), v) else (p1, p2) by rw [HGX.out]; rfl)
        clear HGX
        go_wp2_with fail
        with_reducible refine (HI.out _).mono ?_
        rintro e _ ⟨rfl, rfl⟩
        go_wp2_with fail
        refine H1.out.mono ?_
        rintro e w2 ⟨rfl, hb2⟩
        have HB2 := Lib.hid (HB.out.trans (hb2.mono HB.out.size))
        clear hb2 H1 c0 hg HB HI
        by_cases h1 : p1 < 0
        · have HN2 := Lib.hid (HN.out.trans (if_pos (.inl h1)))
          go_wp2
          go_roundw
          case rel => exact ⟨x + 1, hx1, by go_num, by rw [HN2.out], by rw [HN2.out], HB2⟩
          case measure => simp [intOf]; omega
        · by_cases h2 : v < p2
          · have HN2 := Lib.hid (HN.out.trans (if_pos (.inr h2)))
            go_wp2
            go_roundw
            case rel => exact ⟨x + 1, hx1, by go_num, by rw [HN2.out], by rw [HN2.out], HB2⟩
            case measure => simp [intOf]; omega
          · have HN2 := Lib.hid (HN.out.trans (if_neg (fun h => h.elim h1 h2)))
            go_wp2
            go_roundw
            case rel => exact ⟨x + 1, hx1, by go_num, by rw [HN2.out], by rw [HN2.out], HB2⟩
            case measure => simp [intOf]; omega
    · have hxn : ¬ (x : Int) < (n : Int) := by omega
      have hxe : x = n := by omega
      have HR2 := HR.out
      rw [← hxe, hp12] at HR2
      simp only at HR2
      have BB := Lib.hid (B1.out.trans (HB.out.mono B1.out.size))
      rw [hp12]
      have HR3 := Lib.hid HR2
      clear hxe hlt hp12 HR2
      by_cases h1 : p1 < 0
      · have HR4 := Lib.hid (HR3.out.trans (if_pos h1))
        go_wp2
        go_ret3
        exact ⟨by rw [HR4.out]; rfl, BB.out⟩
      · have HR4 := Lib.hid (HR3.out.trans (if_neg h1))
        go_wp2
        go_ret3
        exact ⟨by rw [HR4.out]; rfl, BB.out⟩
end Go.Proofs.Ythpmckfjlbiiiaa.env
