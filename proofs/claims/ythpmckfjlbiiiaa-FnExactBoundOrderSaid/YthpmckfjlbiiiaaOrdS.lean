/-
  Proved: what the document's search that leaves lists out returns; what the document's function that orders lists by their bounds returns.
  Conditions: those of each theorem.
-/
import Derived.Test.YthpmckfjlbiiiaaNearS
import Derived.Test.YthpmckfjlbiiiaaOwnS
namespace Go.Proofs.Ythpmckfjlbiiiaa.env
open Go.ChangeShapes Go.WideShapes Go.ChangeAt Go.RowKit Go.Joins
open Go.Proofs.Ythpmckfjlbiiiaa.core Go.Proofs.Ythpmckfjlbiiiaa.rown Go.Proofs.Ythpmckfjlbiiiaa.stk Go.Proofs.Ythpmckfjlbiiiaa.boxed Go.Proofs.Ythpmckfjlbiiiaa.ft Go.Proofs.Ythpmckfjlbiiiaa.seq Go.Proofs.Ythpmckfjlbiiiaa.tab
set_option linter.unusedVariables false
set_option linter.unusedSimpArgs false
def bndL (na : Nat) (fa : Nat → P3) (ln : Nat → Nat) (lf : Nat → Nat → P3) (band : Int) (i : Nat) : Int := boundE na (ln i) fa (lf i) band
/-- One list more: t says whether it takes part, b is its bound, v its cost. -/
def pstep (t : Bool) (b v : Int) (i : Nat) (s : Int × Int × Nat) : Int × Int × Nat :=
  if t = true ∧ ¬ (0 ≤ s.1 ∧ s.2.1 ≤ b) then (if s.1 < 0 ∨ v < s.2.1 then ((i : Int), v, s.2.2 + 1) else (s.1, s.2.1, s.2.2 + 1)) else s
/-- The search so far: which list is the nearest one, its cost, and how many have been matched. -/
def pst (na : Nat) (fa : Nat → P3) (ln : Nat → Nat) (lf : Nat → Nat → P3) (band : Int) : Nat → Int × Int × Nat
  | 0 => (-1, 0, 0)
  | i + 1 => pstep (takes na ln band i) (bndL na fa ln lf band i) (costL na fa ln lf band i) i (pst na fa ln lf band i)
theorem pst_le (na : Nat) (fa : Nat → P3) (ln : Nat → Nat) (lf : Nat → Nat → P3) (band : Int) : ∀ i, (pst na fa ln lf band i).2.2 ≤ i
  | 0 => Nat.le_refl _
  | i + 1 => by
    have := pst_le na fa ln lf band i
    unfold pst pstep
    split
    · split <;> (simp only; omega)
    · omega
noncomputable def prunR (na : Nat) (fa : Nat → P3) (n : Nat) (ln : Nat → Nat) (lf : Nat → Nat → P3) (band : Int) : Int × Int × Int × Int :=
  if liC na fa n ln lf band = 0 then (if (pst na fa ln lf band n).1 < 0 then (0, 0, 0, 3) else ((pst na fa ln lf band n).1, (pst na fa ln lf band n).2.1, ((pst na fa ln lf band n).2.2 : Int), 0)) else (0, 0, 0, liC na fa n ln lf band)
set_option maxRecDepth 100000 in
set_option maxHeartbeats 8000000 in
theorem prunedS {ca cb : Nat} (A B : Option Addr) (na n : Nat) (fa : Nat → P3) (ln : Nat → Nat) (lf : Nat → Nat → P3) (band : Int) (w : World) (ha : na ≤ 1048576) (hn : n ≤ 1048576) (hl : ∀ i, i < n → ln i ≤ 1048576) (pa : PtsAt w A na fa) (pb : LsAt w B n ln lf) :
    Calls Try.prog 38 #[.slice A na ca, .slice B n cb, .int .i64 band] w fun e w' => e = .returned (.tuple #[.int .i64 (prunR na fa n ln lf band).1, .int .i64 (prunR na fa n ln lf band).2.1, .int .i64 (prunR na fa n ln lf band).2.2.1, .int .i64 (prunR na fa n ln lf band).2.2.2]) ∧ Below w.heap.size w w' := by
  have HC := Lib.hid (codeLS (ca := ca) (cb := cb) A B na n fa ln lf band w ha hn hl pa pb)
  have HPA := Lib.hid pa
  have HPB := Lib.hid pb
  clear pa pb hl
  by_cases h0 : liC na fa n ln lf band = 0
  rotate_left
  · have HR := Lib.hid (show prunR na fa n ln lf band = (0, 0, 0, liC na fa n ln lf band) by unfold prunR; rw [if_neg h0])
    have h12 : liC na fa n ln lf band = 1 ∨ liC na fa n ln lf band = 2 := by have := liC_any na fa n ln lf band; omega
    rw [HR.out]
    clear h0 HR HPA HPB
    rcases h12 with h | h
    · rw [h] at HC ⊢
      clear h
      go_enter Try.func38, Try.ntmps38
      go_wp2_with fail
      refine HC.out.mono ?_
      rintro e w1 ⟨rfl, hb1⟩
      have B1 := Lib.hid hb1
      clear hb1
      go_wp2
      exact bodyPost_ret (v := .tuple #[.int .i64 0, .int .i64 0, .int .i64 0, .int .i64 1]) (by simp [results, Try.results38, go_sem]) rfl ⟨rfl, B1.out⟩
    · rw [h] at HC ⊢
      clear h
      go_enter Try.func38, Try.ntmps38
      go_wp2_with fail
      refine HC.out.mono ?_
      rintro e w1 ⟨rfl, hb1⟩
      have B1 := Lib.hid hb1
      clear hb1
      go_wp2
      exact bodyPost_ret (v := .tuple #[.int .i64 0, .int .i64 0, .int .i64 0, .int .i64 2]) (by simp [results, Try.results38, go_sem]) rfl ⟨rfl, B1.out⟩
  obtain ⟨⟨va, hn40, vl⟩, hbd⟩ := liC_of h0
  have a2 := (okQ_of va).2.1
  have HL := Lib.hid (fun W Ai ci i (hi : i < n) hA hB => leastS (ca := ca) (cb := ci) A Ai na (ln i) fa (lf i) band W hA hB va (vl i hi))
  have HBO := Lib.hid (fun W Ai ci i (hi : i < n) hA hB (ht : takes na ln band i = true) => boundS (ca := ca) (cb := ci) A Ai na (ln i) fa (lf i) band W hA hB va (vl i hi) hbd (of_decide_eq_true ht).2)
  have HLN := Lib.hid (fun i (hi : i < n) => (okQ_of (vl i hi)).2.1)
  have HR := Lib.hid (show prunR na fa n ln lf band = if (pst na fa ln lf band n).1 < 0 then (0, 0, 0, 3) else ((pst na fa ln lf band n).1, (pst na fa ln lf band n).2.1, ((pst na fa ln lf band n).2.2 : Int), 0) by unfold prunR; rw [if_pos h0])
  have HT := Lib.hid (show ∀ i, bandOk (na : Int) (ln i : Int) band = takes na ln band i from fun _ => rfl)
  have HCC := Lib.hid (show ∀ i, leastE na (ln i) fa (lf i) band = costL na fa ln lf band i from fun _ => rfl)
  have HBB := Lib.hid (show ∀ i, boundE na (ln i) fa (lf i) band = bndL na fa ln lf band i from fun _ => rfl)
  have HPL := Lib.hid (pst_le na fa ln lf band)
  rw [h0] at HC
  obtain ⟨G, hG⟩ : ∃ G, pst na fa ln lf band = G := ⟨_, rfl⟩
  have HG := Lib.hid (show G 0 = (-1, 0, 0) ∧ ∀ i, G (i + 1) = pstep (takes na ln band i) (bndL na fa ln lf band i) (costL na fa ln lf band i) i (G i) by rw [← hG]; exact ⟨rfl, fun _ => rfl⟩)
  rw [hG] at HR HPL
  generalize prunR na fa n ln lf band = R at *
  clear hG h0 va vl hbd ha
  go_enter Try.func38, Try.ntmps38
  go_wp2_with fail
  refine HC.out.mono ?_
  rintro e w1 ⟨rfl, hb1⟩
  have B1 := Lib.hid hb1
  have PA1 := Lib.hid (HPA.out.kept hb1)
  have PB1 := Lib.hid (HPB.out.kept hb1)
  clear hb1 HC HPA HPB
  go_wp2
  go_loopw [11, 12, 13, 14] (fun at_ best many i w' => ∃ x : Nat, x ≤ n ∧ i = .int .i64 (x : Int) ∧ at_ = .int .i64 (G x).1 ∧ best = .int .i64 (G x).2.1 ∧ many = .int .i64 ((G x).2.2 : Int) ∧ Hid (Below w1.heap.size w1 w')) (fun _ _ _ i _ => n - (intOf i).toNat)
  case atStart => exact ⟨0, Nat.zero_le _, rfl, by rw [HG.out.1], by rw [HG.out.1], by rw [HG.out.1]; rfl, Lib.hid (Below.refl _ _)⟩
  case round =>
    obtain ⟨x, hx, rfl, rfl, rfl, rfl, HB⟩ := hrel
    have hpl := HPL.out x
    obtain ⟨⟨p1, p2, p3⟩, hp12⟩ : ∃ p, G x = p := ⟨_, rfl⟩
    rw [hp12] at hpl
    simp only at hpl
    by_cases hlt : x < n
    · have hli : (x : Int) < (n : Int) := by omega
      have hx1 : x + 1 ≤ n := by omega
      have hms : n - (x + 1) < n - x := by omega
      have hp3 : p3 ≤ 1048576 := by omega
      have hgx := HG.out.2 x
      rw [hp12] at hgx
      obtain ⟨g, o, Ai, ci, rfl, hg, c0, hp⟩ := (PB1.out.kept HB.out) x hlt
      have HI := Lib.hid (fun W => inS (ca := ca) (cb := ci) A Ai na (ln x) band W (by omega) (by have := HLN.out x hlt; omega))
      have H1 := Lib.hid (fun W (hb : Below wr.heap.size wr W) => HL.out W Ai ci x hlt (PA1.out.kept (HB.out.trans (hb.mono HB.out.size))) (hp.kept hb))
      have H2 := Lib.hid (fun ht => HBO.out wr Ai ci x hlt (PA1.out.kept HB.out) hp ht)
      rw [HT.out x] at HI
      rw [HCC.out x] at H1
      rw [HBB.out x] at H2
      have HGX := Lib.hid hgx
      rw [hp12]
      clear hp hgx hp12 hlt hpl
      generalize costL na fa ln lf band x = v at *
      generalize bndL na fa ln lf band x = bo at *
      generalize takes na ln band x = t at *
      generalize ln x = q at *
      simp only
      cases t with
      | false =>
        have HN := Lib.hid (show G (x + 1) = (p1, p2, p3) by rw [HGX.out]; unfold pstep; rw [if_neg (fun h => by cases h.1)])
        clear HGX H1 H2
        go_wp2_with fail
        with_reducible refine (HI.out _).mono ?_
        rintro e _ ⟨rfl, rfl⟩
        go_wp2
        go_roundw
        case rel => exact ⟨x + 1, hx1, by go_num, by rw [HN.out], by rw [HN.out], by rw [HN.out], HB⟩
        case measure => simp [intOf]; omega
      | true =>
        have H3 := Lib.hid (H2.out rfl)
        clear H2
        by_cases hp1 : 0 ≤ p1
        · have hnl : ¬ p1 < 0 := by omega
          by_cases hbo : p2 ≤ bo
          · have HN := Lib.hid (show G (x + 1) = (p1, p2, p3) by rw [HGX.out]; unfold pstep; rw [if_neg (fun h => h.2 ⟨hp1, hbo⟩)])
            clear HGX H1
            go_wp2_with fail
            with_reducible refine (HI.out _).mono ?_
            rintro e _ ⟨rfl, rfl⟩
            go_wp2_with fail
            refine H3.out.mono ?_
            rintro e w2 ⟨rfl, hb2⟩
            have HB2 := Lib.hid (HB.out.trans (hb2.mono HB.out.size))
            clear hb2 H3 c0 hg HB HI
            go_wp2
            go_roundw
            case rel => exact ⟨x + 1, hx1, by go_num, by rw [HN.out], by rw [HN.out], by rw [HN.out], HB2⟩
            case measure => simp [intOf]; omega
          · have HN := Lib.hid (show G (x + 1) = if p1 < 0 ∨ v < p2 then ((x : Int), v, p3 + 1) else (p1, p2, p3 + 1) by rw [HGX.out]; unfold pstep; rw [if_pos ⟨rfl, fun h => hbo h.2⟩])
            clear HGX
            go_wp2_with fail
            with_reducible refine (HI.out _).mono ?_
            rintro e _ ⟨rfl, rfl⟩
            go_wp2_with fail
            refine H3.out.mono ?_
            rintro e w2 ⟨rfl, hb2⟩
            have HB2 := Lib.hid (HB.out.trans (hb2.mono HB.out.size))
            have H4 := Lib.hid (H1.out w2 hb2)
            have c1 := (hb2.cell (p := ⟨g, o + x, none⟩) hg).trans c0
            have hg1 := Nat.lt_of_lt_of_le hg hb2.size
            clear hb2 H3 c0 hg HB HI H1
            go_wp2_with fail
            refine H4.out.mono ?_
            rintro e w3 ⟨rfl, hb3⟩
            have HB3 := Lib.hid (HB2.out.trans (hb3.mono HB2.out.size))
            clear hb3 H4 c1 hg1 HB2
            by_cases h2 : v < p2
            · have HN2 := Lib.hid (HN.out.trans (if_pos (.inr h2)))
              go_wp2
              go_roundw
              case rel => exact ⟨x + 1, hx1, by go_num, by rw [HN2.out], by rw [HN2.out], by rw [HN2.out]; go_num, HB3⟩
              case measure => simp [intOf]; omega
            · have HN2 := Lib.hid (HN.out.trans (if_neg (fun h => h.elim (fun h => by omega) h2)))
              go_wp2
              go_roundw
              case rel => exact ⟨x + 1, hx1, by go_num, by rw [HN2.out], by rw [HN2.out], by rw [HN2.out]; go_num, HB3⟩
              case measure => simp [intOf]; omega
        · have hnl : p1 < 0 := by omega
          have HN2 := Lib.hid (show G (x + 1) = ((x : Int), v, p3 + 1) by rw [HGX.out]; unfold pstep; rw [if_pos ⟨rfl, fun h => hp1 h.1⟩, if_pos (.inl hnl)])
          clear HGX H3
          go_wp2_with fail
          with_reducible refine (HI.out _).mono ?_
          rintro e _ ⟨rfl, rfl⟩
          have H4 := Lib.hid (H1.out wr (Below.refl _ _))
          clear H1
          go_wp2_with fail
          refine H4.out.mono ?_
          rintro e w3 ⟨rfl, hb3⟩
          have HB3 := Lib.hid (HB.out.trans (hb3.mono HB.out.size))
          clear hb3 H4 c0 hg HB HI
          go_wp2
          go_roundw
          case rel => exact ⟨x + 1, hx1, by go_num, by rw [HN2.out], by rw [HN2.out], by rw [HN2.out]; go_num, HB3⟩
          case measure => simp [intOf]; omega
    · have hxn : ¬ (x : Int) < (n : Int) := by omega
      have hxe : x = n := by omega
      have HR2 := HR.out
      rw [← hxe, hp12] at HR2
      simp only at HR2
      have BB := Lib.hid (B1.out.trans (HB.out.mono B1.out.size))
      rw [hp12]
      have HR3 := Lib.hid HR2
      clear hxe hlt hp12 HR2 hpl
      by_cases h1 : p1 < 0
      · have HR4 := Lib.hid (HR3.out.trans (if_pos h1))
        go_wp2
        exact bodyPost_ret (v := .tuple #[.int .i64 0, .int .i64 0, .int .i64 0, .int .i64 3]) (by simp [results, Try.results38, go_sem]) rfl ⟨by rw [HR4.out], BB.out⟩
      · have HR4 := Lib.hid (HR3.out.trans (if_neg h1))
        go_wp2
        exact bodyPost_ret (v := .tuple #[.int .i64 p1, .int .i64 p2, .int .i64 (p3 : Int), .int .i64 0]) (by simp [results, Try.results38, go_sem]) rfl ⟨by rw [HR4.out], BB.out⟩
end Go.Proofs.Ythpmckfjlbiiiaa.env

namespace Go.Proofs.Ythpmckfjlbiiiaa.env

open Go.ChangeShapes Go.WideShapes Go.ChangeAt Go.RowKit Go.Joins

open Go.Proofs.Ythpmckfjlbiiiaa.core Go.Proofs.Ythpmckfjlbiiiaa.rown Go.Proofs.Ythpmckfjlbiiiaa.stk Go.Proofs.Ythpmckfjlbiiiaa.boxed Go.Proofs.Ythpmckfjlbiiiaa.ft Go.Proofs.Ythpmckfjlbiiiaa.seq Go.Proofs.Ythpmckfjlbiiiaa.tab
set_option linter.unusedVariables false
set_option linter.unusedSimpArgs false
/-- The numbers of a list as a function. -/
def fOf (l : List Int) (j : Nat) : Int := l.getD j 0
/-- Behind how many of the first k numbers x comes. -/
def kf (l : List Int) (x : Int) : Nat → Nat
  | 0 => 0
  | k + 1 => if x < fOf l k then kf l x k else k + 1
theorem kf_le (l : List Int) (x : Int) : ∀ k, kf l x k ≤ k
  | 0 => Nat.le_refl _
  | k + 1 => by
    have := kf_le l x k
    unfold kf; split <;> omega
def ins (l : List Int) (k : Nat) (v : Int) : List Int := l.take k ++ [v] ++ l.drop k
theorem ins_len {l : List Int} {k : Nat} {v : Int} : (ins l k v).length = l.length + 1 := by
  unfold ins
  rw [List.length_append, List.length_append, List.length_take, List.length_drop]
  simp; omega
/-- The order so far: the lists' indices, and their bounds. -/
def ostep (t : Bool) (b : Int) (i : Nat) (s : List Int × List Int) : List Int × List Int :=
  if t = true then (ins s.1 (kf s.2 b s.1.length) (i : Int), ins s.2 (kf s.2 b s.1.length) b) else s
def ost (na : Nat) (fa : Nat → P3) (ln : Nat → Nat) (lf : Nat → Nat → P3) (band : Int) : Nat → List Int × List Int
  | 0 => ([], [])
  | i + 1 => ostep (takes na ln band i) (bndL na fa ln lf band i) i (ost na fa ln lf band i)
theorem ost_len (na : Nat) (fa : Nat → P3) (ln : Nat → Nat) (lf : Nat → Nat → P3) (band : Int) : ∀ i, (ost na fa ln lf band i).1.length = (ost na fa ln lf band i).2.length ∧ (ost na fa ln lf band i).1.length ≤ i
  | 0 => ⟨rfl, Nat.le_refl _⟩
  | i + 1 => by
    obtain ⟨h1, h2⟩ := ost_len na fa ln lf band i
    unfold ost ostep
    split
    · simp only [ins_len]; omega
    · omega
theorem rws_take (l : List Int) {k : Nat} (hk : k ≤ l.length) : rws (one (fOf l)) k = vals (l.take k) := by
  rw [vals_rws, List.length_take, Nat.min_eq_left hk]
  refine rws_congr k fun j hj => ?_
  unfold one fOf
  dsimp only
  rw [List.getD_eq_getElem?_getD, List.getD_eq_getElem?_getD, List.getElem?_take, if_pos hj]
theorem rws_drop (l : List Int) (k : Nat) : rws (one fun j => fOf l (k + j)) (l.length - k) = vals (l.drop k) := by
  rw [vals_rws, List.length_drop]
  refine rws_congr _ fun j hj => ?_
  unfold one fOf
  dsimp only
  rw [List.getD_eq_getElem?_getD, List.getD_eq_getElem?_getD, List.getElem?_drop]
theorem rows_ins (l : List Int) {k : Nat} (hk : k ≤ l.length) (v : Int) : rws (one (fOf l)) k ++ [.int .i64 v] ++ rws (one fun j => fOf l (k + j)) (l.length - k) = vals (ins l k v) := by
  rw [rws_take l hk, rws_drop l k]
  unfold ins vals
  rw [List.map_append, List.map_append]
  rfl
theorem num_vals {w : World} {base E g L d : Nat} {l : List Int} (h : w.ownsRow base E 1 (.slice (some ⟨g, 0, none⟩) L d) L (vals l)) (hl : l.length = L) : NumAt w (some ⟨g, 0, none⟩) L (fOf l) := by
  subst hl
  rw [vals_rws] at h
  exact num_row h
theorem num_take {w : World} {A : Option Addr} {L k : Nat} {F : Nat → Int} (h : NumAt w A L F) (hk : k ≤ L) : NumAt w A k F := fun i hi => h i (by omega)
theorem num_drop {w : World} {g L k : Nat} {F : Nat → Int} (h : NumAt w (some ⟨g, 0, none⟩) L F) : NumAt w (some ⟨g, k, none⟩) (L - k) (fun j => F (k + j)) := fun i hi => by
  obtain ⟨b, o, e, h1, h2⟩ := h (k + i) (by omega)
  injection e with e
  injection e with e1 e2
  subst e1 e2
  rw [Nat.zero_add] at h2
  exact ⟨g, k, rfl, h1, h2⟩
theorem row_room {w : World} {base E k g n c : Nat} {xs : List Value} (h : w.ownsRow base E k (.slice (some ⟨g, 0, none⟩) n c) n xs) : n ≤ c := by
  obtain ⟨-, h⟩ := h
  rcases h with ⟨h, _⟩ | ⟨g', cap, cur, e, h1, h2, h3, h4⟩
  · cases h
  · cases e; exact h3
set_option maxRecDepth 100000 in
set_option maxHeartbeats 4000000 in
theorem orderS_no {ca cb : Nat} (A B : Option Addr) (na n : Nat) (fa : Nat → P3) (ln : Nat → Nat) (lf : Nat → Nat → P3) (band : Int) (w : World) (ha : na ≤ 1048576) (hn : n ≤ 1048576) (hl : ∀ i, i < n → ln i ≤ 1048576) (pa : PtsAt w A na fa) (pb : LsAt w B n ln lf) (h0 : liC na fa n ln lf band ≠ 0) :
    Calls Try.prog 46 #[.slice A na ca, .slice B n cb, .int .i64 band] w fun e w' => e = .returned (.tuple #[.slice none 0 0, .int .i64 (liC na fa n ln lf band)]) ∧ Below w.heap.size w w' := by
  have HC := Lib.hid (codeLS (ca := ca) (cb := cb) A B na n fa ln lf band w ha hn hl pa pb)
  have h12 : liC na fa n ln lf band = 1 ∨ liC na fa n ln lf band = 2 := by have := liC_any na fa n ln lf band; omega
  clear h0 pa pb hl
  rcases h12 with h | h
  all_goals
    rw [h] at HC ⊢
    clear h
    go_enter Try.func46, Try.ntmps46
    go_wp2_with fail
    refine HC.out.mono ?_
    rintro e w1 ⟨rfl, hb1⟩
    have B1 := Lib.hid hb1
    clear hb1
    go_wp2
    go_ret2
    exact ⟨rfl, B1.out⟩
set_option maxRecDepth 100000 in
set_option maxHeartbeats 16000000 in
theorem orderS_yes {ca cb : Nat} (A B : Option Addr) (na n : Nat) (fa : Nat → P3) (ln : Nat → Nat) (lf : Nat → Nat → P3) (band : Int) (w : World) (ha : na ≤ 1048576) (hn : n ≤ 1048576) (hl : ∀ i, i < n → ln i ≤ 1048576) (pa : PtsAt w A na fa) (pb : LsAt w B n ln lf) (h0 : liC na fa n ln lf band = 0) :
    Calls Try.prog 46 #[.slice A na ca, .slice B n cb, .int .i64 band] w fun e w' => ∃ v, e = .returned (.tuple #[v, .int .i64 0]) ∧ w'.ownsRow w.heap.size 2 1 v (ost na fa ln lf band n).1.length (vals (ost na fa ln lf band n).1) ∧ Below w.heap.size w w' := by
  obtain ⟨i0, hi0, hz0, hz1, hz2⟩ := rown.info_get infoJ
  have HC := Lib.hid (codeLS (ca := ca) (cb := cb) A B na n fa ln lf band w ha hn hl pa pb)
  have HPA := Lib.hid pa
  have HPB := Lib.hid pb
  obtain ⟨⟨va, hn40, vl⟩, hbd⟩ := liC_of h0
  have a2 := (okQ_of va).2.1
  have HBO := Lib.hid (fun W Ai ci i (hi : i < n) hA hB (ht : takes na ln band i = true) => boundS (ca := ca) (cb := ci) A Ai na (ln i) fa (lf i) band W hA hB va (vl i hi) hbd (of_decide_eq_true ht).2)
  have HLN := Lib.hid (fun i (hi : i < n) => (okQ_of (vl i hi)).2.1)
  have HT := Lib.hid (show ∀ i, bandOk (na : Int) (ln i : Int) band = takes na ln band i from fun _ => rfl)
  have HBB := Lib.hid (show ∀ i, boundE na (ln i) fa (lf i) band = bndL na fa ln lf band i from fun _ => rfl)
  have HPL := Lib.hid (ost_len na fa ln lf band)
  rw [h0] at HC
  obtain ⟨G, hG⟩ : ∃ G, ost na fa ln lf band = G := ⟨_, rfl⟩
  have HG := Lib.hid (show G 0 = ([], []) ∧ ∀ i, G (i + 1) = ostep (takes na ln band i) (bndL na fa ln lf band i) i (G i) by rw [← hG]; exact ⟨rfl, fun _ => rfl⟩)
  rw [hG] at HPL ⊢
  clear hG h0 va vl hbd ha pa pb hl
  go_enter Try.func46, Try.ntmps46
  go_wp2_with fail
  refine HC.out.mono ?_
  rintro e w1 ⟨rfl, hb1⟩
  have B1 := Lib.hid hb1
  have PA1 := Lib.hid (HPA.out.kept hb1)
  have PB1 := Lib.hid (HPB.out.kept hb1)
  have e0 := rown.empty_row w1 2 1
  have bl := below_alloc1 (w1.alloc (.cells #[] 2)) (.cells #[] 2)
  have HE1 := Lib.hid (rown.ownsRow_kept e0 bl)
  have HE2 := Lib.hid (row_low (b' := w1.heap.size) (rown.empty_row (w1.alloc (.cells #[] 2)) 2 1) (by simp))
  have HBE := Lib.hid (below_alloc2 w1 (.cells #[] 2) (.cells #[] 2))
  have hsz0 : (w1.alloc (.cells #[] 2)).heap.size = w1.heap.size + 1 := by simp
  rw [hsz0] at HE2
  clear hb1 HC HPA HPB e0 bl hsz0
  go_wp2
  go_loopw [9, 10, 11] (fun o b i w' => ∃ (x L g d gB f : Nat), x ≤ n ∧ L ≤ x ∧ i = .int .i64 (x : Int) ∧ o = .slice (some ⟨g, 0, none⟩) L d ∧ b = .slice (some ⟨gB, 0, none⟩) L f ∧ Hid ((G x).1.length = L) ∧ Hid (w'.ownsRow w1.heap.size 2 1 (.slice (some ⟨g, 0, none⟩) L d) L (vals (G x).1)) ∧ Hid (w'.ownsRow w1.heap.size 2 1 (.slice (some ⟨gB, 0, none⟩) L f) L (vals (G x).2)) ∧ Hid (Below w1.heap.size w1 w')) (fun _ _ i _ => n - (intOf i).toNat)
  case atStart => exact ⟨0, 0, _, _, _, _, Nat.zero_le _, Nat.le_refl _, rfl, rfl, rfl, Lib.hid (by rw [HG.out.1]; rfl), Lib.hid (by rw [HG.out.1]; exact HE1.out), Lib.hid (by rw [HG.out.1]; exact HE2.out), HBE⟩
  case round =>
    obtain ⟨x, L, g, d, gB, f, hx, hLx, rfl, rfl, rfl, HLL, HO, HQ, HB⟩ := hrel
    by_cases hlt : x < n
    · have hli : (x : Int) < (n : Int) := by omega
      have hx1 : x + 1 ≤ n := by omega
      have hms : n - (x + 1) < n - x := by omega
      have hL40 : L ≤ 40 := by omega
      have hL1 : L ≤ x + 1 := by omega
      have hL2 : L + 1 ≤ x + 1 := by omega
      obtain ⟨gg, oo, Ai, ci, rfl, hg, c0, hp⟩ := (PB1.out.kept HB.out) x hlt
      have HI := Lib.hid (fun W => inS (ca := ca) (cb := ci) A Ai na (ln x) band W (by omega) (by have := HLN.out x hlt; omega))
      have H2 := Lib.hid (fun ht => HBO.out wr Ai ci x hlt (PA1.out.kept HB.out) hp ht)
      have HGX := Lib.hid (HG.out.2 x)
      have HL2 := Lib.hid (show (G x).2.length = L by rw [← (HPL.out x).1]; exact HLL.out)
      rw [HT.out x] at HI
      rw [HBB.out x] at H2
      clear hp hlt hLx
      generalize bndL na fa ln lf band x = bo at *
      generalize takes na ln band x = t at *
      generalize ln x = q at *
      cases t with
      | false =>
        have HN := Lib.hid (show G (x + 1) = G x by rw [HGX.out]; unfold ostep; rw [if_neg (by simp)])
        clear HGX H2
        go_wp2_with fail
        with_reducible refine (HI.out _).mono ?_
        rintro e _ ⟨rfl, rfl⟩
        go_wp2
        go_roundw
        case rel => exact ⟨x + 1, L, g, d, gB, f, hx1, hL1, by go_num, rfl, rfl, Lib.hid (by rw [HN.out]; exact HLL.out), Lib.hid (by rw [HN.out]; exact HO.out), Lib.hid (by rw [HN.out]; exact HQ.out), HB⟩
        case measure => simp [intOf]; omega
      | true =>
        have H3 := Lib.hid (H2.out rfl)
        clear H2
        obtain ⟨⟨O, Q⟩, hOQ⟩ : ∃ p, G x = p := ⟨_, rfl⟩
        have HN0 := HGX.out
        rw [hOQ] at HN0 HLL HO HQ HL2
        simp only at HLL HO HQ HL2
        have HN := Lib.hid (show G (x + 1) = (ins O (kf Q bo L) (x : Int), ins Q (kf Q bo L) bo) by rw [HN0]; unfold ostep; rw [if_pos rfl]; simp only; rw [HLL.out])
        have hKL := kf_le Q bo L
        obtain ⟨K, hK⟩ : ∃ K, kf Q bo L = K := ⟨_, rfl⟩
        rw [hK] at HN hKL
        have HKF := Lib.hid hK
        clear HGX HN0 hOQ hK
        go_wp2_with fail
        with_reducible refine (HI.out _).mono ?_
        rintro e _ ⟨rfl, rfl⟩
        go_wp2_with fail
        refine H3.out.mono ?_
        rintro e w2 ⟨rfl, hb2⟩
        have HO2 := Lib.hid (rown.ownsRow_kept HO.out hb2)
        have HQ2 := Lib.hid (rown.ownsRow_kept HQ.out hb2)
        have HB2 := Lib.hid (HB.out.trans (hb2.mono HB.out.size))
        clear hb2 H3 c0 hg HB HI HO HQ
        go_wp2
        go_loopw [13] (fun k w' => ∃ y : Nat, y ≤ L ∧ k = .int .i64 (y : Int) ∧ Hid (kf Q bo y = K) ∧ Hid (Below w2.heap.size w2 w')) (fun k _ => (intOf k).toNat)
        case atStart => exact ⟨L, Nat.le_refl _, rfl, HKF, Lib.hid (Below.refl _ _)⟩
        case round =>
          obtain ⟨y, hy, rfl, HY, HB3⟩ := hrel
          have HB23 := Lib.hid (HB2.out.trans (HB3.out.mono HB2.out.size))
          have HQ3 := Lib.hid (rown.ownsRow_kept HQ2.out HB3.out)
          rcases Nat.eq_zero_or_pos y with hy0 | hyp
          · have hyK := Lib.hid (show y = K by
              have h1 := HY.out
              rw [hy0] at h1 ⊢
              unfold kf at h1
              exact h1)
            have hny : ¬ (0 : Int) < (y : Int) := by omega
            clear hy0
            have HNy := Lib.hid (show G (x + 1) = (ins O y (x : Int), ins Q y bo) by rw [HN.out, hyK.out])
            have hyL : y ≤ L := hy
            have HO3 := Lib.hid (rown.ownsRow_kept HO2.out HB3.out)
            have hLd : L ≤ d := row_room HO3.out
            have hLf : L ≤ f := row_room HQ3.out
            have NO := Lib.hid (num_vals HO3.out HLL.out)
            have NQ := Lib.hid (num_vals HQ3.out HL2.out)
            have OW := Lib.hid (ownNS (c := d) (some ⟨g, 0, none⟩) y (fOf O) wr (by omega) (num_take NO.out hyL))
            have RI := Lib.hid (show rws (one (fOf O)) y ++ [.int .i64 (x : Int)] ++ rws (one fun j => fOf O (y + j)) (L - y) = vals (ins O y (x : Int)) by have := rows_ins O (k := y) (by rw [HLL.out]; exact hyL) (x : Int); rw [HLL.out] at this; exact this)
            have RQ := Lib.hid (show rws (one (fOf Q)) y ++ [.int .i64 bo] ++ rws (one fun j => fOf Q (y + j)) (L - y) = vals (ins Q y bo) by have := rows_ins Q (k := y) (by rw [HL2.out]; exact hyL) bo; rw [HL2.out] at this; exact this)
            have LN := Lib.hid (show (G (x + 1)).1.length = L + 1 by rw [HNy.out]; simp only; rw [ins_len, HLL.out])
            have s1 : (0 : Int) ≤ (y : Int) := by omega
            have s2 : (y : Int) ≤ (d : Int) := by omega
            have s3 : ¬ (d : Int) < (y : Int) := by omega
            have s4 : (y : Int) ≤ (L : Int) := by omega
            have s5 : ¬ (L : Int) < (y : Int) := by omega
            have s6 : (y : Int) ≤ (f : Int) := by omega
            have s7 : ¬ (f : Int) < (y : Int) := by omega
            have t1 : (L : Int) ≤ (d : Int) := by omega
            have t2 : ¬ (d : Int) < (L : Int) := by omega
            have t3 : (L : Int) ≤ (f : Int) := by omega
            have t4 : ¬ (f : Int) < (L : Int) := by omega
            have Z3 := Lib.hid (show y + 1 ≤ maxLen by simp only [maxLen]; omega)
            have Z4 := Lib.hid (show (y + 1) * 8 ≤ 140737488355328 by omega)
            have Z5 := Lib.hid (show y + 1 + (L - y) ≤ maxLen by simp only [maxLen]; omega)
            have Z6 := Lib.hid (show (y + 1 + (L - y)) * 8 ≤ 140737488355328 by omega)
            have hy1M : y ≤ 1048576 := by omega
            rcases Nat.lt_or_ge y L with hlY | hlY
            · have HM := Lib.hid (show 0 < L - y by omega)
              have HE := Lib.hid (show y + 1 + (L - y) = L + 1 by omega)
              have s8 : ¬ d = y := by omega
              have s9 : ¬ f = y := by omega
              clear hlY hLd hLf
              go_wp2_with fail
              refine OW.out.mono ?_
              rintro e w3 ⟨G1, C1, rfl, ho1, hb3⟩
              have HO1 := Lib.hid ho1
              have pz : wr.heap.size ≤ w3.heap.size := hb3.size
              have BW3 := Lib.hid hb3
              clear ho1 hb3
              go_wp2_with (first
                | (at_builtin
                   have z0 := rown.ownsRow_kept HO1.out (below_alloc1 w3 (.cells #[.int .i64 (x : Int)] 2))
                   have z2 : ∀ u ∈ [Value.int .i64 (x : Int)], u.oneCell' = true := (by simp [Value.oneCell'])
                   have z5 : wr.heap.size ≤ (w3.alloc (.cells #[.int .i64 (x : Int)] 2)).heap.size := (Nat.le_trans pz (by simp))
                   refine wpList_append_lies (w3.alloc (.cells #[.int .i64 (x : Int)] 2)) rfl _ _ 24 rfl (wr.heap.size) 2 i0 _ 1 8 Try.underlying24 hi0 hz0 hz1 hz2 rfl (by decide) (.slice (some ⟨G1, 0, none⟩) y C1) y _ rfl z0 ⟨w3.heap.size, 0, none⟩ 1 1 [.int .i64 (x : Int)] rfl rfl (one_newW rfl) z2 (by decide) Z3.out Z4.out z5 _ rfl ?_
                   intro pg pc pw hown hgr hat hlt3
                   have pH := Lib.hid hown
                   have pB := Lib.hid (rown.under HO1.out pz hgr)
                   have pr : y + 1 ≤ pc := row_room hown
                   clear hown hgr hat hlt3 z0 z2 z5)
                | (at_builtin
                   refine wpList_append_lies pw rfl _ _ 24 rfl (wr.heap.size) 2 i0 _ 1 8 Try.underlying24 hi0 hz0 hz1 hz2 rfl (by decide) (.slice (some ⟨pg, 0, none⟩) (y + 1) pc) (y + 1) _ rfl pH.out ⟨g, y, none⟩ (L - y) (d - y) (rws (one fun j => fOf O (y + j)) (L - y)) rfl (rws_len (one_len _) (L - y)) (num_news ((fun W (hW : Below wr.heap.size w3 W) => num_drop (NO.out.kept (BW3.out.trans hW))) pw pB.out)) (one_vals _ (L - y)) HM.out Z5.out Z6.out (Nat.le_trans pz pB.out.size) _ rfl ?_
                   intro qg qc qw hown hgr hat hlt3
                   have qH := Lib.hid hown
                   have qB := Lib.hid (pB.out.trans ((Below.refl (wr.heap.size) pw).grown hgr (Nat.le_trans pz pB.out.size) (fun k hk => (rown.ownsRow_block pH.out hk).1)))
                   clear hown hgr hat hlt3))
              have B4 := Lib.hid (BW3.out.trans qB.out)
              have OW2 := Lib.hid (ownNS (c := f) (some ⟨gB, 0, none⟩) y (fOf Q) qw hy1M (num_take (NQ.out.kept B4.out) hyL))
              refine OW2.out.mono ?_
              rintro e w5 ⟨G2, C2, rfl, ho2, hb5⟩
              have HO5 := Lib.hid ho2
              have rz : qw.heap.size ≤ w5.heap.size := hb5.size
              have BW5 := Lib.hid hb5
              clear ho2 hb5
              go_wp2_with (first
                | (at_builtin
                   have z0 := rown.ownsRow_kept HO5.out (below_alloc1 w5 (.cells #[.int .i64 bo] 2))
                   have z2 : ∀ u ∈ [Value.int .i64 bo], u.oneCell' = true := (by simp [Value.oneCell'])
                   have z5 : qw.heap.size ≤ (w5.alloc (.cells #[.int .i64 bo] 2)).heap.size := (Nat.le_trans rz (by simp))
                   refine wpList_append_lies (w5.alloc (.cells #[.int .i64 bo] 2)) rfl _ _ 24 rfl (qw.heap.size) 2 i0 _ 1 8 Try.underlying24 hi0 hz0 hz1 hz2 rfl (by decide) (.slice (some ⟨G2, 0, none⟩) y C2) y _ rfl z0 ⟨w5.heap.size, 0, none⟩ 1 1 [.int .i64 bo] rfl rfl (one_newW rfl) z2 (by decide) Z3.out Z4.out z5 _ rfl ?_
                   intro rg rc rw hown hgr hat hlt3
                   have rH := Lib.hid hown
                   have rB := Lib.hid (rown.under HO5.out rz hgr)
                   have rr : y + 1 ≤ rc := row_room hown
                   clear hown hgr hat hlt3 z0 z2 z5)
                | (at_builtin
                   refine wpList_append_lies rw rfl _ _ 24 rfl (qw.heap.size) 2 i0 _ 1 8 Try.underlying24 hi0 hz0 hz1 hz2 rfl (by decide) (.slice (some ⟨rg, 0, none⟩) (y + 1) rc) (y + 1) _ rfl rH.out ⟨gB, y, none⟩ (L - y) (f - y) (rws (one fun j => fOf Q (y + j)) (L - y)) rfl (rws_len (one_len _) (L - y)) (num_news ((fun W (hW : Below qw.heap.size w5 W) => num_drop (NQ.out.kept (B4.out.trans ((BW5.out.trans hW).mono B4.out.size)))) rw rB.out)) (one_vals _ (L - y)) HM.out Z5.out Z6.out (Nat.le_trans rz rB.out.size) _ rfl ?_
                   intro sg sc sw hown hgr hat hlt3
                   have sH := Lib.hid hown
                   have sB := Lib.hid (rB.out.trans ((Below.refl (qw.heap.size) rw).grown hgr (Nat.le_trans rz rB.out.size) (fun k hk => (rown.ownsRow_block rH.out hk).1)))
                   clear hown hgr hat hlt3))
              have B6 := Lib.hid (BW5.out.trans sB.out)
              have RO := Lib.hid (show sw.ownsRow w1.heap.size 2 1 (.slice (some ⟨qg, 0, none⟩) (L + 1) qc) (L + 1) (vals (G (x + 1)).1) by
                rw [HNy.out]
                refine row_low (rown.ownsRow_kept (show qw.ownsRow wr.heap.size 2 1 (.slice (some ⟨qg, 0, none⟩) (L + 1) qc) (L + 1) (vals (ins O y (x : Int))) by have h1 := qH.out; rw [RI.out, HE.out] at h1; exact h1) B6.out) HB23.out.size)
              have RW := Lib.hid (show sw.ownsRow w1.heap.size 2 1 (.slice (some ⟨sg, 0, none⟩) (L + 1) sc) (L + 1) (vals (G (x + 1)).2) by
                rw [HNy.out]
                exact row_low (show sw.ownsRow qw.heap.size 2 1 (.slice (some ⟨sg, 0, none⟩) (L + 1) sc) (L + 1) (vals (ins Q y bo)) by have h1 := sH.out; rw [RQ.out, HE.out] at h1; exact h1) (Nat.le_trans HB23.out.size B4.out.size))
              have BB := Lib.hid (HB23.out.trans ((B4.out.trans (B6.out.mono B4.out.size)).mono HB23.out.size))
              go_wp2
              go_roundw
              case rel => exact ⟨x + 1, L + 1, qg, qc, sg, sc, hx1, hL2, by go_num, by rw [← HE.out], by rw [← HE.out], LN, RO, RW, BB⟩
              case measure => simp [intOf]; omega
            · have HM0 := Lib.hid (show L - y = 0 by omega)
              have HE := Lib.hid (show y + 1 = L + 1 by omega)
              clear hlY hLd hLf
              go_wp2_with fail
              refine OW.out.mono ?_
              rintro e w3 ⟨G1, C1, rfl, ho1, hb3⟩
              have HO1 := Lib.hid ho1
              have pz : wr.heap.size ≤ w3.heap.size := hb3.size
              have BW3 := Lib.hid hb3
              clear ho1 hb3
              go_wp2_with (first
                | (at_builtin
                   have z0 := rown.ownsRow_kept HO1.out (below_alloc1 w3 (.cells #[.int .i64 (x : Int)] 2))
                   have z2 : ∀ u ∈ [Value.int .i64 (x : Int)], u.oneCell' = true := (by simp [Value.oneCell'])
                   have z5 : wr.heap.size ≤ (w3.alloc (.cells #[.int .i64 (x : Int)] 2)).heap.size := (Nat.le_trans pz (by simp))
                   refine wpList_append_lies (w3.alloc (.cells #[.int .i64 (x : Int)] 2)) rfl _ _ 24 rfl (wr.heap.size) 2 i0 _ 1 8 Try.underlying24 hi0 hz0 hz1 hz2 rfl (by decide) (.slice (some ⟨G1, 0, none⟩) y C1) y _ rfl z0 ⟨w3.heap.size, 0, none⟩ 1 1 [.int .i64 (x : Int)] rfl rfl (one_newW rfl) z2 (by decide) Z3.out Z4.out z5 _ rfl ?_
                   intro pg pc pw hown hgr hat hlt3
                   have pH := Lib.hid hown
                   have pB := Lib.hid (rown.under HO1.out pz hgr)
                   have pr : y + 1 ≤ pc := row_room hown
                   clear hown hgr hat hlt3 z0 z2 z5)
                | (at_builtin
                   refine wpList_append_none pw rfl _ _ 24 rfl 2 i0 Try.underlying24 hi0 ⟨pg, 0, none⟩ (y + 1) pc pr rfl _ _ _ HM0.out rfl ?_))
              all_goals
                have B4 := Lib.hid (BW3.out.trans pB.out)
                have OW2 := Lib.hid (ownNS (c := f) (some ⟨gB, 0, none⟩) y (fOf Q) pw hy1M (num_take (NQ.out.kept B4.out) hyL))
                refine OW2.out.mono ?_
                rintro e w5 ⟨G2, C2, rfl, ho2, hb5⟩
                have HO5 := Lib.hid ho2
                have rz : pw.heap.size ≤ w5.heap.size := hb5.size
                have BW5 := Lib.hid hb5
                clear ho2 hb5
                go_wp2_with (first
                  | (at_builtin
                     have z0 := rown.ownsRow_kept HO5.out (below_alloc1 w5 (.cells #[.int .i64 bo] 2))
                     have z2 : ∀ u ∈ [Value.int .i64 bo], u.oneCell' = true := (by simp [Value.oneCell'])
                     have z5 : pw.heap.size ≤ (w5.alloc (.cells #[.int .i64 bo] 2)).heap.size := (Nat.le_trans rz (by simp))
                     refine wpList_append_lies (w5.alloc (.cells #[.int .i64 bo] 2)) rfl _ _ 24 rfl (pw.heap.size) 2 i0 _ 1 8 Try.underlying24 hi0 hz0 hz1 hz2 rfl (by decide) (.slice (some ⟨G2, 0, none⟩) y C2) y _ rfl z0 ⟨w5.heap.size, 0, none⟩ 1 1 [.int .i64 bo] rfl rfl (one_newW rfl) z2 (by decide) Z3.out Z4.out z5 _ rfl ?_
                     intro rg rc rw hown hgr hat hlt3
                     have rH := Lib.hid hown
                     have rB := Lib.hid (rown.under HO5.out rz hgr)
                     have rr : y + 1 ≤ rc := row_room hown
                     clear hown hgr hat hlt3 z0 z2 z5)
                  | (at_builtin
                     refine wpList_append_none rw rfl _ _ 24 rfl 2 i0 Try.underlying24 hi0 ⟨rg, 0, none⟩ (y + 1) rc rr rfl _ _ _ HM0.out rfl ?_))
                all_goals
                  have B6 := Lib.hid (BW5.out.trans rB.out)
                  have RO := Lib.hid (show rw.ownsRow w1.heap.size 2 1 (.slice (some ⟨pg, 0, none⟩) (L + 1) pc) (L + 1) (vals (G (x + 1)).1) by
                    rw [HNy.out]
                    refine row_low (rown.ownsRow_kept (show pw.ownsRow wr.heap.size 2 1 (.slice (some ⟨pg, 0, none⟩) (L + 1) pc) (L + 1) (vals (ins O y (x : Int))) by have h1 := pH.out; have h2 := RI.out; rw [HM0.out] at h2; rw [show rws (one fun j => fOf O (y + j)) 0 = [] from rfl, List.append_nil] at h2; rw [h2, HE.out] at h1; exact h1) B6.out) HB23.out.size)
                  have RW := Lib.hid (show rw.ownsRow w1.heap.size 2 1 (.slice (some ⟨rg, 0, none⟩) (L + 1) rc) (L + 1) (vals (G (x + 1)).2) by
                    rw [HNy.out]
                    exact row_low (show rw.ownsRow pw.heap.size 2 1 (.slice (some ⟨rg, 0, none⟩) (L + 1) rc) (L + 1) (vals (ins Q y bo)) by have h1 := rH.out; have h2 := RQ.out; rw [HM0.out] at h2; rw [show rws (one fun j => fOf Q (y + j)) 0 = [] from rfl, List.append_nil] at h2; rw [h2, HE.out] at h1; exact h1) (Nat.le_trans HB23.out.size B4.out.size))
                  have BB := Lib.hid (HB23.out.trans ((B4.out.trans (B6.out.mono B4.out.size)).mono HB23.out.size))
                  go_wp2
                  go_roundw
                  case rel => exact ⟨x + 1, L + 1, pg, pc, rg, rc, hx1, hL2, by go_num, by rw [← HE.out], by rw [← HE.out], LN, RO, RW, BB⟩
                  case measure => simp [intOf]; omega
          · obtain ⟨z, hz⟩ : ∃ z, y = z + 1 := ⟨y - 1, by omega⟩
            have hzL : z < L := by omega
            have hyi : (0 : Int) < (y : Int) := by omega
            obtain ⟨b9, o9, e9, hb9, v9⟩ := num_vals HQ3.out HL2.out z hzL
            cases e9
            rw [Nat.zero_add] at v9
            have hzi : (z : Int) < (L : Int) := by omega
            have E1 : IntKind.i64.wrap ((y : Int) - 1) = (z : Int) := by rw [show (y : Int) - 1 = (z : Int) by omega]; exact IntWalk.i64_in _ (by omega)
            have hKs := HY.out
            rw [hz] at hKs
            unfold kf at hKs
            have HZ := Lib.hid hz
            have hzm : z < y := by omega
            have hyz : z ≤ L := by omega
            clear hz
            by_cases hv : bo < fOf Q z
            · have HY2 := Lib.hid (show kf Q bo z = K by rw [if_pos hv] at hKs; exact hKs)
              clear hKs
              generalize fOf Q z = u at *
              have F1 : wrap64 ((y : Int) - 1) = (z : Int) := by rw [← IntWalk.i64_left]; exact E1
              go_wp2
              clear F1 E1
              go_roundw
              case rel => exact ⟨z, hyz, rfl, HY2, Lib.hid HB3.out⟩
              case measure => first | (simp [intOf]; done) | (simp [intOf]; omega)
            · have hyK := Lib.hid (show y = K by
                rw [if_neg hv] at hKs
                rw [HZ.out]; exact hKs)
              clear hKs
              obtain ⟨u, hu9⟩ : ∃ u, fOf Q z = u := ⟨_, rfl⟩
              rw [hu9] at v9 hv
              clear hu9 hyp hzL hzm hyz
              have HNy := Lib.hid (show G (x + 1) = (ins O y (x : Int), ins Q y bo) by rw [HN.out, hyK.out])
              have hyL : y ≤ L := hy
              have HO3 := Lib.hid (rown.ownsRow_kept HO2.out HB3.out)
              have hLd : L ≤ d := row_room HO3.out
              have hLf : L ≤ f := row_room HQ3.out
              have NO := Lib.hid (num_vals HO3.out HLL.out)
              have NQ := Lib.hid (num_vals HQ3.out HL2.out)
              have OW := Lib.hid (ownNS (c := d) (some ⟨g, 0, none⟩) y (fOf O) wr (by omega) (num_take NO.out hyL))
              have RI := Lib.hid (show rws (one (fOf O)) y ++ [.int .i64 (x : Int)] ++ rws (one fun j => fOf O (y + j)) (L - y) = vals (ins O y (x : Int)) by have := rows_ins O (k := y) (by rw [HLL.out]; exact hyL) (x : Int); rw [HLL.out] at this; exact this)
              have RQ := Lib.hid (show rws (one (fOf Q)) y ++ [.int .i64 bo] ++ rws (one fun j => fOf Q (y + j)) (L - y) = vals (ins Q y bo) by have := rows_ins Q (k := y) (by rw [HL2.out]; exact hyL) bo; rw [HL2.out] at this; exact this)
              have LN := Lib.hid (show (G (x + 1)).1.length = L + 1 by rw [HNy.out]; simp only; rw [ins_len, HLL.out])
              have s1 : (0 : Int) ≤ (y : Int) := by omega
              have s2 : (y : Int) ≤ (d : Int) := by omega
              have s3 : ¬ (d : Int) < (y : Int) := by omega
              have s4 : (y : Int) ≤ (L : Int) := by omega
              have s5 : ¬ (L : Int) < (y : Int) := by omega
              have s6 : (y : Int) ≤ (f : Int) := by omega
              have s7 : ¬ (f : Int) < (y : Int) := by omega
              have t1 : (L : Int) ≤ (d : Int) := by omega
              have t2 : ¬ (d : Int) < (L : Int) := by omega
              have t3 : (L : Int) ≤ (f : Int) := by omega
              have t4 : ¬ (f : Int) < (L : Int) := by omega
              have Z3 := Lib.hid (show y + 1 ≤ maxLen by simp only [maxLen]; omega)
              have Z4 := Lib.hid (show (y + 1) * 8 ≤ 140737488355328 by omega)
              have Z5 := Lib.hid (show y + 1 + (L - y) ≤ maxLen by simp only [maxLen]; omega)
              have Z6 := Lib.hid (show (y + 1 + (L - y)) * 8 ≤ 140737488355328 by omega)
              have hy1M : y ≤ 1048576 := by omega
              rcases Nat.lt_or_ge y L with hlY | hlY
              · have HM := Lib.hid (show 0 < L - y by omega)
                have HE := Lib.hid (show y + 1 + (L - y) = L + 1 by omega)
                have s8 : ¬ d = y := by omega
                have s9 : ¬ f = y := by omega
                clear hlY hLd hLf
                have F1 : wrap64 ((y : Int) - 1) = (z : Int) := by rw [← IntWalk.i64_left]; exact E1
                go_wp2_with fail
                refine OW.out.mono ?_
                rintro e w3 ⟨G1, C1, rfl, ho1, hb3⟩
                have HO1 := Lib.hid ho1
                have pz : wr.heap.size ≤ w3.heap.size := hb3.size
                have BW3 := Lib.hid hb3
                clear ho1 hb3 F1 E1 v9 hb9
                go_wp2_with (first
                  | (at_builtin
                     have z0 := rown.ownsRow_kept HO1.out (below_alloc1 w3 (.cells #[.int .i64 (x : Int)] 2))
                     have z2 : ∀ u ∈ [Value.int .i64 (x : Int)], u.oneCell' = true := (by simp [Value.oneCell'])
                     have z5 : wr.heap.size ≤ (w3.alloc (.cells #[.int .i64 (x : Int)] 2)).heap.size := (Nat.le_trans pz (by simp))
                     refine wpList_append_lies (w3.alloc (.cells #[.int .i64 (x : Int)] 2)) rfl _ _ 24 rfl (wr.heap.size) 2 i0 _ 1 8 Try.underlying24 hi0 hz0 hz1 hz2 rfl (by decide) (.slice (some ⟨G1, 0, none⟩) y C1) y _ rfl z0 ⟨w3.heap.size, 0, none⟩ 1 1 [.int .i64 (x : Int)] rfl rfl (one_newW rfl) z2 (by decide) Z3.out Z4.out z5 _ rfl ?_
                     intro pg pc pw hown hgr hat hlt3
                     have pH := Lib.hid hown
                     have pB := Lib.hid (rown.under HO1.out pz hgr)
                     have pr : y + 1 ≤ pc := row_room hown
                     clear hown hgr hat hlt3 z0 z2 z5)
                  | (at_builtin
                     refine wpList_append_lies pw rfl _ _ 24 rfl (wr.heap.size) 2 i0 _ 1 8 Try.underlying24 hi0 hz0 hz1 hz2 rfl (by decide) (.slice (some ⟨pg, 0, none⟩) (y + 1) pc) (y + 1) _ rfl pH.out ⟨g, y, none⟩ (L - y) (d - y) (rws (one fun j => fOf O (y + j)) (L - y)) rfl (rws_len (one_len _) (L - y)) (num_news ((fun W (hW : Below wr.heap.size w3 W) => num_drop (NO.out.kept (BW3.out.trans hW))) pw pB.out)) (one_vals _ (L - y)) HM.out Z5.out Z6.out (Nat.le_trans pz pB.out.size) _ rfl ?_
                     intro qg qc qw hown hgr hat hlt3
                     have qH := Lib.hid hown
                     have qB := Lib.hid (pB.out.trans ((Below.refl (wr.heap.size) pw).grown hgr (Nat.le_trans pz pB.out.size) (fun k hk => (rown.ownsRow_block pH.out hk).1)))
                     clear hown hgr hat hlt3))
                have B4 := Lib.hid (BW3.out.trans qB.out)
                have OW2 := Lib.hid (ownNS (c := f) (some ⟨gB, 0, none⟩) y (fOf Q) qw hy1M (num_take (NQ.out.kept B4.out) hyL))
                refine OW2.out.mono ?_
                rintro e w5 ⟨G2, C2, rfl, ho2, hb5⟩
                have HO5 := Lib.hid ho2
                have rz : qw.heap.size ≤ w5.heap.size := hb5.size
                have BW5 := Lib.hid hb5
                clear ho2 hb5
                go_wp2_with (first
                  | (at_builtin
                     have z0 := rown.ownsRow_kept HO5.out (below_alloc1 w5 (.cells #[.int .i64 bo] 2))
                     have z2 : ∀ u ∈ [Value.int .i64 bo], u.oneCell' = true := (by simp [Value.oneCell'])
                     have z5 : qw.heap.size ≤ (w5.alloc (.cells #[.int .i64 bo] 2)).heap.size := (Nat.le_trans rz (by simp))
                     refine wpList_append_lies (w5.alloc (.cells #[.int .i64 bo] 2)) rfl _ _ 24 rfl (qw.heap.size) 2 i0 _ 1 8 Try.underlying24 hi0 hz0 hz1 hz2 rfl (by decide) (.slice (some ⟨G2, 0, none⟩) y C2) y _ rfl z0 ⟨w5.heap.size, 0, none⟩ 1 1 [.int .i64 bo] rfl rfl (one_newW rfl) z2 (by decide) Z3.out Z4.out z5 _ rfl ?_
                     intro rg rc rw hown hgr hat hlt3
                     have rH := Lib.hid hown
                     have rB := Lib.hid (rown.under HO5.out rz hgr)
                     have rr : y + 1 ≤ rc := row_room hown
                     clear hown hgr hat hlt3 z0 z2 z5)
                  | (at_builtin
                     refine wpList_append_lies rw rfl _ _ 24 rfl (qw.heap.size) 2 i0 _ 1 8 Try.underlying24 hi0 hz0 hz1 hz2 rfl (by decide) (.slice (some ⟨rg, 0, none⟩) (y + 1) rc) (y + 1) _ rfl rH.out ⟨gB, y, none⟩ (L - y) (f - y) (rws (one fun j => fOf Q (y + j)) (L - y)) rfl (rws_len (one_len _) (L - y)) (num_news ((fun W (hW : Below qw.heap.size w5 W) => num_drop (NQ.out.kept (B4.out.trans ((BW5.out.trans hW).mono B4.out.size)))) rw rB.out)) (one_vals _ (L - y)) HM.out Z5.out Z6.out (Nat.le_trans rz rB.out.size) _ rfl ?_
                     intro sg sc sw hown hgr hat hlt3
                     have sH := Lib.hid hown
                     have sB := Lib.hid (rB.out.trans ((Below.refl (qw.heap.size) rw).grown hgr (Nat.le_trans rz rB.out.size) (fun k hk => (rown.ownsRow_block rH.out hk).1)))
                     clear hown hgr hat hlt3))
                have B6 := Lib.hid (BW5.out.trans sB.out)
                have RO := Lib.hid (show sw.ownsRow w1.heap.size 2 1 (.slice (some ⟨qg, 0, none⟩) (L + 1) qc) (L + 1) (vals (G (x + 1)).1) by
                  rw [HNy.out]
                  refine row_low (rown.ownsRow_kept (show qw.ownsRow wr.heap.size 2 1 (.slice (some ⟨qg, 0, none⟩) (L + 1) qc) (L + 1) (vals (ins O y (x : Int))) by have h1 := qH.out; rw [RI.out, HE.out] at h1; exact h1) B6.out) HB23.out.size)
                have RW := Lib.hid (show sw.ownsRow w1.heap.size 2 1 (.slice (some ⟨sg, 0, none⟩) (L + 1) sc) (L + 1) (vals (G (x + 1)).2) by
                  rw [HNy.out]
                  exact row_low (show sw.ownsRow qw.heap.size 2 1 (.slice (some ⟨sg, 0, none⟩) (L + 1) sc) (L + 1) (vals (ins Q y bo)) by have h1 := sH.out; rw [RQ.out, HE.out] at h1; exact h1) (Nat.le_trans HB23.out.size B4.out.size))
                have BB := Lib.hid (HB23.out.trans ((B4.out.trans (B6.out.mono B4.out.size)).mono HB23.out.size))
                go_wp2
                go_roundw
                case rel => exact ⟨x + 1, L + 1, qg, qc, sg, sc, hx1, hL2, by go_num, by rw [← HE.out], by rw [← HE.out], LN, RO, RW, BB⟩
                case measure => simp [intOf]; omega
              · have HM0 := Lib.hid (show L - y = 0 by omega)
                have HE := Lib.hid (show y + 1 = L + 1 by omega)
                clear hlY hLd hLf
                have F1 : wrap64 ((y : Int) - 1) = (z : Int) := by rw [← IntWalk.i64_left]; exact E1
                go_wp2_with fail
                refine OW.out.mono ?_
                rintro e w3 ⟨G1, C1, rfl, ho1, hb3⟩
                have HO1 := Lib.hid ho1
                have pz : wr.heap.size ≤ w3.heap.size := hb3.size
                have BW3 := Lib.hid hb3
                clear ho1 hb3 F1 E1 v9 hb9
                go_wp2_with (first
                  | (at_builtin
                     have z0 := rown.ownsRow_kept HO1.out (below_alloc1 w3 (.cells #[.int .i64 (x : Int)] 2))
                     have z2 : ∀ u ∈ [Value.int .i64 (x : Int)], u.oneCell' = true := (by simp [Value.oneCell'])
                     have z5 : wr.heap.size ≤ (w3.alloc (.cells #[.int .i64 (x : Int)] 2)).heap.size := (Nat.le_trans pz (by simp))
                     refine wpList_append_lies (w3.alloc (.cells #[.int .i64 (x : Int)] 2)) rfl _ _ 24 rfl (wr.heap.size) 2 i0 _ 1 8 Try.underlying24 hi0 hz0 hz1 hz2 rfl (by decide) (.slice (some ⟨G1, 0, none⟩) y C1) y _ rfl z0 ⟨w3.heap.size, 0, none⟩ 1 1 [.int .i64 (x : Int)] rfl rfl (one_newW rfl) z2 (by decide) Z3.out Z4.out z5 _ rfl ?_
                     intro pg pc pw hown hgr hat hlt3
                     have pH := Lib.hid hown
                     have pB := Lib.hid (rown.under HO1.out pz hgr)
                     have pr : y + 1 ≤ pc := row_room hown
                     clear hown hgr hat hlt3 z0 z2 z5)
                  | (at_builtin
                     refine wpList_append_none pw rfl _ _ 24 rfl 2 i0 Try.underlying24 hi0 ⟨pg, 0, none⟩ (y + 1) pc pr rfl _ _ _ HM0.out rfl ?_))
                all_goals
                  have B4 := Lib.hid (BW3.out.trans pB.out)
                  have OW2 := Lib.hid (ownNS (c := f) (some ⟨gB, 0, none⟩) y (fOf Q) pw hy1M (num_take (NQ.out.kept B4.out) hyL))
                  refine OW2.out.mono ?_
                  rintro e w5 ⟨G2, C2, rfl, ho2, hb5⟩
                  have HO5 := Lib.hid ho2
                  have rz : pw.heap.size ≤ w5.heap.size := hb5.size
                  have BW5 := Lib.hid hb5
                  clear ho2 hb5
                  go_wp2_with (first
                    | (at_builtin
                       have z0 := rown.ownsRow_kept HO5.out (below_alloc1 w5 (.cells #[.int .i64 bo] 2))
                       have z2 : ∀ u ∈ [Value.int .i64 bo], u.oneCell' = true := (by simp [Value.oneCell'])
                       have z5 : pw.heap.size ≤ (w5.alloc (.cells #[.int .i64 bo] 2)).heap.size := (Nat.le_trans rz (by simp))
                       refine wpList_append_lies (w5.alloc (.cells #[.int .i64 bo] 2)) rfl _ _ 24 rfl (pw.heap.size) 2 i0 _ 1 8 Try.underlying24 hi0 hz0 hz1 hz2 rfl (by decide) (.slice (some ⟨G2, 0, none⟩) y C2) y _ rfl z0 ⟨w5.heap.size, 0, none⟩ 1 1 [.int .i64 bo] rfl rfl (one_newW rfl) z2 (by decide) Z3.out Z4.out z5 _ rfl ?_
                       intro rg rc rw hown hgr hat hlt3
                       have rH := Lib.hid hown
                       have rB := Lib.hid (rown.under HO5.out rz hgr)
                       have rr : y + 1 ≤ rc := row_room hown
                       clear hown hgr hat hlt3 z0 z2 z5)
                    | (at_builtin
                       refine wpList_append_none rw rfl _ _ 24 rfl 2 i0 Try.underlying24 hi0 ⟨rg, 0, none⟩ (y + 1) rc rr rfl _ _ _ HM0.out rfl ?_))
                  all_goals
                    have B6 := Lib.hid (BW5.out.trans rB.out)
                    have RO := Lib.hid (show rw.ownsRow w1.heap.size 2 1 (.slice (some ⟨pg, 0, none⟩) (L + 1) pc) (L + 1) (vals (G (x + 1)).1) by
                      rw [HNy.out]
                      refine row_low (rown.ownsRow_kept (show pw.ownsRow wr.heap.size 2 1 (.slice (some ⟨pg, 0, none⟩) (L + 1) pc) (L + 1) (vals (ins O y (x : Int))) by have h1 := pH.out; have h2 := RI.out; rw [HM0.out] at h2; rw [show rws (one fun j => fOf O (y + j)) 0 = [] from rfl, List.append_nil] at h2; rw [h2, HE.out] at h1; exact h1) B6.out) HB23.out.size)
                    have RW := Lib.hid (show rw.ownsRow w1.heap.size 2 1 (.slice (some ⟨rg, 0, none⟩) (L + 1) rc) (L + 1) (vals (G (x + 1)).2) by
                      rw [HNy.out]
                      exact row_low (show rw.ownsRow pw.heap.size 2 1 (.slice (some ⟨rg, 0, none⟩) (L + 1) rc) (L + 1) (vals (ins Q y bo)) by have h1 := rH.out; have h2 := RQ.out; rw [HM0.out] at h2; rw [show rws (one fun j => fOf Q (y + j)) 0 = [] from rfl, List.append_nil] at h2; rw [h2, HE.out] at h1; exact h1) (Nat.le_trans HB23.out.size B4.out.size))
                    have BB := Lib.hid (HB23.out.trans ((B4.out.trans (B6.out.mono B4.out.size)).mono HB23.out.size))
                    go_wp2
                    go_roundw
                    case rel => exact ⟨x + 1, L + 1, pg, pc, rg, rc, hx1, hL2, by go_num, by rw [← HE.out], by rw [← HE.out], LN, RO, RW, BB⟩
                    case measure => simp [intOf]; omega
    · have hxn : ¬ (x : Int) < (n : Int) := by omega
      have hxe := Lib.hid (show x = n by omega)
      have BB := Lib.hid (B1.out.trans (HB.out.mono B1.out.size))
      have HO2 := Lib.hid (row_low HO.out B1.out.size)
      clear hlt
      go_wp2
      go_ret2
      exact ⟨_, rfl, by rw [← hxe.out, HLL.out]; exact HO2.out, BB.out⟩
end Go.Proofs.Ythpmckfjlbiiiaa.env
