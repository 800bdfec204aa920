/-
  Proved: the list of the matches of a store, as the program returns it; what both functions MatchesOf return.
  Conditions: the store and the sequence are read out of memory.
-/
import Derived.Test.YtkcfghbkcgommaaMat
import Derived.Test.YtkcfghbkcgommaaElasI
namespace Go.Proofs.Ytkcfghbkcgommaa.mat
open Go.ChangeShapes Go.WideShapes Go.ChangeAt Go.RowKit Go.Joins
open Go.Proofs.Ytkcfghbkcgommaa.core Go.Proofs.Ytkcfghbkcgommaa.rown Go.Proofs.Ytkcfghbkcgommaa.stk Go.Proofs.Ytkcfghbkcgommaa.boxed Go.Proofs.Ytkcfghbkcgommaa.ft Go.Proofs.Ytkcfghbkcgommaa.seq Go.Proofs.Ytkcfghbkcgommaa.tab Go.Proofs.Ytkcfghbkcgommaa.env Go.Proofs.Ytkcfghbkcgommaa.lab Go.Proofs.Ytkcfghbkcgommaa.sto Go.Proofs.Ytkcfghbkcgommaa.revQ Go.Proofs.Ytkcfghbkcgommaa.dp
set_option linter.unusedVariables false
set_option linter.unusedSimpArgs false
theorem st_seq {band : Int} {n : Nat} {lb : Nat → ByteArray} {ln : Nat → Nat} {lf : Nat → Nat → P3} (h : StOk band n lb ln lf) : ∀ i, i < n → okQ (ln i) (lf i) = true := fun i hi => by
  have := h.2.2 i hi
  unfold tmB at this
  rw [Bool.and_eq_true] at this
  exact this.2
theorem el_yes {na : Nat} {fa : Nat → P3} {ln : Nat → Nat} {lf : Nat → Nat → P3} {band : Int} {i : Nat} (va : okQ na fa = true) (vb : okQ (ln i) (lf i) = true) (h : takes na ln band i = true) : elC na (ln i) fa (lf i) band = 0 ∧ elR na (ln i) fa (lf i) band = costL na fa ln lf band i := by
  have h2 := of_decide_eq_true (show decide ((0 ≤ band ∧ band ≤ 72) ∧ absv ((na : Int) - (ln i : Int)) ≤ band) = true from h)
  have h3 : elC na (ln i) fa (lf i) band = 0 := by unfold elC; rw [if_pos ⟨va, vb⟩, if_pos h2]
  exact ⟨h3, by unfold elR; rw [if_pos h3]; rfl⟩
theorem el_not {na : Nat} {fa : Nat → P3} {ln : Nat → Nat} {lf : Nat → Nat → P3} {band : Int} {i : Nat} (va : okQ na fa = true) (vb : okQ (ln i) (lf i) = true) (h : takes na ln band i = false) : elC na (ln i) fa (lf i) band = 2 ∧ elR na (ln i) fa (lf i) band = 0 := by
  have h2 := of_decide_eq_false (show decide ((0 ≤ band ∧ band ≤ 72) ∧ absv ((na : Int) - (ln i : Int)) ≤ band) = false from h)
  have h3 : elC na (ln i) fa (lf i) band = 2 := by unfold elC; rw [if_pos ⟨va, vb⟩, if_neg h2]
  exact ⟨h3, by unfold elR; rw [if_neg (by rw [h3]; decide)]⟩
set_option maxRecDepth 100000 in
set_option maxHeartbeats 16000000 in
theorem matchesI {c ca : Nat} (band : Int) (T A : Option Addr) (n na : Nat) (lb : Nat → ByteArray) (ln : Nat → Nat) (lf : Nat → Nat → P3) (fa : Nat → P3) (w : World) (hst : StOk band n lb ln lf) (va : okQ na fa = true) (hp : TsAt w T n lb ln lf) (pa : PtsAt w A na fa) :
    Calls Try.prog 75 #[.agg #[.int .i64 band, .slice T n c], .slice A na ca] w fun e w' => ∃ (D : Option Addr) (d : Nat), e = .returned (.slice D (mst na fa ln lf band n).1 d) ∧ w'.ownsRow w.heap.size 101 2 (.slice D (mst na fa ln lf band n).1 d) (mst na fa ln lf band n).1 (rws (sp2 (mst na fa ln lf band n).2) (mst na fa ln lf band n).1) ∧ Below w.heap.size w w' := by
  obtain ⟨i0, hi0, hz0, hz1, hz2⟩ := rown.info_get infoM
  have vl := st_seq hst
  obtain ⟨hbd, hn40, -⟩ := hst
  have a2 := (okQ_of va).2.1
  have hbi : inI64 band := by unfold inI64; omega
  have HL := Lib.hid (fun W Ai ci i (hi : i < n) hA hB => elasticI (ca := ca) (cb := ci) A Ai na (ln i) fa (lf i) band W (by omega) (by have := (okQ_of (vl i hi)).2.1; omega) hbi hA hB)
  have HEY := Lib.hid (fun i (hi : i < n) => el_yes (ln := ln) (lf := lf) (band := band) va (vl i hi))
  have HEN := Lib.hid (fun i (hi : i < n) => el_not (ln := ln) (lf := lf) (band := band) va (vl i hi))
  have HPL := Lib.hid (mst_le na fa ln lf band)
  obtain ⟨G, hG⟩ : ∃ G, mst na fa ln lf band = G := ⟨_, rfl⟩
  have HG := Lib.hid (show G 0 = (0, fun _ => (0, 0)) ∧ ∀ i, G (i + 1) = if takes na ln band i = true then apd (G i) ((i : Int), costL na fa ln lf band i) else G i by rw [← hG]; exact ⟨rfl, fun _ => rfl⟩)
  rw [hG] at HPL ⊢
  have BL := Lib.hid (below_alloc1 w (.cells #[.int .i64 band, .slice T n c] 30))
  have hsz : (w.alloc (.cells #[.int .i64 band, .slice T n c] 30)).heap.size = w.heap.size + 1 := by simp
  have HP := Lib.hid (hp.kept BL.out)
  have HPA := Lib.hid (pa.kept BL.out)
  have C0 := Lib.hid (show (w.alloc (.cells #[.int .i64 band, .slice T n c] 30)).cell? ⟨w.heap.size, 0, none⟩ = some (.int .i64 band) by simp)
  obtain ⟨w1, hw1⟩ : ∃ v, v = w.alloc (.cells #[.int .i64 band, .slice T n c] 30) := ⟨_, rfl⟩
  rw [← hw1] at HP HPA C0 BL hsz
  have HSZ := Lib.hid hsz
  have HW1 := Lib.hid hw1
  clear hG va vl hbd hp pa hbi hsz hw1
  go_enter Try.func75, Try.ntmps75
  go_wp2
  go_loopw [5, 13] (fun out i w' => ∃ (x L : Nat) (D : Option Addr) (d : Nat), x ≤ n ∧ L ≤ x ∧ i = .int .i64 (x : Int) ∧ out = .slice D L d ∧ Hid ((G x).1 = L) ∧ Hid (w'.ownsRow (w.heap.size + 1) 101 2 (.slice D L d) L (rws (sp2 (G x).2) L)) ∧ Hid (Below (w.heap.size + 1) w1 w')) (fun _ i _ => n - (intOf i).toNat)
  case atStart => exact ⟨0, 0, none, 0, Nat.zero_le _, Nat.le_refl _, rfl, rfl, Lib.hid (by rw [HG.out.1]), Lib.hid (World.ownsRow_nil _ _ _ _), Lib.hid (by rw [← HW1.out]; exact Below.refl _ _)⟩
  case round =>
    obtain ⟨x, L, D, d, hx, hLx, rfl, rfl, HLL, HO, HB⟩ := hrel
    have hwz : w.heap.size + 1 ≤ wr.heap.size := by have h1 := HB.out.size; have h2 := HSZ.out; omega
    have BB := Lib.hid (show Below w1.heap.size w1 wr by rw [HSZ.out]; exact HB.out)
    have s0 := (HB.out.cell (p := ⟨w.heap.size, 0, none⟩) (by show w.heap.size < _; omega)).trans C0.out
    have hbr : w.heap.size < wr.heap.size := by omega
    have hbr2 : w.heap.size < wr.heap.size + 1 := by omega
    have hbne : w.heap.size ≠ wr.heap.size := by omega
    by_cases hlt : x < n
    · have hli : (x : Int) < (n : Int) := by omega
      have hx1 : x + 1 ≤ n := by omega
      have hms : n - (x + 1) < n - x := by omega
      have hL1 : L ≤ x + 1 := by omega
      have hL2 : L + 1 ≤ x + 1 := by omega
      have hL40 : L ≤ 40 := by omega
      obtain ⟨g, og, Ai, ci, rfl, hg, p0, p1, hq⟩ := (HP.out.kept BB.out) x hlt
      have BA := Lib.hid (below_alloc1 wr (.cells #[.string (lb x), .slice Ai (ln x) ci] 43))
      have H1 := Lib.hid (HL.out _ Ai ci x hlt ((HPA.out.kept BB.out).kept BA.out) (hq.kept BA.out))
      have HBA := Lib.hid (HB.out.trans (BA.out.mono hwz))
      have HOA := Lib.hid (rown.ownsRow_kept HO.out BA.out)
      have hszA : w.heap.size + 1 ≤ (wr.alloc (.cells #[.string (lb x), .slice Ai (ln x) ci] 43)).heap.size := by simp; omega
      have HGX := Lib.hid (HG.out.2 x)
      cases ht : takes na ln band x with
      | false =>
        obtain ⟨e1, e2⟩ := HEN.out x hlt ht
        rw [e1, e2] at H1
        have HN := Lib.hid (show G (x + 1) = G x by rw [HGX.out, ht]; rfl)
        clear HGX ht hq hlt hLx e1 e2 HO HB BA
        generalize ln x = q at *
        generalize lb x = tx at *
        go_wp2_with fail
        refine H1.out.mono ?_
        rintro e w2 ⟨rfl, hb2⟩
        have HO2 := Lib.hid (rown.ownsRow_kept HOA.out hb2)
        have HB2 := Lib.hid (HBA.out.trans (hb2.mono hszA))
        clear hb2 H1 p0 p1 s0 hg
        go_wp2
        go_roundw
        case rel => exact ⟨x + 1, L, D, d, hx1, hL1, by go_num, rfl, Lib.hid (by rw [HN.out]; exact HLL.out), Lib.hid (by rw [HN.out]; exact HO2.out), HB2⟩
        case measure => simp [intOf]; omega
      | true =>
        obtain ⟨e1, e2⟩ := HEY.out x hlt ht
        rw [e1, e2] at H1
        have HN := Lib.hid (show G (x + 1) = apd (G x) ((x : Int), costL na fa ln lf band x) by rw [HGX.out, ht]; rfl)
        generalize costL na fa ln lf band x = v at *
        have HNL := Lib.hid (show (G (x + 1)).1 = L + 1 by rw [HN.out]; show (G x).1 + 1 = _; rw [HLL.out])
        have HNR := Lib.hid (show rws (sp2 (G (x + 1)).2) (L + 1) = rws (sp2 (G x).2) L ++ [.int .i64 (x : Int), .int .i64 v] by have := rws_apd (G x) ((x : Int), v); rw [← HN.out, HNL.out, HLL.out] at this; exact this)
        have Z3 := Lib.hid (show L + 1 ≤ maxLen by simp only [maxLen]; omega)
        have Z4 := Lib.hid (show (L + 1) * 16 ≤ 140737488355328 by omega)
        clear HGX ht hq hlt hLx e1 e2 HO HB BA
        generalize ln x = q at *
        generalize lb x = tx at *
        go_wp2_with fail
        refine H1.out.mono ?_
        rintro e w2 ⟨rfl, hb2⟩
        have HO2 := Lib.hid (rown.ownsRow_kept HOA.out hb2)
        have HB2 := Lib.hid (HBA.out.trans (hb2.mono hszA))
        have hzw : w.heap.size + 1 ≤ w2.heap.size := Nat.le_trans hszA hb2.size
        clear hb2 H1 p0 p1 s0 hg
        go_wp2_with (first
          | (at_builtin
             refine wpList_append_lies (w2.alloc (.cells #[.int .i64 (x : Int), .int .i64 v] 101)) rfl _ _ 57 rfl (w.heap.size + 1) 101 i0 _ 2 16 Try.underlying57 hi0 hz0 hz1 hz2 rfl (by decide) (.slice D L d) L _ rfl (rown.ownsRow_kept HO2.out (below_alloc1 _ _)) ⟨w2.heap.size, 0, none⟩ 1 1 [.int .i64 (x : Int), .int .i64 v] rfl rfl (two_new rfl) (by simp [Value.oneCell']) (by decide) Z3.out Z4.out (Nat.le_trans hzw (by simp)) _ rfl ?_
             intro g3 cap3 w5 hown hgr hat hlt3
             have HO5 := Lib.hid hown
             have HB5 := Lib.hid (HB2.out.trans (rown.under HO2.out hzw hgr))
             clear hown hgr hat))
        go_wp2
        go_roundw
        case rel => exact ⟨x + 1, L + 1, some ⟨g3, 0, none⟩, cap3, hx1, hL2, by go_num, rfl, HNL, Lib.hid (by rw [HNR.out]; exact HO5.out), HB5⟩
        case measure => simp [intOf]; omega
    · have hxe : x = n := by omega
      have hxn : ¬ (x : Int) < (n : Int) := by omega
      clear hlt
      have HO2 := Lib.hid (row_low (b' := w.heap.size) HO.out (by omega))
      have HB2 := Lib.hid (BL.out.trans (HB.out.mono (by omega)))
      subst hxe
      go_wp2
      go_ret
      exact ⟨D, d, by rw [HLL.out]; rfl, by rw [HLL.out]; exact HO2.out, HB2.out⟩
theorem cost_in {na : Nat} {fa : Nat → P3} {ln : Nat → Nat} {lf : Nat → Nat → P3} {band : Int} {i : Nat} (va : okQ na fa = true) (vb : okQ (ln i) (lf i) = true) : 0 ≤ costL na fa ln lf band i ∧ costL na fa ln lf band i ≤ 1000000574 := by
  obtain ⟨a1, -, a3⟩ := okQ_of va
  obtain ⟨b1, -, b3⟩ := okQ_of vb
  exact tab_in a3 b3 _ _ (by omega) (by omega)
theorem mst_in {na n : Nat} {fa : Nat → P3} {ln : Nat → Nat} {lf : Nat → Nat → P3} {band : Int} (va : okQ na fa = true) (vl : ∀ i, i < n → okQ (ln i) (lf i) = true) : ∀ k, k ≤ n → ∀ i, i < (mst na fa ln lf band k).1 → (0 ≤ ((mst na fa ln lf band k).2 i).1 ∧ ((mst na fa ln lf band k).2 i).1 < (k : Int)) ∧ 0 ≤ ((mst na fa ln lf band k).2 i).2 ∧ ((mst na fa ln lf band k).2 i).2 ≤ 1000000574
  | 0, _, i, hi => absurd hi (Nat.not_lt_zero _)
  | k + 1, hk, i, hi => by
    have ih := mst_in (n := n) (band := band) va vl k (by omega) i
    have hs : mst na fa ln lf band (k + 1) = if takes na ln band k = true then apd (mst na fa ln lf band k) ((k : Int), costL na fa ln lf band k) else mst na fa ln lf band k := rfl
    rw [hs] at hi ⊢
    split at hi
    · rename_i ht
      rw [if_pos ht]
      have hc := cost_in (band := band) va (vl k (by omega))
      show (0 ≤ (put2 _ _ _ i).1 ∧ (put2 _ _ _ i).1 < _) ∧ 0 ≤ (put2 _ _ _ i).2 ∧ (put2 _ _ _ i).2 ≤ _
      unfold put2
      by_cases e : i = (mst na fa ln lf band k).1
      · rw [if_pos e]; simp only; omega
      · rw [if_neg e]
        have hi' : i < (mst na fa ln lf band k).1 + 1 := hi
        have := ih (by omega)
        omega
    · rename_i ht
      rw [if_neg ht]
      have := ih hi
      omega
/-- The code of a store and a sequence. -/
noncomputable def mC (band : Int) (n : Nat) (lb : Nat → ByteArray) (ln : Nat → Nat) (lf : Nat → Nat → P3) (na : Nat) (fa : Nat → P3) : Bool := stB band n lb ln lf && okQ na fa
set_option maxRecDepth 100000 in
set_option maxHeartbeats 4000000 in
theorem matS_no {c ca : Nat} (band : Int) (T A : Option Addr) (n na : Nat) (lb : Nat → ByteArray) (ln : Nat → Nat) (lf : Nat → Nat → P3) (fa : Nat → P3) (w : World) (hl : TsL n lb ln) (ha : na ≤ 1048576) (hp : TsAt w T n lb ln lf) (pa : PtsAt w A na fa) (h0 : mC band n lb ln lf na fa = false) :
    Calls Try.prog 36 #[.agg #[.int .i64 band, .slice T n c], .slice A na ca] w fun e w' => e = .returned (.tuple #[.slice none 0 0, .int .i64 1]) ∧ Below w.heap.size w w' := by
  have BL := below_alloc1 w (.cells #[.int .i64 band, .slice T n c] 30)
  have HC := Lib.hid (storeOkS (c := c) w.heap.size 0 band T n lb ln lf _ (by simp) (by simp) (by simp) hl (hp.kept BL))
  have HQ := Lib.hid (fun (W : World) (hW : Below (w.alloc (.cells #[.int .i64 band, .slice T n c] 30)).heap.size (w.alloc (.cells #[.int .i64 band, .slice T n c] 30)) W) => okQS (c := ca) A na fa W ha ((pa.kept BL).kept hW))
  have HBL := Lib.hid BL
  have hund : undef = Value.tuple #[] := rfl
  unfold mC at h0
  clear hp pa hl BL
  generalize stB band n lb ln lf = r at *
  generalize okQ na fa = r' at *
  cases r with
  | false =>
    clear HQ h0
    go_enter Try.func36, Try.ntmps36
    go_wp2_with fail
    refine HC.out.mono ?_
    rintro e w1 ⟨rfl, hb⟩
    have HB := Lib.hid (HBL.out.trans (hb.mono HBL.out.size))
    clear hb
    go_wp2
    go_ret2
    exact ⟨rfl, HB.out⟩
  | true =>
    obtain rfl : r' = false := h0
    go_enter Try.func36, Try.ntmps36
    go_wp2_with fail
    refine HC.out.mono ?_
    rintro e w1 ⟨rfl, hb⟩
    have HB := Lib.hid (HBL.out.trans (hb.mono HBL.out.size))
    have HQ2 := Lib.hid (HQ.out w1 hb)
    clear hb HQ
    go_wp2_with fail
    refine HQ2.out.mono ?_
    rintro e w2 ⟨rfl, hb⟩
    have HB2 := Lib.hid (HB.out.trans (hb.mono HB.out.size))
    clear hb
    go_wp2
    go_ret2
    exact ⟨rfl, HB2.out⟩
set_option maxRecDepth 100000 in
set_option maxHeartbeats 4000000 in
theorem matI_no {c ca : Nat} (band : Int) (T A : Option Addr) (n na : Nat) (lb : Nat → ByteArray) (ln : Nat → Nat) (lf : Nat → Nat → P3) (fa : Nat → P3) (w : World) (hl : TsL n lb ln) (ha : na ≤ 1048576) (hp : TsAt w T n lb ln lf) (pa : PtsAt w A na fa) (h0 : mC band n lb ln lf na fa = false) :
    Calls Try.prog 38 #[.agg #[.int .i64 band, .slice T n c], .slice A na ca] w fun e w' => e = .returned (.tuple #[.slice none 0 0, .int .i64 1]) ∧ Below w.heap.size w w' := by
  have BL := below_alloc1 w (.cells #[.int .i64 band, .slice T n c] 30)
  have HC := Lib.hid (validStI (c := c) band T n lb ln lf _ hl (hp.kept BL))
  have HQ := Lib.hid (fun (W : World) (hW : Below (w.alloc (.cells #[.int .i64 band, .slice T n c] 30)).heap.size (w.alloc (.cells #[.int .i64 band, .slice T n c] 30)) W) => okQI (c := ca) A na fa W ha ((pa.kept BL).kept hW))
  have HBL := Lib.hid BL
  have hund : undef = Value.tuple #[] := rfl
  unfold mC at h0
  clear hp pa hl BL
  generalize stB band n lb ln lf = r at *
  generalize okQ na fa = r' at *
  cases r with
  | false =>
    clear HQ h0
    go_enter Try.func38, Try.ntmps38
    go_wp2_with fail
    refine HC.out.mono ?_
    rintro e w1 ⟨rfl, hb⟩
    have HB := Lib.hid (HBL.out.trans (hb.mono HBL.out.size))
    clear hb
    go_wp2
    go_ret2
    exact ⟨rfl, HB.out⟩
  | true =>
    obtain rfl : r' = false := h0
    go_enter Try.func38, Try.ntmps38
    go_wp2_with fail
    refine HC.out.mono ?_
    rintro e w1 ⟨rfl, hb⟩
    have HB := Lib.hid (HBL.out.trans (hb.mono HBL.out.size))
    have HQ2 := Lib.hid (HQ.out w1 hb)
    clear hb HQ
    go_wp2_with fail
    refine HQ2.out.mono ?_
    rintro e w2 ⟨rfl, hb⟩
    have HB2 := Lib.hid (HB.out.trans (hb.mono HB.out.size))
    clear hb
    go_wp2
    go_ret2
    exact ⟨rfl, HB2.out⟩
theorem mC_of {band : Int} {n : Nat} {lb : Nat → ByteArray} {ln : Nat → Nat} {lf : Nat → Nat → P3} {na : Nat} {fa : Nat → P3} (h : mC band n lb ln lf na fa = true) : StOk band n lb ln lf ∧ okQ na fa = true := by
  unfold mC at h
  rw [Bool.and_eq_true] at h
  exact ⟨st_iff.1 h.1, h.2⟩
set_option maxRecDepth 100000 in
set_option maxHeartbeats 4000000 in
theorem matS_yes {c ca : Nat} (band : Int) (T A : Option Addr) (n na : Nat) (lb : Nat → ByteArray) (ln : Nat → Nat) (lf : Nat → Nat → P3) (fa : Nat → P3) (w : World) (hl : TsL n lb ln) (ha : na ≤ 1048576) (hp : TsAt w T n lb ln lf) (pa : PtsAt w A na fa) (h0 : mC band n lb ln lf na fa = true) :
    Calls Try.prog 36 #[.agg #[.int .i64 band, .slice T n c], .slice A na ca] w fun e w' => ∃ v, e = .returned (.tuple #[v, .int .i64 0]) ∧ w'.ownsRow w.heap.size 101 2 v (mst na fa ln lf band n).1 (rws (sp2 (mst na fa ln lf band n).2) (mst na fa ln lf band n).1) ∧ Below w.heap.size w w' := by
  obtain ⟨hst, va⟩ := mC_of h0
  have BL := below_alloc1 w (.cells #[.int .i64 band, .slice T n c] 30)
  have HC := Lib.hid (storeOkS (c := c) w.heap.size 0 band T n lb ln lf _ (by simp) (by simp) (by simp) hl (hp.kept BL))
  have HQ := Lib.hid (fun (W : World) (hW : Below (w.alloc (.cells #[.int .i64 band, .slice T n c] 30)).heap.size (w.alloc (.cells #[.int .i64 band, .slice T n c] 30)) W) => okQS (c := ca) A na fa W ha ((pa.kept BL).kept hW))
  have HM := Lib.hid (fun (W : World) (hW : Below (w.alloc (.cells #[.int .i64 band, .slice T n c] 30)).heap.size (w.alloc (.cells #[.int .i64 band, .slice T n c] 30)) W) => matchesS (c := c) (ca := ca) w.heap.size 0 band T A n na lb ln lf fa W (Nat.lt_of_lt_of_le (by simp) hW.size) ((hW.cell (p := ⟨w.heap.size, 0, none⟩) (by simp)).trans (by simp)) ((hW.cell (p := ⟨w.heap.size, 1, none⟩) (by simp)).trans (by simp)) hst va ((hp.kept BL).kept hW) ((pa.kept BL).kept hW))
  have HBL := Lib.hid BL
  have hund : undef = Value.tuple #[] := rfl
  rw [st_iff.2 hst] at HC
  rw [va] at HQ
  clear hp pa hl BL h0 hst va
  generalize mst na fa ln lf band n = G at *
  go_enter Try.func36, Try.ntmps36
  go_wp2_with fail
  refine HC.out.mono ?_
  rintro e w1 ⟨rfl, hb⟩
  have HB := Lib.hid hb
  have HQ2 := Lib.hid (HQ.out w1 hb)
  clear hb HQ
  go_wp2_with fail
  refine HQ2.out.mono ?_
  rintro e w2 ⟨rfl, hb⟩
  have HB2 := Lib.hid (HB.out.trans (hb.mono HB.out.size))
  clear hb
  have HM2 := Lib.hid (HM.out w2 HB2.out)
  clear HM HB
  go_wp2_with fail
  refine HM2.out.mono ?_
  rintro e w3 ⟨g, d, rfl, ho, hb⟩
  have HB3 := Lib.hid (HBL.out.trans ((HB2.out.trans (hb.mono HB2.out.size)).mono HBL.out.size))
  have HO := Lib.hid (row_low (b' := w.heap.size) ho (Nat.le_trans HBL.out.size HB2.out.size))
  clear hb ho
  go_wp2
  go_ret2
  exact ⟨_, rfl, HO.out, HB3.out⟩
set_option maxRecDepth 100000 in
set_option maxHeartbeats 4000000 in
theorem matI_yes {c ca : Nat} (band : Int) (T A : Option Addr) (n na : Nat) (lb : Nat → ByteArray) (ln : Nat → Nat) (lf : Nat → Nat → P3) (fa : Nat → P3) (w : World) (hl : TsL n lb ln) (ha : na ≤ 1048576) (hp : TsAt w T n lb ln lf) (pa : PtsAt w A na fa) (h0 : mC band n lb ln lf na fa = true) :
    Calls Try.prog 38 #[.agg #[.int .i64 band, .slice T n c], .slice A na ca] w fun e w' => ∃ v, e = .returned (.tuple #[v, .int .i64 0]) ∧ w'.ownsRow w.heap.size 101 2 v (mst na fa ln lf band n).1 (rws (sp2 (mst na fa ln lf band n).2) (mst na fa ln lf band n).1) ∧ Below w.heap.size w w' := by
  obtain ⟨hst, va⟩ := mC_of h0
  have BL := below_alloc1 w (.cells #[.int .i64 band, .slice T n c] 30)
  have HC := Lib.hid (validStI (c := c) band T n lb ln lf _ hl (hp.kept BL))
  have HQ := Lib.hid (fun (W : World) (hW : Below (w.alloc (.cells #[.int .i64 band, .slice T n c] 30)).heap.size (w.alloc (.cells #[.int .i64 band, .slice T n c] 30)) W) => okQI (c := ca) A na fa W ha ((pa.kept BL).kept hW))
  have HM := Lib.hid (fun (W : World) (hW : Below (w.alloc (.cells #[.int .i64 band, .slice T n c] 30)).heap.size (w.alloc (.cells #[.int .i64 band, .slice T n c] 30)) W) => matchesI (c := c) (ca := ca) band T A n na lb ln lf fa W hst va ((hp.kept BL).kept hW) ((pa.kept BL).kept hW))
  have HBL := Lib.hid BL
  have K0 := Lib.hid (heap_alloc_new w (.cells #[.int .i64 band, .slice T n c] 30))
  have hund : undef = Value.tuple #[] := rfl
  rw [st_iff.2 hst] at HC
  rw [va] at HQ
  clear hp pa hl BL h0 hst va
  generalize mst na fa ln lf band n = G at *
  go_enter Try.func38, Try.ntmps38
  go_wp2_with fail
  refine HC.out.mono ?_
  rintro e w1 ⟨rfl, hb⟩
  have HB := Lib.hid hb
  have HQ2 := Lib.hid (HQ.out w1 hb)
  clear hb HQ
  go_wp2_with fail
  refine HQ2.out.mono ?_
  rintro e w2 ⟨rfl, hb⟩
  have HB2 := Lib.hid (HB.out.trans (hb.mono HB.out.size))
  have K2 := (HB2.out.block w.heap.size (by simp)).trans K0.out
  have q0 : w2.cell? ⟨w.heap.size, 0, none⟩ = some (.int .i64 band) := by rw [cell_of_block K2]; rfl
  have q1 : w2.cell? ⟨w.heap.size, 1, none⟩ = some (.slice T n c) := by rw [cell_of_block K2]; rfl
  have hz := block_size K2
  clear hb K2
  have HM2 := Lib.hid (HM.out w2 HB2.out)
  clear HM HB
  go_wp2_with fail
  refine HM2.out.mono ?_
  rintro e w3 ⟨D, d, rfl, ho, hb⟩
  have HB3 := Lib.hid (HBL.out.trans ((HB2.out.trans (hb.mono HB2.out.size)).mono HBL.out.size))
  have HO := Lib.hid (row_low (b' := w.heap.size) ho (Nat.le_trans HBL.out.size HB2.out.size))
  clear hb ho
  go_wp2
  go_ret2
  exact ⟨_, rfl, HO.out, HB3.out⟩
end Go.Proofs.Ytkcfghbkcgommaa.mat
