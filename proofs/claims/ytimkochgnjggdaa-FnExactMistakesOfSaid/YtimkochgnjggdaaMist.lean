/-
  Proved: what both functions that tell which samples are classified wrongly return.
  Conditions: none.
-/
import Derived.Test.YtimkochgnjggdaaLes
namespace Go.Proofs.Ytimkochgnjggdaa.mist
open Go.ChangeShapes Go.WideShapes Go.ChangeAt Go.RowKit Go.Joins
open Go.Proofs.Ytimkochgnjggdaa.core Go.Proofs.Ytimkochgnjggdaa.rown Go.Proofs.Ytimkochgnjggdaa.stk Go.Proofs.Ytimkochgnjggdaa.boxed Go.Proofs.Ytimkochgnjggdaa.ft Go.Proofs.Ytimkochgnjggdaa.one1 Go.Proofs.Ytimkochgnjggdaa.lab Go.Proofs.Ytimkochgnjggdaa.per Go.Proofs.Ytimkochgnjggdaa.inp Go.Proofs.Ytimkochgnjggdaa.sco Go.Proofs.Ytimkochgnjggdaa.bst Go.Proofs.Ytimkochgnjggdaa.smp Go.Proofs.Ytimkochgnjggdaa.wts Go.Proofs.Ytimkochgnjggdaa.les
set_option linter.unusedVariables false
set_option linter.unusedSimpArgs false
def vals (l : List Int) : List Value := l.map fun x => .int .i64 x
theorem vals_add (l : List Int) (x : Int) : vals (l ++ [x]) = vals l ++ [.int .i64 x] := by unfold vals; rw [List.map_append]; rfl
def fOf (l : List Int) (j : Nat) : Int := l.getD j 0
theorem vals_rws (l : List Int) : vals l = rws (one (fOf l)) l.length := by
  have hl := rws_len (one_len (fOf l)) l.length
  apply List.ext_getElem?
  intro j
  rcases Nat.lt_or_ge j l.length with h | h
  · have h2 := rws_get (one_len (fOf l)) j 0 (by omega) l.length h
    rw [Nat.mul_one, Nat.add_zero] at h2
    rw [h2]
    unfold vals one fOf
    simp [h]
  · rw [List.getElem?_eq_none (by unfold vals; simpa using h), List.getElem?_eq_none (by omega)]
/-- The places of the first i samples that are classified wrongly. -/
def mst (p : Nat → Bool) : Nat → List Int
  | 0 => []
  | i + 1 => if p i = true then mst p i ++ [(i : Int)] else mst p i
theorem mst_le (p : Nat → Bool) : ∀ i, (mst p i).length ≤ i
  | 0 => Nat.le_refl _
  | i + 1 => by
    have := mst_le p i
    unfold mst
    split
    · rw [List.length_append]; simp; omega
    · omega
theorem mst_mem (p : Nat → Bool) : ∀ i x, x ∈ mst p i → 0 ≤ x ∧ x < (i : Int)
  | 0, x, h => by cases h
  | i + 1, x, h => by
    unfold mst at h
    split at h
    · rw [List.mem_append] at h
      rcases h with h | h
      · have := mst_mem p i x h; omega
      · simp at h; omega
    · have := mst_mem p i x h; omega
/-- Is a sample classified wrongly? -/
def wrong (s lb : Nat → ByteArray) (wf : Nat → Nat → Int) (ln : Nat → Nat) (lf : Nat → Nat → P3) (M i : Nat) : Bool := decide (bst (scr wf (inN (lf i) (ln i))) M ≠ fi s (lb i) (M + 1))
theorem labs_lt {n : Nat} {s : Nat → ByteArray} (h : LabsOk n s) : ∀ d i, i + d + 1 < n → ltB (s i) (s (i + d + 1)) = true
  | 0, i, hi => by
    have := (h.2 (i + 1) hi).2 (by omega)
    rwa [Nat.add_sub_cancel] at this
  | d + 1, i, hi => by
    have h1 := labs_lt h d i (by omega)
    have h2 := (h.2 (i + d + 1 + 1) hi).2 (by omega)
    rw [Nat.add_sub_cancel] at h2
    unfold ltB at h1 h2 ⊢
    rw [Proofs.bytesLess_eq, decide_eq_true_iff] at h1 h2 ⊢
    exact List.lt_trans h1 h2
theorem labs_ne {n : Nat} {s : Nat → ByteArray} (h : LabsOk n s) {i j : Nat} (hij : i < j) (hj : j < n) : s i ≠ s j := fun e => by
  obtain ⟨d, rfl⟩ : ∃ d, j = i + d + 1 := ⟨j - i - 1, by omega⟩
  have := labs_lt h d i hj
  unfold ltB at this
  rw [Proofs.bytesLess_eq, decide_eq_true_iff, e] at this
  exact List.lt_irrefl _ this
theorem same_lab {n : Nat} {s : Nat → ByteArray} (h : LabsOk n s) {t : ByteArray} (hf : fi s t n < n) {b : Nat} (hb : b < n) : s b = t ↔ b = fi s t n := by
  constructor
  · intro e
    have h2 := fi_hit s t n hf
    rcases Nat.lt_trichotomy b (fi s t n) with h' | h' | h'
    · exact absurd (e.trans h2.symm) (labs_ne h h' hf)
    · exact h'
    · exact absurd (h2.trans e.symm) (labs_ne h h' hb)
  · rintro rfl
    exact fi_hit s t n hf
/-- A list of places, or none, and a code. -/
def Mi (w : World) (l : List Int) (code : Int) (e : Ending) (w' : World) : Prop :=
  ∃ v, e = .returned (.tuple #[v, .int .i64 code]) ∧ w'.ownsRow w.heap.size 2 1 v l.length (vals l) ∧ Below w.heap.size w w'
/-- The box of the perceptron. -/
structure PB (w : World) (u v : Value) (W : World) : Prop where
  below : Below w.heap.size w W
  box : W.heap[w.heap.size]? = some (.cells #[u, v] 38 (0, 0))
theorem PB.start (w : World) (u v : Value) : PB w u v (w.alloc (.cells #[u, v] 38)) := ⟨below_alloc1 _ _, heap_alloc_new _ _⟩
theorem PB.lt {w W : World} {u v : Value} (h : PB w u v W) : w.heap.size < W.heap.size := block_size h.box
theorem PB.kept {w W V : World} {u v : Value} (h : PB w u v W) (hb : Below W.heap.size W V) : PB w u v V := ⟨h.below.trans (hb.mono h.below.size), (hb.block _ h.lt).trans h.box⟩
theorem PB.under {w W V : World} {u v : Value} {L : Nat} (h : PB w u v W) (hL : w.heap.size < L) (hb : Below L W V) : PB w u v V := ⟨h.below.trans (hb.mono (by omega)), (hb.block _ (by omega)).trans h.box⟩
theorem PB.cells {w W : World} {u v : Value} (h : PB w u v W) : W.cell? ⟨w.heap.size, 0, none⟩ = some u ∧ W.cell? ⟨w.heap.size, 1, none⟩ = some v := ⟨by rw [cell_of_block h.box]; rfl, by rw [cell_of_block h.box]; rfl⟩
set_option maxRecDepth 100000 in
set_option maxHeartbeats 4000000 in
theorem mistS_no {c d cs : Nat} (A B L : Option Addr) (n m N : Nat) (s : Nat → ByteArray) (wn : Nat → Nat) (wf : Nat → Nat → Int) (lb : Nat → ByteArray) (ln : Nat → Nat) (lf : Nat → Nat → P3) (w : World) (hl : PeL n m s wn) (hs : SmL N lb ln) (hp : SsAt w A n s) (hq : WsAt w B m wn wf) (hr : SmAt w L N lb ln lf) (hv : cdC (peB n m s wn wf) n s N lb ln lf ≠ 0) :
    Calls Try.prog 55 #[.agg #[.slice A n c, .slice B m d], .slice L N cs] w (Mi w [] (cdC (peB n m s wn wf) n s N lb ln lf)) := by
  have HZ := Lib.hid (PB.start w (.slice A n c) (.slice B m d))
  have HC := Lib.hid (codeS (c := c) (d := d) (cs := cs) w.heap.size 0 A B L n m N s wn wf lb ln lf _ HZ.out.lt HZ.out.cells.1 HZ.out.cells.2 hl hs (hp.kept HZ.out.below) (hq.kept HZ.out.below) (hr.kept HZ.out.below))
  have hx0 := HZ.out.cells.1
  have hx1 := HZ.out.cells.2
  clear hl hs hp hq hr
  obtain ⟨k, hk⟩ : ∃ k, cdC (peB n m s wn wf) n s N lb ln lf = k := ⟨_, rfl⟩
  rw [hk] at HC hv ⊢
  have hne2 : (k != 0) = true := by simpa using hv
  have hne3 : (k == 0) = false := by simpa using hv
  unfold Mi
  clear hk
  go_enter Try.func55, Try.ntmps55
  go_wp2_with fail
  refine HC.out.mono ?_
  rintro e w1 ⟨rfl, hb⟩
  have HB := Lib.hid (HZ.out.kept hb).below
  clear hb hx0 hx1
  go_wp2
  go_ret2
  exact ⟨.slice none 0 0, rfl, World.ownsRow_nil _ _ _ _, HB.out⟩
set_option maxRecDepth 100000 in
set_option maxHeartbeats 4000000 in
theorem mistI_no {c d cs : Nat} (A B L : Option Addr) (n m N : Nat) (s : Nat → ByteArray) (wn : Nat → Nat) (wf : Nat → Nat → Int) (lb : Nat → ByteArray) (ln : Nat → Nat) (lf : Nat → Nat → P3) (w : World) (hl : PeL n m s wn) (hs : SmL N lb ln) (hp : SsAt w A n s) (hq : WsAt w B m wn wf) (hr : SmAt w L N lb ln lf) (hv : cdC (peB n m s wn wf) n s N lb ln lf ≠ 0) :
    Calls Try.prog 56 #[.agg #[.slice A n c, .slice B m d], .slice L N cs] w (Mi w [] (cdC (peB n m s wn wf) n s N lb ln lf)) := by
  have HZ := Lib.hid (PB.start w (.slice A n c) (.slice B m d))
  have HC := Lib.hid (codeI (c := c) (d := d) (cs := cs) A B L n m N s wn wf lb ln lf (w.alloc (.cells #[.slice A n c, .slice B m d] 38)) hl hs (hp.kept HZ.out.below) (hq.kept HZ.out.below) (hr.kept HZ.out.below))
  have hx0 := HZ.out.cells.1
  have hx1 := HZ.out.cells.2
  clear hl hs hp hq hr
  obtain ⟨k, hk⟩ : ∃ k, cdC (peB n m s wn wf) n s N lb ln lf = k := ⟨_, rfl⟩
  rw [hk] at HC hv ⊢
  have hne2 : (k != 0) = true := by simpa using hv
  have hne3 : (k == 0) = false := by simpa using hv
  unfold Mi
  clear hk
  go_enter Try.func56, Try.ntmps56
  go_wp2_with fail
  refine HC.out.mono ?_
  rintro e w1 ⟨rfl, hb⟩
  have HB := Lib.hid (HZ.out.kept hb).below
  clear hb hx0 hx1
  go_wp2
  go_ret2
  exact ⟨.slice none 0 0, rfl, World.ownsRow_nil _ _ _ _, HB.out⟩
set_option maxRecDepth 100000 in
set_option maxHeartbeats 8000000 in
theorem mistS_yes {c d cs : Nat} (A B L : Option Addr) (M m N : Nat) (s : Nat → ByteArray) (wn : Nat → Nat) (wf : Nat → Nat → Int) (lb : Nat → ByteArray) (ln : Nat → Nat) (lf : Nat → Nat → P3) (w : World) (hl : PeL (M + 1) m s wn) (hs : SmL N lb ln) (hp : SsAt w A (M + 1) s) (hq : WsAt w B m wn wf) (hr : SmAt w L N lb ln lf) (hv : cdC (peB (M + 1) m s wn wf) (M + 1) s N lb ln lf = 0) :
    Calls Try.prog 55 #[.agg #[.slice A (M + 1) c, .slice B m d], .slice L N cs] w (Mi w (mst (wrong s lb wf ln lf M) N) 0) := by
  obtain ⟨i0, hi0, hz0, hz1, hz2⟩ := rown.info_get infoI
  obtain ⟨v1, v2, v3, hN⟩ := cd_of hv
  obtain ⟨hlb, hmn, hrows⟩ := pe_iff.1 v1
  have hM : M + 1 ≤ 12 := hlb.1.2
  subst hmn
  have HZ := Lib.hid (PB.start w (.slice A (M + 1) c) (.slice B (M + 1) d))
  have HC := Lib.hid (codeS (c := c) (d := d) (cs := cs) w.heap.size 0 A B L (M + 1) (M + 1) N s wn wf lb ln lf _ HZ.out.lt HZ.out.cells.1 HZ.out.cells.2 hl hs (hp.kept HZ.out.below) (hq.kept HZ.out.below) (hr.kept HZ.out.below))
  rw [hv] at HC
  have hx0 := HZ.out.cells.1
  have hx1 := HZ.out.cells.2
  have HP := Lib.hid hp
  have HQ := Lib.hid hq
  have HR := Lib.hid hr
  have HOK := Lib.hid (show ∀ i, i < N → okF (ln i) (lf i) = true from fun i hi => by have h := v2 i hi; unfold smB at h; rw [Bool.and_eq_true] at h; exact h.2)
  have HWR := Lib.hid (show ∀ i b, i < N → b < M + 1 → ((s b = lb i) ↔ b = fi s (lb i) (M + 1)) from fun i b hi hb => same_lab hlb (v3 i hi) hb)
  have HRW := Lib.hid hrows
  have HW3 := Lib.hid v3
  have HMS := Lib.hid (show ∀ i, mst (wrong s lb wf ln lf M) (i + 1) = if wrong s lb wf ln lf M i = true then mst (wrong s lb wf ln lf M) i ++ [(i : Int)] else mst (wrong s lb wf ln lf M) i from fun i => rfl)
  have HML := Lib.hid (mst_le (wrong s lb wf ln lf M))
  have HWD := Lib.hid (show ∀ i, wrong s lb wf ln lf M i = decide (bst (scr wf (inN (lf i) (ln i))) M ≠ fi s (lb i) (M + 1)) from fun i => rfl)
  have HM0 := Lib.hid (show mst (wrong s lb wf ln lf M) 0 = [] from rfl)
  obtain ⟨pp, hpp⟩ : ∃ pp, wrong s lb wf ln lf M = pp := ⟨_, rfl⟩
  obtain ⟨ms, hms⟩ : ∃ ms, mst pp = ms := ⟨_, rfl⟩
  rw [hpp] at HMS HML HWD HM0 ⊢
  rw [hms] at HMS HML HM0 ⊢
  have hln := hl.hn
  have HSMB := Lib.hid hs.l
  unfold Mi
  clear hl hs hp hq hr hv hlb hrows v1 v2 v3 hpp hms
  go_enter Try.func55, Try.ntmps55
  go_wp2_with fail
  refine HC.out.mono ?_
  rintro e w0 ⟨rfl, hb⟩
  have HZ0 := Lib.hid (HZ.out.kept hb)
  clear hb hx0 hx1 HC HZ
  obtain ⟨w1, hw1⟩ : ∃ w1, w1 = w0 := ⟨_, rfl⟩
  rw [← hw1] at HZ0 ⊢
  clear hw1
  have HE := Lib.hid (empty_row w1 2 1)
  have BE := Lib.hid (below_alloc1 w1 (.cells #[] 2))
  have HZ1 := HZ0
  go_wp2
  go_loopw [7, 8] (fun o i w' => ∃ (k C l : Nat) (D : Option Addr), k ≤ N ∧ i = .int .i64 (k : Int) ∧ o = .slice D l C ∧ l = (ms k).length ∧ Hid (w'.ownsRow w1.heap.size 2 1 (.slice D l C) l (vals (ms k))) ∧ Hid (Below w1.heap.size w1 w')) (fun _ i _ => N - (intOf i).toNat)
  case atStart => exact ⟨0, 0, 0, _, Nat.zero_le _, rfl, rfl, by rw [HM0.out]; rfl, Lib.hid (by rw [HM0.out]; exact HE.out), BE⟩
  case round =>
    obtain ⟨k, C, l, D, hk, rfl, rfl, hl, HO, HB⟩ := hrel
    have HZR := Lib.hid (HZ1.out.under HZ1.out.lt HB.out)
    have HBW := Lib.hid HZR.out.below
    by_cases hlt : k < N
    · obtain ⟨b1, o1, Ai, ci, rfl, hb1, p0, p1, hfe⟩ := (HR.out.kept HBW.out) k hlt
      have hli : (k : Int) < (N : Int) := by omega
      have hokj := HOK.out k hlt
      have HFE := Lib.hid hfe
      have hll := HML.out k
      have HMK := Lib.hid (HMS.out k)
      have HWK := Lib.hid (HWD.out k)
      have HLL := Lib.hid hl
      obtain ⟨LL, hLL⟩ : ∃ LL, ms k = LL := ⟨_, rfl⟩
      rw [hLL] at HO HMK HLL hll
      have HL0 := Lib.hid (show l = LL.length by rw [← hLL]; exact hl)
      have hl40 : l ≤ 40 := by rw [HLL.out]; omega
      have Z3 := Lib.hid (show l + 1 ≤ maxLen by simp only [maxLen]; omega)
      have Z4 := Lib.hid (show (l + 1) * 8 ≤ 140737488355328 by omega)
      have HFK := Lib.hid (HWR.out k)
      have hfk := HW3.out k hlt
      obtain ⟨q0, q1⟩ := HZR.out.cells
      have qz := HZR.out.lt
      have HXI := Lib.hid (show InX (inN (lf k) (ln k)) from fun j hj => inN_in (okF_of hokj).1 j)
      have hbl := bst_le (scr wf (inN (lf k) (ln k))) M
      have HIN := Lib.hid (fun (W : World) (hW : Below wr.heap.size wr W) => (inputS (c := ci) Ai (ln k) (lf k) W (HFE.out.kept hW) hokj).mono (fun e w' h => (h.elim fun g h => ⟨g, h.1, num_row h.2.1, h.2.2⟩ : ∃ g, e = .returned (.slice (some ⟨g, 0, none⟩) 25 25) ∧ NumAt w' (some ⟨g, 0, none⟩) 25 (inN (lf k) (ln k)) ∧ Below W.heap.size W w')))
      have HSC := Lib.hid (fun (W : World) (X : Option Addr) (hW : Below wr.heap.size wr W) (c1 : W.cell? ⟨w.heap.size, 0 + 1, none⟩ = some (.slice B (M + 1) d)) (hx : NumAt W X 25 (inN (lf k) (ln k))) => (scoresS (dx := 25) w.heap.size 0 B X (M + 1) wn wf (inN (lf k) (ln k)) W (Nat.lt_of_lt_of_le qz hW.size) c1 hM HRW.out HXI.out ((HQ.out.kept HBW.out).kept hW) hx).mono (fun e w' h => (h.elim fun v h => (own_sl h.2.1 (by decide)).elim fun A' h2 => h2.elim fun c' h2 => ⟨A', c', by rw [h.1, h2], num_row (by rw [← h2]; exact h.2.1), h.2.2⟩ : ∃ A' c', e = .returned (.slice A' (M + 1) c') ∧ NumAt w' A' (M + 1) (scr wf (inN (lf k) (ln k))) ∧ Below W.heap.size W w')))
      obtain ⟨x, hx⟩ : ∃ x, inN (lf k) (ln k) = x := ⟨_, rfl⟩
      rw [hx] at HIN HSC HWK hbl
      obtain ⟨FF, hFF⟩ : ∃ FF, scr wf x = FF := ⟨_, rfl⟩
      rw [hFF] at HSC HWK hbl
      obtain ⟨bb, hbb⟩ : ∃ bb, bst FF M = bb := ⟨_, rfl⟩
      have HBE := Lib.hid (fun (W : World) (A' : Option Addr) (c' : Nat) (h : NumAt W A' (M + 1) FF) => bestS (c := c') A' M FF W (by omega) h)
      rw [hbb] at HBE HWK hbl
      obtain ⟨bl, ol, hA, hbl1, p2⟩ := (HP.out.kept HBW.out) bb (by omega)
      subst hA
      have HFB := Lib.hid (HFK.out bb hlt (by omega))
      obtain ⟨y, hy⟩ : ∃ y, s bb = y := ⟨_, rfl⟩
      obtain ⟨t, ht⟩ : ∃ t, lb k = t := ⟨_, rfl⟩
      rw [hy] at p2 HFB
      rw [ht] at p0 HFB HWK hfk
      obtain ⟨q, hq⟩ : ∃ q, ln k = q := ⟨_, rfl⟩
      rw [hq] at p1 HIN
      have hbn : bb < M + 1 := by omega
      have hbi : (bb : Int) < (M : Int) + 1 := by omega
      have hb0i : (0 : Int) ≤ (bb : Int) := by omega
      have HSM := Lib.hid (show ∀ V, Below wr.heap.size wr V → V.cell? ⟨w.heap.size, 0, none⟩ = some (.slice (some ⟨bl, ol, none⟩) (M + 1) c) ∧ V.cell? ⟨w.heap.size, 1, none⟩ = some (.slice B (M + 1) d) ∧ V.cell? ⟨b1, o1 + k * 2, none⟩ = some (.string t) ∧ V.cell? ⟨b1, o1 + k * 2 + 1, none⟩ = some (.slice Ai q ci) ∧ V.cell? ⟨bl, ol + bb, none⟩ = some (.string y) ∧ Below wr.heap.size wr V from fun V hV => ⟨(hV.cell (p := ⟨w.heap.size, 0, none⟩) qz).trans q0, (hV.cell (p := ⟨w.heap.size, 1, none⟩) qz).trans q1, (hV.cell (p := ⟨b1, o1 + k * 2, none⟩) hb1).trans p0, (hV.cell (p := ⟨b1, o1 + k * 2 + 1, none⟩) hb1).trans p1, (hV.cell (p := ⟨bl, ol + bb, none⟩) hbl1).trans p2, hV⟩)
      have BD := Lib.hid ((Below.refl wr.heap.size wr).drew)
      have hkd := HSM.out _ BD.out
      obtain ⟨v, hv⟩ : ∃ v, pp k = v := ⟨_, rfl⟩
      rw [hv] at HMK HWK
      have hcmp : (y.toList == t.toList) = !v := by
        cases v with
        | true =>
          have h1 := of_decide_eq_true HWK.out.symm
          exact str_ne (fun e => h1 (HFB.out.1 e))
        | false =>
          have h1 := of_decide_eq_false HWK.out.symm
          have h2 := HFB.out.2 (Classical.not_not.1 h1)
          rw [h2]
          simp
      clear hl HLL
      clear hx hFF hbb hy ht hq hv hfe hokj hLL HWK HFB HFK hfk hbl HXI
      go_upto_region 8 with fail
      go_cut [38] (fun z wx => z = .bool v ∧ Hid (Below wr.heap.size wr wx))
      case first =>
        cases v
        all_goals
          simp only [Bool.not_true, Bool.not_false] at hcmp
          go_region_held3 (fun V => V.cell? ⟨w.heap.size, 0, none⟩ = some (.slice (some ⟨bl, ol, none⟩) (M + 1) c) ∧ V.cell? ⟨w.heap.size, 1, none⟩ = some (.slice B (M + 1) d) ∧ V.cell? ⟨b1, o1 + k * 2, none⟩ = some (.string t) ∧ V.cell? ⟨b1, o1 + k * 2 + 1, none⟩ = some (.slice Ai q ci) ∧ V.cell? ⟨bl, ol + bb, none⟩ = some (.string y) ∧ Below wr.heap.size wr V) (first | assumption | exact hkd | go_keep)
            (first
              | (go_at_call 58; (with_reducible refine (HIN.out _ BD.out).mono ?_); rintro e wa ⟨g, rfl, hxa, hba⟩; have HXA := Lib.hid hxa; have HBA := Lib.hid (BD.out.trans (hba.mono BD.out.size)); have hk2 := HSM.out _ HBA.out; clear hxa hba)
              | (go_at_call 80; (with_reducible refine (HSC.out _ _ HBA.out hk2.2.1 HXA.out).mono ?_); rintro e ws ⟨A', c', rfl, hsa, hbs⟩; have HSA := Lib.hid hsa; have HBS := Lib.hid (HBA.out.trans (hbs.mono HBA.out.size)); have hk3 := HSM.out _ HBS.out; clear hsa hbs)
              | (go_at_call 82; (with_reducible refine (HBE.out _ _ _ HSA.out).mono ?_); rintro e wt ⟨rfl, hbt⟩; have HBT := Lib.hid (HBS.out.trans (hbt.mono HBS.out.size)); have hk4 := HSM.out _ HBT.out; clear hbt))
          all_goals
            rename_i hh
            have HH := Lib.hid hh.2.2.2.2.2
            clear hh
            go_wp2_with fail
            go_meet
            exact ⟨rfl, HH⟩
      case rest =>
        obtain ⟨rfl, HBX⟩ := hcut
        clear HSM hkd hcmp
        cases v with
        | false =>
          have HN := Lib.hid (show ms (k + 1) = LL by rw [HMK.out]; rfl)
          have HLN := Lib.hid (show l = (ms (k + 1)).length by rw [HN.out]; exact HL0.out)
          go_wp2
          go_roundw
          case rel => exact ⟨k + 1, C, l, D, hlt, by go_num, rfl, HLN.out, Lib.hid (by rw [HN.out]; exact rown.ownsRow_kept HO.out HBX.out), Lib.hid (HB.out.trans (HBX.out.mono HB.out.size))⟩
          case measure => simp [intOf]; omega
        | true =>
          have HN := Lib.hid (show ms (k + 1) = LL ++ [(k : Int)] by rw [HMK.out]; rfl)
          have HLN := Lib.hid (show l + 1 = (ms (k + 1)).length by rw [HN.out, List.length_append, ← HL0.out]; rfl)
          go_wp2_with (first
          | (at_builtin
             have z0 := rown.ownsRow_kept HO.out (HBX.out.trans ((below_alloc1 wc (.cells #[.int .i64 (k : Int)] 2)).mono HBX.out.size))
             have z2 : ∀ u' ∈ [Value.int .i64 (k : Int)], u'.oneCell' = true := (by simp [Value.oneCell'])
             have z5 : w1.heap.size ≤ (wc.alloc (.cells #[.int .i64 (k : Int)] 2)).heap.size := (Nat.le_trans HB.out.size (Nat.le_trans HBX.out.size (by simp)))
             refine wpList_append_lies (wc.alloc (.cells #[.int .i64 (k : Int)] 2)) rfl _ _ 24 rfl w1.heap.size 2 i0 _ 1 8 Try.underlying24 hi0 hz0 hz1 hz2 rfl (by decide) (.slice D l C) l (vals LL) rfl z0 ⟨wc.heap.size, 0, none⟩ 1 1 [.int .i64 (k : Int)] rfl rfl (one_newC rfl) z2 (by decide) Z3.out Z4.out z5 _ rfl ?_
             intro g3 cap3 w5 hown1 hgr hat hlt3
             have HO4 := Lib.hid hown1
             have HB4 := Lib.hid (HB.out.trans ((HBX.out.mono HB.out.size).trans (rown.under (rown.ownsRow_kept HO.out HBX.out) (Nat.le_trans HB.out.size HBX.out.size) hgr)))
             clear hown1 hgr hat z0 z2 z5))
          go_roundw
          case rel => exact ⟨k + 1, cap3, l + 1, some ⟨g3, 0, none⟩, hlt, by go_num, rfl, HLN.out, Lib.hid (by rw [HN.out, vals_add]; exact HO4.out), HB4⟩
          case measure => simp [intOf]; omega
    · obtain rfl : k = N := by omega
      go_wp2
      go_ret2
      exact ⟨_, rfl, by rw [← hl]; exact row_low HO.out HZ1.out.below.size, HZR.out.below⟩
set_option maxRecDepth 100000 in
set_option maxHeartbeats 8000000 in
theorem mistI_yes {c d cs : Nat} (A B L : Option Addr) (M m N : Nat) (s : Nat → ByteArray) (wn : Nat → Nat) (wf : Nat → Nat → Int) (lb : Nat → ByteArray) (ln : Nat → Nat) (lf : Nat → Nat → P3) (w : World) (hl : PeL (M + 1) m s wn) (hs : SmL N lb ln) (hp : SsAt w A (M + 1) s) (hq : WsAt w B m wn wf) (hr : SmAt w L N lb ln lf) (hv : cdC (peB (M + 1) m s wn wf) (M + 1) s N lb ln lf = 0) :
    Calls Try.prog 56 #[.agg #[.slice A (M + 1) c, .slice B m d], .slice L N cs] w (Mi w (mst (wrong s lb wf ln lf M) N) 0) := by
  obtain ⟨i0, hi0, hz0, hz1, hz2⟩ := rown.info_get infoI
  obtain ⟨v1, v2, v3, hN⟩ := cd_of hv
  obtain ⟨hlb, hmn, hrows⟩ := pe_iff.1 v1
  have hM : M + 1 ≤ 12 := hlb.1.2
  subst hmn
  have HZ := Lib.hid (PB.start w (.slice A (M + 1) c) (.slice B (M + 1) d))
  have HC := Lib.hid (codeI (c := c) (d := d) (cs := cs) A B L (M + 1) (M + 1) N s wn wf lb ln lf (w.alloc (.cells #[.slice A (M + 1) c, .slice B (M + 1) d] 38)) hl hs (hp.kept HZ.out.below) (hq.kept HZ.out.below) (hr.kept HZ.out.below))
  rw [hv] at HC
  have hx0 := HZ.out.cells.1
  have hx1 := HZ.out.cells.2
  have HP := Lib.hid hp
  have HQ := Lib.hid hq
  have HR := Lib.hid hr
  have HOK := Lib.hid (show ∀ i, i < N → okF (ln i) (lf i) = true from fun i hi => by have h := v2 i hi; unfold smB at h; rw [Bool.and_eq_true] at h; exact h.2)
  have HWR := Lib.hid (show ∀ i b, i < N → b < M + 1 → ((s b = lb i) ↔ b = fi s (lb i) (M + 1)) from fun i b hi hb => same_lab hlb (v3 i hi) hb)
  have HRW := Lib.hid hrows
  have HW3 := Lib.hid v3
  have HMS := Lib.hid (show ∀ i, mst (wrong s lb wf ln lf M) (i + 1) = if wrong s lb wf ln lf M i = true then mst (wrong s lb wf ln lf M) i ++ [(i : Int)] else mst (wrong s lb wf ln lf M) i from fun i => rfl)
  have HML := Lib.hid (mst_le (wrong s lb wf ln lf M))
  have HWD := Lib.hid (show ∀ i, wrong s lb wf ln lf M i = decide (bst (scr wf (inN (lf i) (ln i))) M ≠ fi s (lb i) (M + 1)) from fun i => rfl)
  have HM0 := Lib.hid (show mst (wrong s lb wf ln lf M) 0 = [] from rfl)
  obtain ⟨pp, hpp⟩ : ∃ pp, wrong s lb wf ln lf M = pp := ⟨_, rfl⟩
  obtain ⟨ms, hms⟩ : ∃ ms, mst pp = ms := ⟨_, rfl⟩
  rw [hpp] at HMS HML HWD HM0 ⊢
  rw [hms] at HMS HML HM0 ⊢
  have hln := hl.hn
  have HSMB := Lib.hid hs.l
  unfold Mi
  clear hl hs hp hq hr hv hlb hrows v1 v2 v3 hpp hms
  go_enter Try.func56, Try.ntmps56
  go_wp2_with fail
  refine HC.out.mono ?_
  rintro e w0 ⟨rfl, hb⟩
  have HZ0 := Lib.hid (HZ.out.kept hb)
  clear hb hx0 hx1 HC HZ
  have HLE := Lib.hid (lessonsI (c := c) (d := d) (cs := cs) A B L (M + 1) (M + 1) N s lb ln lf w0 hln hN (HP.out.kept HZ0.out.below) (HR.out.kept HZ0.out.below) HOK.out HW3.out)
  obtain ⟨y0, y1⟩ := HZ0.out.cells
  have yz := HZ0.out.lt
  go_wp2_with fail
  refine HLE.out.mono ?_
  rintro e w1 ⟨DL, CL, gi, rfl, hle, hb⟩
  have HLD := Lib.hid hle
  have HZ1 := Lib.hid (HZ0.out.kept hb)
  have HWZ := Lib.hid HZ0.out.lt
  clear hle hb y0 y1 yz HLE
  go_wp2
  go_loopw [7, 20] (fun o i w' => ∃ (k C l : Nat) (D : Option Addr), k ≤ N ∧ i = .int .i64 (k : Int) ∧ o = .slice D l C ∧ l = (ms k).length ∧ Hid (w'.ownsRow w1.heap.size 2 1 (.slice D l C) l (vals (ms k))) ∧ Hid (Below w1.heap.size w1 w')) (fun _ i _ => N - (intOf i).toNat)
  case atStart => exact ⟨0, 0, 0, _, Nat.zero_le _, rfl, rfl, by rw [HM0.out]; rfl, Lib.hid (by rw [HM0.out]; exact World.ownsRow_nil _ _ _ _), Lib.hid (Below.refl _ _)⟩
  case round =>
    obtain ⟨k, C, l, D, hk, rfl, rfl, hl, HO, HB⟩ := hrel
    have HZR := Lib.hid (HZ1.out.under HZ1.out.lt HB.out)
    have HBW := Lib.hid HZR.out.below
    by_cases hlt : k < N
    · obtain ⟨b1, o1, Ai, ci, rfl, hb1, p0, p1, hfe⟩ := (HR.out.kept HBW.out) k hlt
      have hli : (k : Int) < (N : Int) := by omega
      have hokj := HOK.out k hlt
      have HFE := Lib.hid hfe
      have hll := HML.out k
      have HMK := Lib.hid (HMS.out k)
      have HWK := Lib.hid (HWD.out k)
      have HLL := Lib.hid hl
      obtain ⟨LL, hLL⟩ : ∃ LL, ms k = LL := ⟨_, rfl⟩
      rw [hLL] at HO HMK HLL hll
      have HL0 := Lib.hid (show l = LL.length by rw [← hLL]; exact hl)
      have hl40 : l ≤ 40 := by rw [HLL.out]; omega
      have Z3 := Lib.hid (show l + 1 ≤ maxLen by simp only [maxLen]; omega)
      have Z4 := Lib.hid (show (l + 1) * 8 ≤ 140737488355328 by omega)
      have HFK := Lib.hid (HWR.out k)
      have hfk := HW3.out k hlt
      obtain ⟨q0, q1⟩ := HZR.out.cells
      have qz := HZR.out.lt
      have HXI := Lib.hid (show InX (inN (lf k) (ln k)) from fun j hj => inN_in (okF_of hokj).1 j)
      have hbl := bst_le (scr wf (inN (lf k) (ln k))) M
      have HLDR := Lib.hid (HLD.out.kept HB.out)
      obtain ⟨gl, rfl, hgl, x0, x1, hnum⟩ := HLD.out.at hlt
      have y0 := (HB.out.cell (p := ⟨gl, k * 2, none⟩) hgl).trans x0
      have y1 := (HB.out.cell (p := ⟨gl, k * 2 + 1, none⟩) hgl).trans x1
      have hgz := Nat.lt_of_lt_of_le hgl HB.out.size
      have HNU := Lib.hid (hnum.kept HB.out)
      have HGU := Lib.hid (fun (W : World) (hW : Below wr.heap.size wr W) => guessI (c := c) (d := d) (dx := 25) A B (some ⟨gi k, 0, none⟩) (M + 1) M wn wf (inN (lf k) (ln k)) W hM HRW.out HXI.out ((HQ.out.kept HBW.out).kept hW) (HNU.out.kept hW))
      obtain ⟨x, hx⟩ : ∃ x, inN (lf k) (ln k) = x := ⟨_, rfl⟩
      rw [hx] at HGU HWK hbl
      obtain ⟨FF, hFF⟩ : ∃ FF, scr wf x = FF := ⟨_, rfl⟩
      rw [hFF] at HGU HWK hbl
      obtain ⟨bb, hbb⟩ : ∃ bb, bst FF M = bb := ⟨_, rfl⟩
      rw [hbb] at HGU HWK hbl
      obtain ⟨rk, hrk⟩ : ∃ rk, fi s (lb k) (M + 1) = rk := ⟨_, rfl⟩
      rw [hrk] at y1 HWK hfk
      obtain ⟨gk, hgk⟩ : ∃ gk, gi k = gk := ⟨_, rfl⟩
      rw [hgk] at y0 HGU
      obtain ⟨v, hv⟩ : ∃ v, pp k = v := ⟨_, rfl⟩
      rw [hv] at HMK HWK
      have hcmp : ((bb : Int) == (rk : Int)) = !v := by
        cases v with
        | true =>
          have h1 := of_decide_eq_true HWK.out.symm
          simp
          omega
        | false =>
          have h1 := of_decide_eq_false HWK.out.symm
          simp
          omega
      have hcmp2 : ((bb : Int) != (rk : Int)) = v := by
        show (!((bb : Int) == (rk : Int))) = v
        rw [hcmp, Bool.not_not]
      have HPX := Lib.hid (show PB w (.slice A (M + 1) c) (.slice B (M + 1) d) (wr.alloc (.cells #[.slice (some ⟨gk, 0, none⟩) 25 25, .int .i64 (rk : Int)] 113)) from HZR.out.kept (below_alloc1 _ _))
      have HBX0 := Lib.hid (below_alloc1 wr (.cells #[.slice (some ⟨gk, 0, none⟩) 25 25, .int .i64 (rk : Int)] 113))
      have HK9 := Lib.hid (heap_alloc_new wr (.cells #[.slice (some ⟨gk, 0, none⟩) 25 25, .int .i64 (rk : Int)] 113))
      clear hl HLL
      clear hx hFF hbb hrk hgk hv hfe hokj hLL HWK HFK hfk hbl HXI p0 p1 x0 x1 hnum q0 q1 qz
      go_upto_region 7 with fail
      go_cut [8, 9] (fun z8 z9 wx => z8 = .int .i64 (k : Int) ∧ z9 = .pointer (some ⟨wr.heap.size, 0, none⟩) ∧ Hid (Below wr.heap.size wr wx) ∧ Hid (wx.heap[wr.heap.size]? = some (.cells #[.slice (some ⟨gk, 0, none⟩) 25 25, .int .i64 (rk : Int)] 113 (0, 0))))
      case first =>
        go_wp2
        go_meet
        exact ⟨rfl, rfl, HBX0, HK9⟩
      case rest =>
        obtain ⟨rfl, rfl, HBC, HKC⟩ := hcut
        clear HBX0 HK9 y0 y1 HPX hgz
        have HSM := Lib.hid (show ∀ V, Below wc.heap.size wc V → V.cell? ⟨w.heap.size, 0, none⟩ = some (.slice A (M + 1) c) ∧ V.cell? ⟨w.heap.size, 1, none⟩ = some (.slice B (M + 1) d) ∧ V.cell? ⟨wr.heap.size, 0, none⟩ = some (.slice (some ⟨gk, 0, none⟩) 25 25) ∧ V.cell? ⟨wr.heap.size, 1, none⟩ = some (.int .i64 (rk : Int)) ∧ Below wr.heap.size wr V from fun V hV => by
          have hz := (HZR.out.kept HBC.out).kept hV
          have e := (hV.block _ (block_size HKC.out)).trans HKC.out
          exact ⟨hz.cells.1, hz.cells.2, by rw [cell_of_block e]; rfl, by rw [cell_of_block e]; rfl, HBC.out.trans (hV.mono HBC.out.size)⟩)
        have BD := Lib.hid ((Below.refl wc.heap.size wc).drew)
        have hkd := HSM.out _ BD.out
        have hk0 := HSM.out _ (Below.refl _ _)
        go_upto_region 8 with fail
        go_cut [31] (fun z wx => z = .bool v ∧ Hid (Below wr.heap.size wr wx))
        case first =>
          cases v
          all_goals
            simp only [Bool.not_true, Bool.not_false] at hcmp
            go_region_held3 (fun V => V.cell? ⟨w.heap.size, 0, none⟩ = some (.slice A (M + 1) c) ∧ V.cell? ⟨w.heap.size, 1, none⟩ = some (.slice B (M + 1) d) ∧ V.cell? ⟨wr.heap.size, 0, none⟩ = some (.slice (some ⟨gk, 0, none⟩) 25 25) ∧ V.cell? ⟨wr.heap.size, 1, none⟩ = some (.int .i64 (rk : Int)) ∧ Below wr.heap.size wr V) (first | assumption | exact hkd | go_keep)
              (first | (go_at_call 96; (with_reducible refine (HGU.out _ hkd.2.2.2.2).mono ?_); rintro e wt ⟨rfl, hbt⟩; have hk4 := HSM.out _ (BD.out.trans (hbt.mono BD.out.size)); clear hbt))
            all_goals
              rename_i hh
              have HH := Lib.hid hh.2.2.2.2
              clear hh
              go_wp2_with fail
              go_meet
              exact ⟨rfl, HH⟩
        case rest =>
          obtain ⟨rfl, HBX⟩ := hcut
          clear HSM hkd hcmp
          cases v with
          | false =>
            have HN := Lib.hid (show ms (k + 1) = LL by rw [HMK.out]; rfl)
            have HLN := Lib.hid (show l = (ms (k + 1)).length by rw [HN.out]; exact HL0.out)
            go_wp2
            go_roundw
            case rel => exact ⟨k + 1, C, l, D, hlt, by go_num, rfl, HLN.out, Lib.hid (by rw [HN.out]; exact rown.ownsRow_kept HO.out HBX.out), Lib.hid (HB.out.trans (HBX.out.mono HB.out.size))⟩
            case measure => simp [intOf]; omega
          | true =>
            have HN := Lib.hid (show ms (k + 1) = LL ++ [(k : Int)] by rw [HMK.out]; rfl)
            have HLN := Lib.hid (show l + 1 = (ms (k + 1)).length by rw [HN.out, List.length_append, ← HL0.out]; rfl)
            go_wp2_with (first
            | (at_builtin
               have z0 := rown.ownsRow_kept HO.out (HBX.out.trans ((below_alloc1 wc (.cells #[.int .i64 (k : Int)] 2)).mono HBX.out.size))
               have z2 : ∀ u' ∈ [Value.int .i64 (k : Int)], u'.oneCell' = true := (by simp [Value.oneCell'])
               have z5 : w1.heap.size ≤ (wc.alloc (.cells #[.int .i64 (k : Int)] 2)).heap.size := (Nat.le_trans HB.out.size (Nat.le_trans HBX.out.size (by simp)))
               refine wpList_append_lies (wc.alloc (.cells #[.int .i64 (k : Int)] 2)) rfl _ _ 24 rfl w1.heap.size 2 i0 _ 1 8 Try.underlying24 hi0 hz0 hz1 hz2 rfl (by decide) (.slice D l C) l (vals LL) rfl z0 ⟨wc.heap.size, 0, none⟩ 1 1 [.int .i64 (k : Int)] rfl rfl (one_newC rfl) z2 (by decide) Z3.out Z4.out z5 _ rfl ?_
               intro g3 cap3 w5 hown1 hgr hat hlt3
               have HO4 := Lib.hid hown1
               have HB4 := Lib.hid (HB.out.trans ((HBX.out.mono HB.out.size).trans (rown.under (rown.ownsRow_kept HO.out HBX.out) (Nat.le_trans HB.out.size HBX.out.size) hgr)))
               clear hown1 hgr hat z0 z2 z5))
            go_roundw
            case rel => exact ⟨k + 1, cap3, l + 1, some ⟨g3, 0, none⟩, hlt, by go_num, rfl, HLN.out, Lib.hid (by rw [HN.out, vals_add]; exact HO4.out), HB4⟩
            case measure => simp [intOf]; omega
    · obtain rfl : k = N := by omega
      go_wp2
      go_ret2
      exact ⟨_, rfl, by rw [← hl]; exact row_low HO.out HZ1.out.below.size, HZR.out.below⟩
end Go.Proofs.Ytimkochgnjggdaa.mist
