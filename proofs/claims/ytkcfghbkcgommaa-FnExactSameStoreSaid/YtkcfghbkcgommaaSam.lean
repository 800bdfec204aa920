/-
  Proved: both functions that compare two stores return the same answer.
  Conditions: none.
-/
import Derived.Test.YtkcfghbkcgommaaStoV
import Derived.Test.YtkcfghbkcgommaaMSameFeats
namespace Go.Proofs.Ytkcfghbkcgommaa.sto
open Go.ChangeShapes Go.WideShapes Go.ChangeAt Go.RowKit Go.Joins
open Go.Proofs.Ytkcfghbkcgommaa.core Go.Proofs.Ytkcfghbkcgommaa.rown Go.Proofs.Ytkcfghbkcgommaa.stk Go.Proofs.Ytkcfghbkcgommaa.boxed Go.Proofs.Ytkcfghbkcgommaa.ft Go.Proofs.Ytkcfghbkcgommaa.seq Go.Proofs.Ytkcfghbkcgommaa.lab Go.Proofs.Ytkcfghbkcgommaa.wSameFeats
set_option linter.unusedVariables false
set_option linter.unusedSimpArgs false
set_option maxRecDepth 100000 in
set_option maxHeartbeats 2000000 in
theorem featsS {c d : Nat} (A B : Option Addr) (n m : Nat) (f h : Nat → P3) (r : Bool) (w : World) (hn : n ≤ 1048576) (hm : m ≤ 1048576) (hr : r = true ↔ Eq2 n m f h) (hp : PtsAt w A n f) (hq : PtsAt w B m h) :
    Calls Try.prog 85 #[.slice A n c, .slice B m d] w fun e w' => e = .returned (.bool r) ∧ Below w.heap.size w w' := by
  go_enter Try.func85, Try.ntmps85
  by_cases hnm : n = m
  · subst hnm
    have HP := Lib.hid hp
    have HQ := Lib.hid hq
    have HR := Lib.hid hr
    clear hp hq hr
    go_wp2
    go_loopw [5] (fun i w' => ∃ k : Nat, k ≤ n ∧ i = .int .i64 (k : Int) ∧ Hid (∀ j, j < k → f j = h j) ∧ Hid (Below w.heap.size w w')) (fun i _ => n - (intOf i).toNat)
    case atStart => exact ⟨0, Nat.zero_le _, rfl, Lib.hid (fun j hj => absurd hj (by omega)), Lib.hid (Below.refl _ _)⟩
    case round =>
      obtain ⟨k, hk, rfl, HE, HB⟩ := hrel
      by_cases hlt : k < n
      · obtain ⟨b, o, rfl, hb, p0, p1, p2⟩ := (HP.out.kept HB.out) k hlt
        obtain ⟨b2, o2, rfl, hb2, q0, q1, q2⟩ := (HQ.out.kept HB.out) k hlt
        have hli : (k : Int) < (n : Int) := by omega
        have HN := Lib.hid (show f k = h k → ∀ j, j < k + 1 → f j = h j from fun e j hj => by
          rcases Nat.lt_or_ge j k with h' | h'
          · exact HE.out j h'
          · obtain rfl : j = k := by omega
            exact e)
        have HF := Lib.hid (show f k ≠ h k → r = false from fun e => by
          cases r
          · rfl
          · exact absurd ((HR.out.1 rfl).2 k hlt) e)
        obtain ⟨⟨px, py, pz⟩, hpk⟩ : ∃ p, f k = p := ⟨_, rfl⟩
        obtain ⟨⟨qx, qy, qz⟩, hqk⟩ : ∃ p, h k = p := ⟨_, rfl⟩
        rw [hpk] at p0 p1 p2 HN HF
        rw [hqk] at q0 q1 q2 HN HF
        clear hpk hqk
        dsimp only at p0 p1 p2 q0 q1 q2
        have HBD := Lib.hid HB.out.drew
        clear HP HQ HR hb hb2
        by_cases hx : px = qx
        · subst hx
          by_cases hy : py = qy
          · subst hy
            by_cases hz : pz = qz
            · subst hz
              have HM := Lib.hid (HN.out rfl)
              clear HN HF HE HB
              go_wp2
              go_region
              go_wp2
              go_roundw
              case rel => exact ⟨k + 1, by omega, by go_num, HM, HBD⟩
              case measure => simp [intOf]; omega
            · have hrf := HF.out (fun e => hz (congrArg (fun p : P3 => p.2.2) e))
              subst hrf
              clear HN HF HE HB
              go_wp2
              go_region
              go_wp2
              go_ret
              exact ⟨rfl, HBD.out⟩
          · have hrf := HF.out (fun e => hy (congrArg (fun p : P3 => p.2.1) e))
            subst hrf
            clear HN HF HE HB
            go_wp2
            go_region
            go_wp2
            go_ret
            exact ⟨rfl, HBD.out⟩
        · have hrf := HF.out (fun e => hx (congrArg (fun p : P3 => p.1) e))
          subst hrf
          clear HN HF HE HB
          go_wp2
          go_region
          go_wp2
          go_ret
          exact ⟨rfl, HBD.out⟩
      · obtain rfl : k = n := by omega
        have hrt := HR.out.2 ⟨rfl, HE.out⟩
        subst hrt
        go_wp2
        go_ret
        exact ⟨rfl, HB.out⟩
  · obtain rfl : r = false := by
      cases r
      · rfl
      · exact absurd (hr.1 rfl).1 hnm
    have hne : ¬ (n : Int) = (m : Int) := by omega
    clear hp hq hr
    go_wp2
    go_ret
    exact ⟨rfl, Below.refl _ _⟩
/-- The templates with an index are equal. -/
def TmEq (lb lb' : Nat → ByteArray) (ln ln' : Nat → Nat) (lf lf' : Nat → Nat → P3) (i : Nat) : Prop := lb i = lb' i ∧ Eq2 (ln i) (ln' i) (lf i) (lf' i)
/-- Two stores are equal. -/
def StEq (d d' : Int) (n m : Nat) (lb lb' : Nat → ByteArray) (ln ln' : Nat → Nat) (lf lf' : Nat → Nat → P3) : Prop := d = d' ∧ n = m ∧ ∀ i, i < n → TmEq lb lb' ln ln' lf lf' i
theorem not_t {r : Bool} {P : Prop} (h : r = true ↔ P) (hp : ¬ P) : r = false := by cases r with | false => rfl | true => exact absurd (h.1 rfl) hp
theorem str_ne {s t : ByteArray} (h : s ≠ t) : (s.toList == t.toList) = false := by
  rw [beq_eq_false_iff_ne]
  intro e
  rw [ByteArray.toList_eq, ByteArray.toList_eq] at e
  apply h
  have : s.data = t.data := Array.toList_inj.1 e
  cases s; cases t; simp at this; rw [this]
theorem mixedR : Try.prog.follows .mixedOrders = true := by kernel_rfl
noncomputable def eqB (n m : Nat) (f h : Nat → P3) : Bool := @decide (Eq2 n m f h) (Classical.propDecidable _)
theorem eqB_iff {n m : Nat} {f h : Nat → P3} : eqB n m f h = true ↔ Eq2 n m f h := by unfold eqB; exact @decide_eq_true_iff _ (Classical.propDecidable _)
theorem all_next {P : Nat → Prop} {k : Nat} (h : ∀ j, j < k → P j) (hk : P k) : ∀ j, j < k + 1 → P j := fun j hj => by
  rcases Nat.lt_or_ge j k with h' | h'
  · exact h j h'
  · obtain rfl : j = k := by omega
    exact hk
set_option maxRecDepth 100000 in
set_option maxHeartbeats 8000000 in
theorem sameS {c c' : Nat} (b o b' o' : Nat) (d d' : Int) (A B : Option Addr) (n m : Nat) (lb lb' : Nat → ByteArray) (ln ln' : Nat → Nat) (lf lf' : Nat → Nat → P3) (r : Bool) (w : World) (hb : b < w.heap.size) (hb' : b' < w.heap.size) (c0 : w.cell? ⟨b, o, none⟩ = some (.int .i64 d)) (c1 : w.cell? ⟨b, o + 1, none⟩ = some (.slice A n c)) (e0 : w.cell? ⟨b', o', none⟩ = some (.int .i64 d')) (e1 : w.cell? ⟨b', o' + 1, none⟩ = some (.slice B m c')) (hl : TsL n lb ln) (hl' : TsL m lb' ln') (hr : r = true ↔ StEq d d' n m lb lb' ln ln' lf lf') (hp : TsAt w A n lb ln lf) (hq : TsAt w B m lb' ln' lf') :
    Calls Try.prog 56 #[.pointer (some ⟨b, o, none⟩), .pointer (some ⟨b', o', none⟩)] w fun e w' => e = .returned (.bool r) ∧ Below w.heap.size w w' := by
  have hn := hl.hn
  have hm := hl'.hn
  have hmix := mixedR
  have HBD := Lib.hid ((Below.refl w.heap.size w).drew)
  by_cases hd : d = d'
  rotate_left
  · obtain rfl := not_t hr (fun h => hd h.1)
    have hd2 : (d != d') = true := by simpa using hd
    clear hp hq hl hl' hr
    go_enter Try.func56, Try.ntmps56
    go_wp2
    go_region
    go_wp2
    go_ret
    exact ⟨rfl, HBD.out⟩
  subst hd
  by_cases hnm : n = m
  rotate_left
  · obtain rfl := not_t hr (fun h => hnm h.2.1)
    have hd2 : ((n : Int) != (m : Int)) = true := by simp; omega
    have hd3 : ¬ ((n : Int) = (m : Int)) := by omega
    clear hp hq hl hl' hr hnm
    go_enter Try.func56, Try.ntmps56
    go_wp2
    go_region
    go_wp2
    go_ret
    exact ⟨rfl, HBD.out⟩
  subst hnm
  have HP := Lib.hid hp
  have HQ := Lib.hid hq
  have HR := Lib.hid hr
  have HL := Lib.hid hl
  have HL' := Lib.hid hl'
  have C1 := Lib.hid c1
  have E1 := Lib.hid e1
  go_enter Try.func56, Try.ntmps56
  go_wp2
  go_region
  clear hp hq hr hl hl' c0 c1 e0 e1
  go_wp2
  go_loopw [5] (fun i w' => ∃ k : Nat, k ≤ n ∧ i = .int .i64 (k : Int) ∧ Hid (∀ j, j < k → TmEq lb lb' ln ln' lf lf' j) ∧ Hid (Below w.heap.size w w')) (fun i _ => n - (intOf i).toNat)
  case atStart => exact ⟨0, Nat.zero_le _, rfl, Lib.hid (fun j hj => absurd hj (by omega)), HBD⟩
  case round =>
    clear HBD
    obtain ⟨k, hk, rfl, HE, HB⟩ := hrel
    have s1 := (HB.out.cell (p := ⟨b, o + 1, none⟩) hb).trans C1.out
    have t1 := (HB.out.cell (p := ⟨b', o' + 1, none⟩) hb').trans E1.out
    have hbr := Nat.lt_of_lt_of_le hb HB.out.size
    have hbr' := Nat.lt_of_lt_of_le hb' HB.out.size
    by_cases hlt : k < n
    · obtain ⟨g, og, Ai, ci, rfl, hg, p0, p1, hpk⟩ := (HP.out.kept HB.out) k hlt
      obtain ⟨g', og', Bi, ci', rfl, hg', q0, q1, hqk⟩ := (HQ.out.kept HB.out) k hlt
      have hli : (k : Int) < (n : Int) := by omega
      have HPK := Lib.hid hpk
      have HQK := Lib.hid hqk
      have zl := HL.out.l k hlt
      have zl' := HL'.out.l k hlt
      have HX := Lib.hid (fun (W : World) (hW : Below wr.heap.size wr W) (v : Bool) (hv : v = true ↔ Eq2 (ln k) (ln' k) (lf k) (lf' k)) => featsS (c := ci) (d := ci') Ai Bi (ln k) (ln' k) (lf k) (lf' k) v W zl zl' hv (HPK.out.kept hW) (HQK.out.kept hW))
      have HN := Lib.hid (fun (h : TmEq lb lb' ln ln' lf lf' k) => all_next HE.out h)
      have HF := Lib.hid (fun (h : ¬ TmEq lb lb' ln ln' lf lf' k) => not_t HR.out (fun h' => h (h'.2.2 k hlt)))
      clear hpk hqk
      by_cases hs : lb k = lb' k
      · obtain ⟨v, hv⟩ : ∃ v : Bool, v = true ↔ Eq2 (ln k) (ln' k) (lf k) (lf' k) := ⟨eqB _ _ _ _, eqB_iff⟩
        have HV := Lib.hid (fun (W : World) (hW : Below wr.heap.size wr W) => HX.out W hW v hv)
        have HN2 := Lib.hid (fun (e : v = true) => HN.out ⟨hs, hv.1 e⟩)
        have HF2 := Lib.hid (fun (e : v = false) => HF.out (fun h => by have := hv.2 h.2; rw [e] at this; cases this))
        rw [← hs] at q0
        clear hs hv HX HN HF zl zl'
        generalize ln k = x1 at *
        generalize ln' k = x2 at *
        generalize lb k = tx at *
        have s1k := cell_kept hbr s1
        have t1k := cell_kept hbr' t1
        replace p0 := cell_kept hg p0
        replace p1 := cell_kept hg p1
        replace q0 := cell_kept hg' q0
        replace q1 := cell_kept hg' q1
        go_wp2
        refine wp_region_quiet_kept (by assumption) (by kernel_rfl) ?_
        repeat (first | go_big_quiet_step ((go_at_call 85; exact Calls.kept_of (HV.out _ (Kept.below _)))) | quiet_step ((go_at_call 85; exact Calls.kept_of (HV.out _ (Kept.below _)))))
        refine wpQuiet_nil ?_
        intro w2 hw'
        have hB : Below wr.heap.size wr w2 := by obtain ⟨⟨wk, hb0⟩, hw''⟩ := hw'; rw [hw'']; exact hb0
        have HB2 := Lib.hid (HB.out.trans (hB.mono HB.out.size))
        clear hw' hB s1k t1k s1 t1 p0 p1 q0 q1
        cases v with
        | true =>
          have HE2 := Lib.hid (HN2.out rfl)
          go_wp2
          go_roundw
          case rel => exact ⟨k + 1, by omega, by go_num, HE2, HB2⟩
          case measure => simp [intOf]; omega
        | false =>
          have HR2 := Lib.hid (HF2.out rfl)
          go_wp2
          go_ret
          exact ⟨by rw [HR2.out]; rfl, HB2.out⟩
      · have hne := str_ne hs
        have HR2 := Lib.hid (HF.out (fun h => hs h.1))
        have hund : undef = Value.tuple #[] := rfl
        clear hs HX HN HF zl zl'
        generalize lb k = tx at *
        generalize lb' k = ty at *
        have s1k := cell_kept hbr s1
        have t1k := cell_kept hbr' t1
        replace p0 := cell_kept hg p0
        replace p1 := cell_kept hg p1
        replace q0 := cell_kept hg' q0
        replace q1 := cell_kept hg' q1
        go_wp2
        refine wp_region_quiet_kept (by assumption) (by kernel_rfl) ?_
        repeat (first | go_big_quiet_step (fail) | quiet_step (fail))
        refine wpQuiet_nil ?_
        intro w2 hw'
        have hB : Below wr.heap.size wr w2 := by obtain ⟨⟨wk, hb0⟩, hw''⟩ := hw'; rw [hw'']; exact hb0
        have HB2 := Lib.hid (HB.out.trans (hB.mono HB.out.size))
        clear hw' hB s1k t1k s1 t1 p0 p1 q0 q1
        go_wp2
        go_ret
        exact ⟨by rw [HR2.out]; rfl, HB2.out⟩
    · obtain rfl : k = n := by omega
      have HR2 := Lib.hid (HR.out.2 ⟨by trivial, by trivial, HE.out⟩)
      go_wp2
      go_ret
      exact ⟨by rw [HR2.out]; rfl, HB.out⟩
set_option maxRecDepth 100000 in
set_option maxHeartbeats 2000000 in
theorem sameStS {c c' : Nat} (d d' : Int) (A B : Option Addr) (n m : Nat) (lb lb' : Nat → ByteArray) (ln ln' : Nat → Nat) (lf lf' : Nat → Nat → P3) (r : Bool) (w : World) (hl : TsL n lb ln) (hl' : TsL m lb' ln') (hr : r = true ↔ StEq d d' n m lb lb' ln ln' lf lf') (hp : TsAt w A n lb ln lf) (hq : TsAt w B m lb' ln' lf') :
    Calls Try.prog 18 #[.agg #[.int .i64 d, .slice A n c], .agg #[.int .i64 d', .slice B m c']] w fun e w' => e = .returned (.bool r) ∧ Below w.heap.size w w' := by
  have BL := below_alloc2 w (.cells #[.int .i64 d, .slice A n c] 30) (.cells #[.int .i64 d', .slice B m c'] 30)
  have HC := Lib.hid (sameS (c := c) (c' := c') w.heap.size 0 (w.heap.size + 1) 0 d d' A B n m lb lb' ln ln' lf lf' r ((w.alloc (.cells #[.int .i64 d, .slice A n c] 30)).alloc (.cells #[.int .i64 d', .slice B m c'] 30)) (by simp; omega) (by simp) (by simp) (by simp) (by simp) (by simp) hl hl' hr (hp.kept BL) (hq.kept BL))
  have HBL := Lib.hid BL
  clear hp hq hl hl' BL hr
  go_enter Try.func18, Try.ntmps18
  go_wp2_with fail
  refine HC.out.mono ?_
  rintro e w1 ⟨rfl, hb⟩
  have HB := Lib.hid (HBL.out.trans (hb.mono HBL.out.size))
  clear hb
  go_wp2
  go_ret
  exact ⟨rfl, HB.out⟩
set_option maxRecDepth 100000 in
set_option maxHeartbeats 2000000 in
theorem sameTI {c d : Nat} (s t : ByteArray) (A B : Option Addr) (n m : Nat) (f h : Nat → P3) (r : Bool) (w : World) (hn : n ≤ 1048576) (hm : m ≤ 1048576) (hr : r = true ↔ s = t ∧ Eq2 n m f h) (hp : PtsAt w A n f) (hq : PtsAt w B m h) :
    Calls Try.prog 58 #[.agg #[.string s, .slice A n c], .agg #[.string t, .slice B m d]] w fun e w' => e = .returned (.bool r) ∧ Below w.heap.size w w' := by
  have BL := below_alloc2 w (.cells #[.string s, .slice A n c] 43) (.cells #[.string t, .slice B m d] 43)
  have hund : undef = Value.tuple #[] := rfl
  by_cases hs : s = t
  · subst hs
    have HC := Lib.hid (impl_calls (c := c) (d := d) A B n m f h r _ hn hm (by rw [hr]; simp) (hp.kept BL) (hq.kept BL))
    have HBL := Lib.hid BL
    clear hp hq BL hr
    go_enter Try.func58, Try.ntmps58
    go_wp2_with fail
    refine HC.out.mono ?_
    rintro e w1 ⟨rfl, hb⟩
    have HB := Lib.hid (HBL.out.trans (hb.mono HBL.out.size))
    clear hb
    go_wp2
    go_ret
    exact ⟨rfl, HB.out⟩
  · obtain rfl := not_t hr (fun h => hs h.1)
    have hne := str_ne hs
    clear hp hq hr hs
    go_enter Try.func58, Try.ntmps58
    go_wp2
    go_ret
    exact ⟨rfl, BL⟩
set_option maxRecDepth 100000 in
set_option maxHeartbeats 4000000 in
theorem equalTI {c c' : Nat} (A B : Option Addr) (n m : Nat) (lb lb' : Nat → ByteArray) (ln ln' : Nat → Nat) (lf lf' : Nat → Nat → P3) (r : Bool) (w : World) (hl : TsL n lb ln) (hl' : TsL m lb' ln') (hr : r = true ↔ n = m ∧ ∀ i, i < n → TmEq lb lb' ln ln' lf lf' i) (hp : TsAt w A n lb ln lf) (hq : TsAt w B m lb' ln' lf') :
    Calls Try.prog 57 #[.slice A n c, .slice B m c', .func (.func 58) #[] #[]] w fun e w' => e = .returned (.bool r) ∧ Below w.heap.size w w' := by
  have hn := hl.hn
  have hm := hl'.hn
  by_cases hnm : n = m
  rotate_left
  · obtain rfl := not_t hr (fun h => hnm h.1)
    have hd3 : ¬ ((n : Int) = (m : Int)) := by omega
    clear hp hq hl hl' hr hnm
    go_enter Try.func57, Try.ntmps57
    go_wp2
    go_ret
    exact ⟨rfl, Below.refl _ _⟩
  subst hnm
  have HP := Lib.hid hp
  have HQ := Lib.hid hq
  have HR := Lib.hid hr
  have HL := Lib.hid hl
  have HL' := Lib.hid hl'
  clear hp hq hr hl hl'
  go_enter Try.func57, Try.ntmps57
  go_wp2
  go_loopw [17] (fun i w' => ∃ k : Nat, k ≤ n ∧ i = .int .i64 (k : Int) ∧ Hid (∀ j, j < k → TmEq lb lb' ln ln' lf lf' j) ∧ Hid (Below w.heap.size w w')) (fun i _ => n - (intOf i).toNat)
  case atStart => exact ⟨0, Nat.zero_le _, rfl, Lib.hid (fun j hj => absurd hj (by omega)), Lib.hid (Below.refl _ _)⟩
  case round =>
    obtain ⟨k, hk, rfl, HE, HB⟩ := hrel
    by_cases hlt : k < n
    · obtain ⟨g, og, Ai, ci, rfl, hg, p0, p1, hpk⟩ := (HP.out.kept HB.out) k hlt
      obtain ⟨g', og', Bi, ci', rfl, hg', q0, q1, hqk⟩ := (HQ.out.kept HB.out) k hlt
      have hli : (k : Int) < (n : Int) := by omega
      obtain ⟨v, hv⟩ : ∃ v : Bool, v = true ↔ (lb k = lb' k ∧ Eq2 (ln k) (ln' k) (lf k) (lf' k)) := ⟨@decide _ (Classical.propDecidable _), @decide_eq_true_iff _ (Classical.propDecidable _)⟩
      have zl := HL.out.l k hlt
      have zl' := HL'.out.l k hlt
      have BL := below_alloc2 wr (.cells #[.string (lb k), .slice Ai (ln k) ci] 43) (.cells #[.string (lb' k), .slice Bi (ln' k) ci'] 43)
      have HV := Lib.hid (sameTI (c := ci) (d := ci') (lb k) (lb' k) Ai Bi (ln k) (ln' k) (lf k) (lf' k) v _ zl zl' hv (hpk.kept BL) (hqk.kept BL))
      have HBB := Lib.hid (HB.out.trans (BL.mono HB.out.size))
      have HN2 := Lib.hid (fun (e : v = true) => all_next (P := TmEq lb lb' ln ln' lf lf') HE.out (hv.1 e))
      have HF2 := Lib.hid (fun (e : v = false) => not_t HR.out (fun h => by have := hv.2 (h.2 k hlt); rw [e] at this; cases this))
      clear hpk hqk hv BL zl zl'
      generalize ln k = x1 at *
      generalize ln' k = x2 at *
      generalize lb k = tx at *
      generalize lb' k = ty at *
      go_wp2_with fail
      refine HV.out.mono ?_
      rintro e w2 ⟨rfl, hb⟩
      have HB2 := Lib.hid (HBB.out.trans (hb.mono HBB.out.size))
      clear hb p0 p1 q0 q1 hg hg'
      cases v with
      | true =>
        have HE2 := Lib.hid (HN2.out rfl)
        go_wp2
        go_roundw
        case rel => exact ⟨k + 1, by omega, by go_num, HE2, HB2⟩
        case measure => simp [intOf]; omega
      | false =>
        have HR2 := Lib.hid (HF2.out rfl)
        go_wp2
        go_ret
        exact ⟨by rw [HR2.out]; rfl, HB2.out⟩
    · obtain rfl : k = n := by omega
      have HR2 := Lib.hid (HR.out.2 ⟨by trivial, HE.out⟩)
      go_wp2
      go_ret
      exact ⟨by rw [HR2.out]; rfl, HB.out⟩
set_option maxRecDepth 100000 in
set_option maxHeartbeats 2000000 in
theorem sameStI {c c' : Nat} (d d' : Int) (A B : Option Addr) (n m : Nat) (lb lb' : Nat → ByteArray) (ln ln' : Nat → Nat) (lf lf' : Nat → Nat → P3) (r : Bool) (w : World) (hl : TsL n lb ln) (hl' : TsL m lb' ln') (hr : r = true ↔ StEq d d' n m lb lb' ln ln' lf lf') (hp : TsAt w A n lb ln lf) (hq : TsAt w B m lb' ln' lf') :
    Calls Try.prog 19 #[.agg #[.int .i64 d, .slice A n c], .agg #[.int .i64 d', .slice B m c']] w fun e w' => e = .returned (.bool r) ∧ Below w.heap.size w w' := by
  have BL := below_alloc2 w (.cells #[.int .i64 d, .slice A n c] 30) (.cells #[.int .i64 d', .slice B m c'] 30)
  have hund : undef = Value.tuple #[] := rfl
  by_cases hd : d = d'
  · subst hd
    have HC := Lib.hid (equalTI (c := c) (c' := c') A B n m lb lb' ln ln' lf lf' r _ hl hl' (by rw [hr]; exact ⟨fun h => h.2, fun h => ⟨rfl, h⟩⟩) (hp.kept BL) (hq.kept BL))
    have HBL := Lib.hid BL
    clear hp hq hl hl' BL hr
    go_enter Try.func19, Try.ntmps19
    go_wp2_with fail
    refine HC.out.mono ?_
    rintro e w1 ⟨rfl, hb⟩
    have HB := Lib.hid (HBL.out.trans (hb.mono HBL.out.size))
    clear hb
    go_wp2
    go_ret
    exact ⟨rfl, HB.out⟩
  · obtain rfl := not_t hr (fun h => hd h.1)
    have hne : (d == d') = false := by simpa using hd
    clear hp hq hl hl' hr
    go_enter Try.func19, Try.ntmps19
    go_wp2
    go_ret
    exact ⟨rfl, BL⟩
end Go.Proofs.Ytkcfghbkcgommaa.sto
