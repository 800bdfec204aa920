/-
  Proved: what the program's functions return that test samples, find a label, and tell the code of a perceptron and samples.
  Conditions: none.
-/
import Derived.Test.YtimkochgnjggdaaSmp
namespace Go.Proofs.Ytimkochgnjggdaa.smp
open Go.ChangeShapes Go.WideShapes Go.ChangeAt Go.RowKit Go.Joins
open Go.Proofs.Ytimkochgnjggdaa.core Go.Proofs.Ytimkochgnjggdaa.rown Go.Proofs.Ytimkochgnjggdaa.stk Go.Proofs.Ytimkochgnjggdaa.boxed Go.Proofs.Ytimkochgnjggdaa.ft Go.Proofs.Ytimkochgnjggdaa.one1 Go.Proofs.Ytimkochgnjggdaa.lab Go.Proofs.Ytimkochgnjggdaa.per
set_option linter.unusedVariables false
set_option linter.unusedSimpArgs false
set_option maxRecDepth 100000 in
set_option maxHeartbeats 2000000 in
theorem indexSI {c : Nat} (A : Option Addr) (n : Nat) (s : Nat → ByteArray) (t : ByteArray) (w : World) (hn : n ≤ 1048576) (hp : SsAt w A n s) :
    Calls Try.prog 119 #[.slice A n c, .string t] w fun e w' => e = .returned (.int .i64 (fiZ s t n)) ∧ w = w' := by
  have HP := Lib.hid hp
  clear hp
  go_enter Try.func119, Try.ntmps119
  go_wp2
  go_loop [8] (fun i => ∃ k : Nat, k ≤ n ∧ i = .int .i64 (k : Int) ∧ Hid (∀ j, j < k → s j ≠ t)) (fun i => n - (intOf i).toNat)
  case atStart => exact ⟨0, Nat.zero_le _, rfl, Lib.hid (fun j hj => absurd hj (by omega))⟩
  case round =>
    obtain ⟨k, hk, rfl, HE⟩ := hrel
    by_cases hlt : k < n
    · obtain ⟨b1, o1, rfl, hb1, p0⟩ := HP.out k hlt
      have hli : (k : Int) < (n : Int) := by omega
      have HN := Lib.hid (fun (h : s k ≠ t) => all_next (P := fun j => s j ≠ t) HE.out h)
      have HA := Lib.hid (fun (h : s k = t) => fi_at hlt h HE.out)
      obtain ⟨x, hx⟩ : ∃ x, s k = x := ⟨_, rfl⟩
      rw [hx] at p0 HN HA
      clear hx
      by_cases e : x = t
      · subst e
        have HF := Lib.hid (show fiZ s x n = (k : Int) by unfold fiZ; rw [HA.out rfl, if_pos hlt])
        have hne2 : (x.toList == x.toList) = true := by simp
        go_wp2
        go_ret
        exact ⟨by rw [HF.out]; rfl, rfl⟩
      · have hne2 := str_ne (fun h : t = x => e h.symm)
        have HE2 := Lib.hid (HN.out e)
        go_wp2
        go_round
        case rel => exact ⟨k + 1, by omega, by go_num, HE2⟩
        case measure => simp [intOf]; omega
    · obtain rfl : k = n := by omega
      have HF := Lib.hid (show fiZ s t k = -1 by unfold fiZ; rw [fi_none HE.out, if_neg (by omega)])
      go_wp2
      go_ret
      exact ⟨by rw [HF.out]; rfl, rfl⟩
set_option maxRecDepth 100000 in
set_option maxHeartbeats 2000000 in
theorem containsSI {c : Nat} (A : Option Addr) (n : Nat) (s : Nat → ByteArray) (t : ByteArray) (w : World) (hn : n ≤ 1048576) (hp : SsAt w A n s) :
    Calls Try.prog 131 #[.slice A n c, .string t] w fun e w' => e = .returned (.bool (decide (fi s t n < n))) ∧ w = w' := by
  have HI := Lib.hid (indexSI (c := c) A n s t w hn hp)
  have HZ := Lib.hid (show fiZ s t n = if fi s t n < n then ((fi s t n : Nat) : Int) else -1 from rfl)
  clear hp
  obtain ⟨x, hx⟩ : ∃ x, fi s t n = x := ⟨_, rfl⟩
  obtain ⟨z, hz⟩ : ∃ z, fiZ s t n = z := ⟨_, rfl⟩
  rw [hx, hz] at HZ
  rw [hz] at HI
  rw [hx]
  clear hx hz
  by_cases h : x < n
  · have hz0 : z = (x : Int) := by rw [HZ.out, if_pos h]
    subst hz0
    rw [decide_eq_true h]
    clear h
    go_enter Try.func131, Try.ntmps131
    go_wp2_with fail
    with_reducible refine HI.out.mono ?_
    rintro e _ ⟨rfl, rfl⟩
    go_wp2
    go_ret
    exact ⟨rfl, rfl⟩
  · have hz0 : z = -1 := by rw [HZ.out, if_neg h]
    subst hz0
    rw [decide_eq_false h]
    clear h
    go_enter Try.func131, Try.ntmps131
    go_wp2_with fail
    with_reducible refine HI.out.mono ?_
    rintro e _ ⟨rfl, rfl⟩
    go_wp2
    go_ret
    exact ⟨rfl, rfl⟩
set_option maxRecDepth 100000 in
set_option maxHeartbeats 2000000 in
theorem noSampleI {c : Nat} (s : ByteArray) (A : Option Addr) (n : Nat) (f : Nat → P3) (w : World) (hs : s.size ≤ maxLen) (hn : n ≤ 1048576) (hp : PtsAt w A n f) :
    Calls Try.prog 117 #[.agg #[.string s, .slice A n c]] w fun e w' => e = .returned (.bool (!smB s n f)) ∧ Below w.heap.size w w' := by
  have BL := Lib.hid (below_alloc1 w (.cells #[.string s, .slice A n c] 62))
  have HL := Lib.hid (fun W => isLabI s W hs)
  have HF := Lib.hid (fun (W : World) (hW : Below w.heap.size w W) => okI (c := c) A n f W hn (hp.kept hW))
  clear hp
  cases hv : labB s with
  | false =>
    rw [sm_no hv]
    rw [hv] at HL
    clear hv
    go_enter Try.func117, Try.ntmps117
    go_wp2_with fail
    with_reducible refine (HL.out _).mono ?_
    rintro e _ ⟨rfl, rfl⟩
    go_wp2
    go_ret
    exact ⟨rfl, BL.out⟩
  | true =>
    rw [sm_yes hv]
    rw [hv] at HL
    clear hv
    generalize okF n f = r at *
    go_enter Try.func117, Try.ntmps117
    go_wp2_with fail
    with_reducible refine (HL.out _).mono ?_
    rintro e _ ⟨rfl, rfl⟩
    go_wp2_with fail
    with_reducible refine (HF.out _ BL.out).mono ?_
    rintro e w1 ⟨rfl, hb1⟩
    have HB := Lib.hid (BL.out.trans (hb1.mono BL.out.size))
    clear hb1
    go_wp2
    go_ret
    exact ⟨rfl, HB.out⟩
set_option maxRecDepth 100000 in
set_option maxHeartbeats 2000000 in
theorem lacksI {c d cf : Nat} (A B L : Option Addr) (n m k : Nat) (s : Nat → ByteArray) (t : ByteArray) (w : World) (hn : n ≤ 1048576) (hp : SsAt w A n s) :
    Calls Try.prog 118 #[.agg #[.slice A n c, .slice B m d], .agg #[.string t, .slice L k cf]] w fun e w' => e = .returned (.bool (!decide (fi s t n < n))) ∧ Below w.heap.size w w' := by
  have BL := Lib.hid (below_alloc2 w (.cells #[.slice A n c, .slice B m d] 38) (.cells #[.string t, .slice L k cf] 62))
  have HC := Lib.hid (containsSI (c := c) A n s t _ hn (hp.kept BL.out))
  clear hp
  generalize decide (fi s t n < n) = r at *
  go_enter Try.func118, Try.ntmps118
  go_wp2_with fail
  refine HC.out.mono ?_
  rintro e _ ⟨rfl, rfl⟩
  go_wp2
  go_ret
  exact ⟨rfl, BL.out⟩
set_option maxRecDepth 100000 in
set_option maxHeartbeats 2000000 in
theorem indexN {cb : Nat} (L : Option Addr) (N : Nat) (lb : Nat → ByteArray) (ln : Nat → Nat) (lf : Nat → Nat → P3) (r : Bool) (w : World) (hl : SmL N lb ln) (hr : r = true ↔ ∀ j, j < N → smB (lb j) (ln j) (lf j) = true) (hq : SmAt w L N lb ln lf) :
    Calls Try.prog 130 #[.slice L N cb, .func (.func 117) #[] #[]] w fun e w' => (∃ k : Int, e = .returned (.int .i64 k) ∧ decide (0 ≤ k) = !r) ∧ Below w.heap.size w w' := by
  have HQ := Lib.hid hq
  have HR := Lib.hid hr
  have HLN := Lib.hid hl
  have hn := hl.hn
  skip
  clear hq hr hl
  go_enter Try.func130, Try.ntmps130
  go_wp2
  go_loopw [8] (fun i w' => ∃ k : Nat, k ≤ N ∧ i = .int .i64 (k : Int) ∧ Hid (∀ j, j < k → smB (lb j) (ln j) (lf j) = true) ∧ Hid (Below w.heap.size w w')) (fun i _ => N - (intOf i).toNat)
  case atStart => exact ⟨0, Nat.zero_le _, rfl, Lib.hid (fun j hj => absurd hj (by omega)), Lib.hid (Below.refl _ _)⟩
  case round =>
    obtain ⟨k, hk, rfl, HE, HB⟩ := hrel
    by_cases hlt : k < N
    · obtain ⟨g, o, Ai, ci, rfl, hg, c0, c1, hfe⟩ := (HQ.out.kept HB.out) k hlt
      have hli : (k : Int) < (N : Int) := by omega
      have HI := Lib.hid (noSampleI (c := ci) (lb k) Ai (ln k) (lf k) wr (HLN.out.b k hlt) (HLN.out.l k hlt) hfe)
      obtain ⟨v, hv⟩ : ∃ v : Bool, smB (lb k) (ln k) (lf k) = v := ⟨_, rfl⟩
      rw [hv] at HI
      have HT := Lib.hid (fun (h : v = true) => all_next (P := fun j => smB (lb j) (ln j) (lf j) = true) HE.out (hv.trans h))
      have HF := Lib.hid (fun (h : v = false) => (show r = false by
          cases hh : r
          · rfl
          · have h2 := HR.out.1 hh k hlt
            rw [hv, h] at h2; cases h2))
      clear hv hfe
      generalize ln k = q at *
      generalize lb k = tx at *
      go_wp2_with fail
      refine HI.out.mono ?_
      rintro e w2 ⟨rfl, hb2⟩
      have HB2 := Lib.hid (HB.out.trans (hb2.mono HB.out.size))
      clear hb2 c0 c1 HI
      cases v with
      | true =>
        have HE2 := Lib.hid (HT.out rfl)
        go_wp2
        go_roundw
        case rel => exact ⟨k + 1, by omega, by go_num, HE2, HB2⟩
        case measure => simp [intOf]; omega
      | false =>
        have HF2 := Lib.hid (HF.out rfl)
        go_wp2
        go_ret
        exact ⟨⟨_, rfl, by rw [HF2.out]; simp⟩, HB2.out⟩
    · obtain rfl : k = N := by omega
      have HF := Lib.hid (show r = true from HR.out.2 HE.out)
      go_wp2
      go_ret
      exact ⟨⟨-1, rfl, by rw [HF.out]; rfl⟩, HB.out⟩
set_option maxRecDepth 100000 in
set_option maxHeartbeats 2000000 in
theorem containsN {cb : Nat} (L : Option Addr) (N : Nat) (lb : Nat → ByteArray) (ln : Nat → Nat) (lf : Nat → Nat → P3) (r : Bool) (w : World) (hl : SmL N lb ln) (hr : r = true ↔ ∀ j, j < N → smB (lb j) (ln j) (lf j) = true) (hq : SmAt w L N lb ln lf) :
    Calls Try.prog 116 #[.slice L N cb, .func (.func 117) #[] #[]] w fun e w' => e = .returned (.bool (!r)) ∧ Below w.heap.size w w' := by
  have HC := Lib.hid (indexN (cb := cb) L N lb ln lf r w hl hr hq)
  clear hr hq hl
  go_enter Try.func116, Try.ntmps116
  go_wp2_with fail
  refine HC.out.mono ?_
  rintro e w1 ⟨⟨k, rfl, hk⟩, hb⟩
  have HK := Lib.hid hk
  have HB := Lib.hid hb
  clear hk hb
  by_cases h : 0 ≤ k
  · have HK2 := Lib.hid (show true = !r by rw [← HK.out, decide_eq_true h])
    go_wp2
    go_ret
    exact ⟨by first | exact ret_bool HK2.out | exact ret_bool HK.out, HB.out⟩
  · have HK2 := Lib.hid (show false = !r by rw [← HK.out, decide_eq_false h])
    go_wp2
    go_ret
    exact ⟨by first | exact ret_bool HK2.out | exact ret_bool HK.out, HB.out⟩
set_option maxRecDepth 100000 in
set_option maxHeartbeats 2000000 in
theorem indexL {cb c d : Nat} (A B : Option Addr) (n m : Nat) (s : Nat → ByteArray) (L : Option Addr) (N : Nat) (lb : Nat → ByteArray) (ln : Nat → Nat) (lf : Nat → Nat → P3) (r : Bool) (w : World) (hl : SmL N lb ln) (hsn : n ≤ 1048576) (hp : SsAt w A n s) (hr : r = true ↔ ∀ j, j < N → fi s (lb j) n < n) (hq : SmAt w L N lb ln lf) :
    Calls Try.prog 130 #[.slice L N cb, .func (.func 118) #[.agg #[.slice A n c, .slice B m d]] #[]] w fun e w' => (∃ k : Int, e = .returned (.int .i64 k) ∧ decide (0 ≤ k) = !r) ∧ Below w.heap.size w w' := by
  have HQ := Lib.hid hq
  have HR := Lib.hid hr
  have HLN := Lib.hid hl
  have hn := hl.hn
  have HP := Lib.hid hp
  clear hq hr hl hp
  go_enter Try.func130, Try.ntmps130
  go_wp2
  go_loopw [8] (fun i w' => ∃ k : Nat, k ≤ N ∧ i = .int .i64 (k : Int) ∧ Hid (∀ j, j < k → fi s (lb j) n < n) ∧ Hid (Below w.heap.size w w')) (fun i _ => N - (intOf i).toNat)
  case atStart => exact ⟨0, Nat.zero_le _, rfl, Lib.hid (fun j hj => absurd hj (by omega)), Lib.hid (Below.refl _ _)⟩
  case round =>
    obtain ⟨k, hk, rfl, HE, HB⟩ := hrel
    by_cases hlt : k < N
    · obtain ⟨g, o, Ai, ci, rfl, hg, c0, c1, hfe⟩ := (HQ.out.kept HB.out) k hlt
      have hli : (k : Int) < (N : Int) := by omega
      have HI := Lib.hid (lacksI (c := c) (d := d) (cf := ci) A B Ai n m (ln k) s (lb k) wr hsn (HP.out.kept HB.out))
      obtain ⟨v, hv⟩ : ∃ v : Bool, decide (fi s (lb k) n < n) = v := ⟨_, rfl⟩
      rw [hv] at HI
      have HT := Lib.hid (fun (h : v = true) => all_next (P := fun j => fi s (lb j) n < n) HE.out (of_decide_eq_true (hv.trans h)))
      have HF := Lib.hid (fun (h : v = false) => (show r = false by
          cases hh : r
          · rfl
          · have h2 := HR.out.1 hh k hlt
            have h3 := decide_eq_true h2; rw [hv, h] at h3; cases h3))
      clear hv hfe
      generalize ln k = q at *
      generalize lb k = tx at *
      go_wp2_with fail
      refine HI.out.mono ?_
      rintro e w2 ⟨rfl, hb2⟩
      have HB2 := Lib.hid (HB.out.trans (hb2.mono HB.out.size))
      clear hb2 c0 c1 HI
      cases v with
      | true =>
        have HE2 := Lib.hid (HT.out rfl)
        go_wp2
        go_roundw
        case rel => exact ⟨k + 1, by omega, by go_num, HE2, HB2⟩
        case measure => simp [intOf]; omega
      | false =>
        have HF2 := Lib.hid (HF.out rfl)
        go_wp2
        go_ret
        exact ⟨⟨_, rfl, by rw [HF2.out]; simp⟩, HB2.out⟩
    · obtain rfl : k = N := by omega
      have HF := Lib.hid (show r = true from HR.out.2 HE.out)
      go_wp2
      go_ret
      exact ⟨⟨-1, rfl, by rw [HF.out]; rfl⟩, HB.out⟩
set_option maxRecDepth 100000 in
set_option maxHeartbeats 2000000 in
theorem containsL {cb c d : Nat} (A B : Option Addr) (n m : Nat) (s : Nat → ByteArray) (L : Option Addr) (N : Nat) (lb : Nat → ByteArray) (ln : Nat → Nat) (lf : Nat → Nat → P3) (r : Bool) (w : World) (hl : SmL N lb ln) (hsn : n ≤ 1048576) (hp : SsAt w A n s) (hr : r = true ↔ ∀ j, j < N → fi s (lb j) n < n) (hq : SmAt w L N lb ln lf) :
    Calls Try.prog 116 #[.slice L N cb, .func (.func 118) #[.agg #[.slice A n c, .slice B m d]] #[]] w fun e w' => e = .returned (.bool (!r)) ∧ Below w.heap.size w w' := by
  have HC := Lib.hid (indexL (cb := cb) (c := c) (d := d) A B n m s L N lb ln lf r w hl hsn hp hr hq)
  clear hr hq hl
  go_enter Try.func116, Try.ntmps116
  go_wp2_with fail
  refine HC.out.mono ?_
  rintro e w1 ⟨⟨k, rfl, hk⟩, hb⟩
  have HK := Lib.hid hk
  have HB := Lib.hid hb
  clear hk hb
  by_cases h : 0 ≤ k
  · have HK2 := Lib.hid (show true = !r by rw [← HK.out, decide_eq_true h])
    go_wp2
    go_ret
    exact ⟨by first | exact ret_bool HK2.out | exact ret_bool HK.out, HB.out⟩
  · have HK2 := Lib.hid (show false = !r by rw [← HK.out, decide_eq_false h])
    go_wp2
    go_ret
    exact ⟨by first | exact ret_bool HK2.out | exact ret_bool HK.out, HB.out⟩
set_option maxRecDepth 100000 in
set_option maxHeartbeats 4000000 in
theorem codeI {c d cs : Nat} (A B L : Option Addr) (n m N : Nat) (s : Nat → ByteArray) (wn : Nat → Nat) (wf : Nat → Nat → Int) (lb : Nat → ByteArray) (ln : Nat → Nat) (lf : Nat → Nat → P3) (w : World) (hl : PeL n m s wn) (hs : SmL N lb ln) (hp : SsAt w A n s) (hq : WsAt w B m wn wf) (hr : SmAt w L N lb ln lf) :
    Calls Try.prog 91 #[.agg #[.slice A n c, .slice B m d], .slice L N cs] w fun e w' => e = .returned (.int .i64 (cdC (peB n m s wn wf) n s N lb ln lf)) ∧ Below w.heap.size w w' := by
  have BL := Lib.hid (below_alloc1 w (.cells #[.slice A n c, .slice B m d] 38))
  have hK := heap_alloc_new w (.cells #[.slice A n c, .slice B m d] 38)
  have HX := Lib.hid (fun V (hV : Below (w.alloc (.cells #[.slice A n c, .slice B m d] 38)).heap.size (w.alloc (.cells #[.slice A n c, .slice B m d] 38)) V) => (show V.cell? ⟨w.heap.size, 0, none⟩ = some (.slice A n c) ∧ V.cell? ⟨w.heap.size, 1, none⟩ = some (.slice B m d) ∧ w.heap.size < V.heap.size ∧ Below w.heap.size w V from by
    have e := (hV.block w.heap.size (by simp)).trans hK
    exact ⟨by rw [cell_of_block e]; rfl, by rw [cell_of_block e]; rfl, block_size e, BL.out.trans (hV.mono BL.out.size)⟩))
  have HO := Lib.hid (fun (W : World) (hW : Below w.heap.size w W) => validPI (c := c) (d := d) A B n m s wn wf W hl (hp.kept hW) (hq.kept hW))
  obtain ⟨v1, hv1⟩ : ∃ v : Bool, v = true ↔ ∀ j, j < N → smB (lb j) (ln j) (lf j) = true := ⟨@decide _ (Classical.propDecidable _), @decide_eq_true_iff _ (Classical.propDecidable _)⟩
  obtain ⟨v2, hv2⟩ : ∃ v : Bool, v = true ↔ ∀ j, j < N → fi s (lb j) n < n := ⟨@decide _ (Classical.propDecidable _), @decide_eq_true_iff _ (Classical.propDecidable _)⟩
  have HN := Lib.hid (fun (W : World) (hW : Below w.heap.size w W) => containsN (cb := cs) L N lb ln lf v1 W hs hv1 (hr.kept hW))
  have HLk := Lib.hid (fun (W : World) (hW : Below w.heap.size w W) => containsL (cb := cs) (c := c) (d := d) A B n m s L N lb ln lf v2 W hs hl.hn (hp.kept hW) hv2 (hr.kept hW))
  have hNN := hs.hn
  have HV1 := Lib.hid hv1
  have HV2 := Lib.hid hv2
  clear hl hs hp hq hr hv1 hv2 hK
  obtain ⟨x0, x1, xz, hB0⟩ := HX.out _ (Below.refl _ _)
  cases hv : peB n m s wn wf with
  | false =>
    rw [hv] at HO
    rw [cd_inv (fun h => by cases h.1)]
    clear hv
    go_enter Try.func91, Try.ntmps91
    go_wp2_with fail
    refine (HO.out _ BL.out).mono ?_
    rintro e w1 ⟨rfl, hb⟩
    have HB := Lib.hid (BL.out.trans (hb.mono BL.out.size))
    clear hb
    go_wp2
    go_ret
    exact ⟨rfl, HB.out⟩
  | true =>
    rw [hv] at HO
    clear hv
    go_enter Try.func91, Try.ntmps91
    go_wp2_with fail
    refine (HO.out _ BL.out).mono ?_
    rintro e w1 ⟨rfl, hb⟩
    obtain ⟨q0, q1, qz, hB1⟩ := HX.out _ hb
    have HB1 := Lib.hid hB1
    have HX1 := Lib.hid (fun V (hV : Below w1.heap.size w1 V) => HX.out V (hb.trans (hV.mono hb.size)))
    clear hb hB1 hB0 x0 x1 xz HO
    go_wp2_with fail
    refine (HN.out _ HB1.out).mono ?_
    rintro e w2 ⟨rfl, hb⟩
    obtain ⟨r0, r1, rz, hB2⟩ := HX1.out _ hb
    have HB2 := Lib.hid hB2
    have HX2 := Lib.hid (fun V (hV : Below w2.heap.size w2 V) => HX1.out V (hb.trans (hV.mono hb.size)))
    clear hb hB2 q0 q1 qz HN
    cases v1 with
    | false =>
      have HF := Lib.hid (cd_inv (v := true) (n := n) (s := s) (fun h : (true = true ∧ ∀ i, i < N → smB (lb i) (ln i) (lf i) = true) => by have := HV1.out.2 h.2; cases this))
      go_wp2
      go_ret
      exact ⟨by rw [HF.out]; rfl, HB2.out⟩
    | true =>
      have HA := Lib.hid (HV1.out.1 rfl)
      go_wp2_with fail
      refine (HLk.out _ HB2.out).mono ?_
      rintro e w3 ⟨rfl, hb⟩
      obtain ⟨s0, s1, sz, hB3⟩ := HX2.out _ hb
      have HB3 := Lib.hid hB3
      clear hb hB3 r0 r1 rz HLk
      cases v2 with
      | false =>
        have HF := Lib.hid (cd_not (v := true) (n := n) (s := s) ⟨rfl, HA.out⟩ (fun h => by have := HV2.out.2 h; cases this))
        go_wp2
        go_ret
        exact ⟨by rw [HF.out]; rfl, HB3.out⟩
      | true =>
        have HL2 := Lib.hid (HV2.out.1 rfl)
        by_cases h40 : N ≤ 40
        · have h1 : ¬ (40 : Int) < (N : Int) := by omega
          have d1 : decide ((40 : Int) < (N : Int)) = false := decide_eq_false h1
          have HF := Lib.hid (cd_ok (v := true) ⟨rfl, HA.out⟩ HL2.out h40)
          go_wp2
          go_ret
          exact ⟨by rw [HF.out]; rfl, HB3.out⟩
        · have h1 : (40 : Int) < (N : Int) := by omega
          have HF := Lib.hid (cd_rng (v := true) ⟨rfl, HA.out⟩ HL2.out h40)
          go_wp2
          go_ret
          exact ⟨by rw [HF.out]; rfl, HB3.out⟩
end Go.Proofs.Ytimkochgnjggdaa.smp
