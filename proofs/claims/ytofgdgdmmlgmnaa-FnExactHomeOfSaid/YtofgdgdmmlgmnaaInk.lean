/-
  Proved: both functions that tell whether ink is valid answer as the document's definition.
  Conditions: the ink's strokes lie in rows of their own.
-/
import Derived.Test.YtofgdgdmmlgmnaaStroke
namespace Go.Proofs.Ytofgdgdmmlgmnaa.ink
open Go.ChangeShapes Go.WideShapes Go.ChangeAt Go.RowKit Go.Joins
open Go.Proofs.Ytofgdgdmmlgmnaa.core Go.Proofs.Ytofgdgdmmlgmnaa.stk
set_option linter.unusedVariables false
set_option linter.unusedSimpArgs false
/-- The list's cells hold the strokes. -/
def InkAt (w : World) (A : Option Addr) (n : Nat) (ns : Nat → Nat) (ps : Nat → Nat → P3) : Prop :=
  ∀ i, i < n → ∃ G o : Nat, A = some ⟨G, o, none⟩ ∧ G < w.heap.size ∧ ∃ (B : Option Addr) (c : Nat), w.cell? ⟨G, o + i, none⟩ = some (.slice B (ns i) c) ∧ PtsAt w B (ns i) (ps i)
theorem InkAt.kept {w w' : World} {A : Option Addr} {n : Nat} {ns : Nat → Nat} {ps : Nat → Nat → P3} (h : InkAt w A n ns ps) (hb : Below w.heap.size w w') : InkAt w' A n ns ps := fun i hi => by
  obtain ⟨G, o, e, h1, B, c, h2, h3⟩ := h i hi
  exact ⟨G, o, e, Nat.lt_of_lt_of_le h1 hb.size, B, c, (hb.cell (p := ⟨G, o + i, none⟩) h1).trans h2, h3.kept hb⟩
def firstT (pts : Nat → P3) : Int := (pts 0).2.2
def lastT (n : Nat) (pts : Nat → P3) : Int := (pts (n - 1)).2.2
/-- The stroke at i is valid, and begins later than the one before it ends. -/
def okInkAt (ns : Nat → Nat) (ps : Nat → Nat → P3) (i : Nat) : Prop := vS (ns i) (ps i) = true ∧ (0 < i → lastT (ns (i - 1)) (ps (i - 1)) < firstT (ps i))
noncomputable def vI (n : Nat) (ns : Nat → Nat) (ps : Nat → Nat → P3) : Bool := @decide (n ≤ 16 ∧ ∀ i, i < n → okInkAt ns ps i) (Classical.propDecidable _)
theorem vI_true {n : Nat} {ns : Nat → Nat} {ps : Nat → Nat → P3} (h2 : n ≤ 16) (h : ∀ i, i < n → okInkAt ns ps i) : vI n ns ps = true := by
  unfold vI; exact @decide_eq_true _ (Classical.propDecidable _) ⟨h2, h⟩
theorem vI_size {n : Nat} {ns : Nat → Nat} {ps : Nat → Nat → P3} (h : ¬ n ≤ 16) : vI n ns ps = false := by
  unfold vI; exact @decide_eq_false _ (Classical.propDecidable _) fun ⟨a, _⟩ => h a
theorem vI_at {n : Nat} {ns : Nat → Nat} {ps : Nat → Nat → P3} (i : Nat) (hi : i < n) (h : ¬ okInkAt ns ps i) : vI n ns ps = false := by
  unfold vI; exact @decide_eq_false _ (Classical.propDecidable _) fun ⟨_, c⟩ => h (c i hi)
theorem vI_of {n : Nat} {ns : Nat → Nat} {ps : Nat → Nat → P3} (h : vI n ns ps = true) : n ≤ 16 ∧ ∀ i, i < n → okInkAt ns ps i := by
  unfold vI at h; exact @of_decide_eq_true _ (Classical.propDecidable _) h
theorem more {ns : Nat → Nat} {ps : Nat → Nat → P3} {k : Nat} (hall : ∀ j, j < k → okInkAt ns ps j) (h : okInkAt ns ps k) : ∀ j, j < k + 1 → okInkAt ns ps j := by
  intro j hj
  rcases Nat.lt_or_ge j k with h' | h'
  · exact hall j h'
  · obtain rfl : j = k := by omega
    exact h
theorem bad1 {ns : Nat → Nat} {ps : Nat → Nat → P3} {k : Nat} (hv : vS (ns k) (ps k) = false) : ¬ okInkAt ns ps k := fun ⟨h, _⟩ => by rw [hv] at h; cases h
theorem bad2 {ns : Nat → Nat} {ps : Nat → Nat → P3} {j : Nat} (hT : ¬ lastT (ns j) (ps j) < firstT (ps (j + 1))) : ¬ okInkAt ns ps (j + 1) := fun ⟨_, h⟩ => hT (by simpa using h (by omega))
theorem good {ns : Nat → Nat} {ps : Nat → Nat → P3} {j : Nat} (hv : vS (ns (j + 1)) (ps (j + 1)) = true) (hT : lastT (ns j) (ps j) < firstT (ps (j + 1))) : okInkAt ns ps (j + 1) := ⟨hv, fun _ => by simpa using hT⟩
set_option maxRecDepth 100000 in
set_option maxHeartbeats 4000000 in
theorem l02Last_calls {c o : Nat} (B : Option Addr) (b n : Nat) (pts : Nat → P3) (w : World) (h1 : 1 ≤ n) (hcap : n ≤ 1048576) (hbz : b < w.heap.size) (hs : w.cell? ⟨b, o, none⟩ = some (.slice B n c)) (hp : PtsAt w B n pts) :
    Calls Try.prog 93 #[.pointer (some ⟨b, o, none⟩)] w fun e w' => e = .returned (.int .i64 (lastT n pts)) ∧ Below w.heap.size w w' := by
  obtain ⟨m, rfl⟩ : ∃ m, n = m + 1 := ⟨n - 1, by omega⟩
  obtain ⟨g, o', rfl, hg, -, -, p2⟩ := hp m (by omega)
  have q := cell_kept (a := ⟨g, o' + m * 3 + 2, none⟩) hg p2
  have q0 := cell_kept (a := ⟨b, o, none⟩) hbz hs
  rw [show lastT (m + 1) pts = (pts m).2.2 from rfl]
  generalize (pts m).2.2 = t at q ⊢
  clear hp hs p2
  have hm := mixed
  have e1 : ((m + 1 : Nat) : Int) - 1 = (m : Int) := by omega
  have e2 : (m : Int) < ((m + 1 : Nat) : Int) := by omega
  go_enter Try.func93, Try.ntmps93
  go_wp2
  refine wp_region_quiet_kept (by assumption) (by kernel_rfl) ?_
  repeat (first | go_big_quiet_step (fail) | quiet_step (fail))
  refine wpQuiet_nil ?_
  intro _ hw'
  obtain ⟨⟨w2, hb2⟩, hw''⟩ := hw'
  subst hw''
  have HB2 := Lib.hid hb2
  clear hb2 q q0
  go_wp2
  go_ret
  exact ⟨rfl, HB2.out⟩
set_option maxRecDepth 100000 in
set_option maxHeartbeats 4000000 in
theorem later_calls {c c' : Nat} (B B' : Option Addr) (n n' : Nat) (pts pts' : Nat → P3) (w : World) (h1 : 1 ≤ n) (hcap : n ≤ 1048576) (h1' : 1 ≤ n') (hcap' : n' ≤ 1048576) (hp : PtsAt w B n pts) (hp' : PtsAt w B' n' pts') :
    Calls Try.prog 95 #[.agg #[.slice B n c], .agg #[.slice B' n' c']] w fun e w' => e = .returned (.bool (decide (lastT n' pts' < firstT pts))) ∧ Below w.heap.size w w' := by
  obtain ⟨m, rfl⟩ : ∃ m, n' = m + 1 := ⟨n' - 1, by omega⟩
  obtain ⟨g, o, rfl, hg, -, -, p2⟩ := hp 0 (by omega)
  obtain ⟨g', o', rfl, hg', -, -, p2'⟩ := hp' m (by omega)
  simp only [Nat.zero_mul, Nat.add_zero] at p2
  have z2 : ((w.alloc (.cells #[.slice (some ⟨g, o, none⟩) n c] 57)).alloc (.cells #[.slice (some ⟨g', o', none⟩) (m + 1) c'] 57)).heap.size = w.heap.size + 1 + 1 := by simp
  have q := cell_kept (w := ((w.alloc (.cells #[.slice (some ⟨g, o, none⟩) n c] 57)).alloc (.cells #[.slice (some ⟨g', o', none⟩) (m + 1) c'] 57))) (a := ⟨g, o + 2, none⟩) (by rw [z2]; show g < _; omega) (((below_alloc2 w _ _).cell (p := ⟨g, o + 2, none⟩) hg).trans p2)
  have q' := cell_kept (w := ((w.alloc (.cells #[.slice (some ⟨g, o, none⟩) n c] 57)).alloc (.cells #[.slice (some ⟨g', o', none⟩) (m + 1) c'] 57))) (a := ⟨g', o' + m * 3 + 2, none⟩) (by rw [z2]; show g' < _; omega) (((below_alloc2 w _ _).cell (p := ⟨g', o' + m * 3 + 2, none⟩) hg').trans p2')
  have q0 := cell_kept (w := ((w.alloc (.cells #[.slice (some ⟨g, o, none⟩) n c] 57)).alloc (.cells #[.slice (some ⟨g', o', none⟩) (m + 1) c'] 57))) (a := ⟨w.heap.size, 0, none⟩) (v := .slice (some ⟨g, o, none⟩) n c) (by rw [z2]; show w.heap.size < _; omega) (by simp)
  have q1 := cell_kept (w := ((w.alloc (.cells #[.slice (some ⟨g, o, none⟩) n c] 57)).alloc (.cells #[.slice (some ⟨g', o', none⟩) (m + 1) c'] 57))) (a := ⟨w.heap.size + 1, 0, none⟩) (v := .slice (some ⟨g', o', none⟩) (m + 1) c') (by rw [z2]; show w.heap.size + 1 < _; omega) (by simp)
  rw [show lastT (m + 1) pts' = (pts' m).2.2 from rfl, show firstT pts = (pts 0).2.2 from rfl]
  generalize (pts' m).2.2 = t' at q' ⊢
  generalize (pts 0).2.2 = t at q ⊢
  clear hp hp' z2 p2 p2'
  have hm := mixed
  have e0 : (0 : Int) < (n : Int) := by omega
  have e1 : ((m + 1 : Nat) : Int) - 1 = (m : Int) := by omega
  have e2 : (m : Int) < ((m + 1 : Nat) : Int) := by omega
  have e3 : 0 < n := by omega
  go_enter Try.func95, Try.ntmps95
  go_wp2
  refine wp_region_quiet_kept (by assumption) (by kernel_rfl) ?_
  repeat (first | go_big_quiet_step (fail) | quiet_step (fail))
  refine wpQuiet_nil ?_
  intro _ hw'
  obtain ⟨⟨w2, hb2⟩, hw''⟩ := hw'
  subst hw''
  have HB2 := Lib.hid ((below_alloc2 w _ _).trans (hb2.mono (below_alloc2 w _ _).size))
  clear hb2 q q' q0 q1
  go_wp2
  go_ret
  exact ⟨rfl, HB2.out⟩
set_option maxRecDepth 100000 in
set_option maxHeartbeats 4000000 in
theorem l02Ok_calls {o C : Nat} (A : Option Addr) (b n : Nat) (ns : Nat → Nat) (ps : Nat → Nat → P3) (w : World) (hcap : n ≤ 1048576) (hsm : ∀ i, i < n → ns i ≤ 1048576) (hbz : b < w.heap.size) (hs : w.cell? ⟨b, o, none⟩ = some (.slice A n C)) (hp : InkAt w A n ns ps) :
    Calls Try.prog 66 #[.pointer (some ⟨b, o, none⟩)] w fun e w' => e = .returned (.bool (vI n ns ps)) ∧ Below w.heap.size w w' := by
  have HP := Lib.hid hp
  have HS := Lib.hid hs
  have HMA := Lib.hid hsm
  clear hp hs hsm
  have hm := mixed
  have hu : undef = Value.tuple #[] := rfl
  go_enter Try.func66, Try.ntmps66
  go_wp2
  go_loopw [3] (fun i w' => ∃ k : Nat, k ≤ n ∧ i = .int .i64 k ∧ Hid (Below w.heap.size w w') ∧ Hid (∀ j, j < k → okInkAt ns ps j)) (fun i _ => n - (intOf i).toNat)
  case atStart => exact ⟨0, Nat.zero_le _, rfl, Lib.hid (Below.refl _ _), Lib.hid fun j hj => absurd hj (by omega)⟩
  case round =>
    obtain ⟨k, hk, rfl, HB, HA⟩ := hrel
    have hs := (HB.out.cell hbz).trans HS.out
    by_cases hlt : k < n
    · obtain ⟨G, o1, rfl, hg, B, c, p0, hpt⟩ := HP.out k hlt
      have HM := Lib.hid (HMA.out k hlt)
      go_wp2
      have hG : G < wr.heap.size := Nat.lt_of_lt_of_le hg HB.out.size
      have hbz' : b < wr.heap.size := Nat.lt_of_lt_of_le hbz HB.out.size
      have HPT := Lib.hid (hpt.kept HB.out)
      have q0 := cell_kept (a := ⟨G, o1 + k, none⟩) hG ((HB.out.cell (p := ⟨G, o1 + k, none⟩) hg).trans p0)
      have qb := cell_kept (a := ⟨b, o, none⟩) hbz' hs
      clear p0 hpt hs
      have hli : (k : Int) < (n : Int) := by omega
      cases hv : vS (ns k) (ps k) with
      | false =>
        have HV := Lib.hid hv
        have HF := Lib.hid (vI_at k hlt (bad1 hv))
        clear hv HA
        obtain ⟨nk, hnk⟩ : ∃ m, ns k = m := ⟨_, rfl⟩
        obtain ⟨pk, hpk⟩ : ∃ m, ps k = m := ⟨_, rfl⟩
        rw [hnk, hpk] at HV HPT
        rw [hnk] at q0 HM
        clear hnk hpk
        refine wp_region_quiet_kept (by assumption) (by kernel_rfl) ?_
        repeat (first | go_big_quiet_step (((go_at_call 59; exact Calls.kept_of ((l02Stroke_calls (c := c) (o := o1 + k) B G nk pk _ HM.out (kept_lt hG _) (q0 _) (HPT.out.kept (Kept.below _))).mono fun _ _ ⟨he, hb⟩ => ⟨by rw [he, HV.out], hb⟩)))) | quiet_step (((go_at_call 59; exact Calls.kept_of ((l02Stroke_calls (c := c) (o := o1 + k) B G nk pk _ HM.out (kept_lt hG _) (q0 _) (HPT.out.kept (Kept.below _))).mono fun _ _ ⟨he, hb⟩ => ⟨by rw [he, HV.out], hb⟩)))))
        refine wpQuiet_nil ?_
        intro _ hw'
        obtain ⟨⟨w2, hb2⟩, hw''⟩ := hw'
        subst hw''
        have HB2 := Lib.hid (HB.out.trans (hb2.mono HB.out.size))
        clear hb2 q0 qb hli
        go_wp2
        go_ret
        exact ⟨by rw [HF.out]; rfl, HB2.out⟩
      | true =>
        have HV := Lib.hid hv
        have hp1 := (vS_of hv).1
        clear hv
        by_cases hk0 : k = 0
        · have e0 : decide (0 < k) = false := decide_eq_false (by omega)
          have HA2 := Lib.hid (more HA.out ⟨HV.out, fun h => absurd h (by omega)⟩)
          clear HA hk0 hp1
          obtain ⟨nk, hnk⟩ : ∃ m, ns k = m := ⟨_, rfl⟩
          obtain ⟨pk, hpk⟩ : ∃ m, ps k = m := ⟨_, rfl⟩
          rw [hnk, hpk] at HV HPT
          rw [hnk] at q0 HM
          clear hnk hpk
          refine wp_region_quiet_kept (by assumption) (by kernel_rfl) ?_
          repeat (first | go_big_quiet_step (((go_at_call 59; exact Calls.kept_of ((l02Stroke_calls (c := c) (o := o1 + k) B G nk pk _ HM.out (kept_lt hG _) (q0 _) (HPT.out.kept (Kept.below _))).mono fun _ _ ⟨he, hb⟩ => ⟨by rw [he, HV.out], hb⟩)))) | quiet_step (((go_at_call 59; exact Calls.kept_of ((l02Stroke_calls (c := c) (o := o1 + k) B G nk pk _ HM.out (kept_lt hG _) (q0 _) (HPT.out.kept (Kept.below _))).mono fun _ _ ⟨he, hb⟩ => ⟨by rw [he, HV.out], hb⟩)))))
          refine wpQuiet_nil ?_
          intro _ hw'
          obtain ⟨⟨w2, hb2⟩, hw''⟩ := hw'
          subst hw''
          have HB2 := Lib.hid (HB.out.trans (hb2.mono HB.out.size))
          clear hb2 q0 qb hli e0
          go_wp2
          go_roundw
          case rel => exact ⟨k + 1, by omega, by go_num, HB2, HA2⟩
          case measure => simp [intOf]; omega
        · obtain ⟨j, rfl⟩ : ∃ j, k = j + 1 := ⟨k - 1, by omega⟩
          have e0 : (0 : Int) < ((j + 1 : Nat) : Int) := by omega
          obtain ⟨G', o2, e3, -, B', d, p0', hpt'⟩ := HP.out j (by omega)
          injection e3 with e3
          injection e3 with e3 e4
          subst e3 e4
          have HMJ := Lib.hid (HMA.out j (by omega))
          have hq1 := (vS_of (HA.out j (by omega)).1).1
          have HPT' := Lib.hid (hpt'.kept HB.out)
          have q1 := cell_kept (a := ⟨G, o1 + j, none⟩) hG ((HB.out.cell (p := ⟨G, o1 + j, none⟩) hg).trans p0')
          obtain ⟨g, o', eB, hgz, -, -, r2⟩ := HPT.out 0 hp1
          simp only [Nat.zero_mul, Nat.add_zero] at r2
          have q2 := cell_kept (a := ⟨g, o' + 2, none⟩) hgz r2
          subst eB
          have e1 : ((j + 1 : Nat) : Int) - 1 = (j : Int) := by omega
          have e2 : (j : Int) < (n : Int) := by omega
          have e3 : (0 : Int) < ((ns (j + 1) : Nat) : Int) := by omega
          have hp1' : 0 < ns (j + 1) := hp1
          clear p0' hpt' hk0 r2
          have HG := Lib.hid (show lastT (ns j) (ps j) < (ps (j + 1) 0).2.2 → okInkAt ns ps (j + 1) from fun h => good HV.out h)
          have HGN := Lib.hid (show ¬ lastT (ns j) (ps j) < (ps (j + 1) 0).2.2 → vI n ns ps = false from fun h => vI_at (j + 1) hlt (bad2 h))
          obtain ⟨ft, hft⟩ : ∃ t, (ps (j + 1) 0).2.2 = t := ⟨_, rfl⟩
          obtain ⟨lt, hlt2⟩ : ∃ t, lastT (ns j) (ps j) = t := ⟨_, rfl⟩
          have HLT := Lib.hid hlt2
          rw [hft] at q2 HG HGN
          rw [hlt2] at HG HGN
          clear hft hlt2
          by_cases hT : ft ≤ lt
          · have HF := Lib.hid (HGN.out (by omega))
            clear HA HG HGN
            refine wp_region_quiet_kept (by assumption) (by kernel_rfl) ?_
            repeat (first | go_big_quiet_step ((first | (go_at_call 59; exact Calls.kept_of ((l02Stroke_calls (c := c) (o := o1 + j + 1) (some ⟨g, o', none⟩) G (ns (j + 1)) (ps (j + 1)) _ HM.out (kept_lt hG _) (q0 _) (HPT.out.kept (Kept.below _))).mono fun _ _ ⟨he, hb⟩ => ⟨by rw [he, HV.out], hb⟩)) | (go_at_call 93; exact Calls.kept_of ((l02Last_calls (c := d) (o := o1 + j) B' G (ns j) (ps j) _ hq1 HMJ.out (kept_lt hG _) (q1 _) (HPT'.out.kept (Kept.below _))).mono fun _ _ ⟨he, hb⟩ => ⟨by rw [he, HLT.out], hb⟩)))) | quiet_step ((first | (go_at_call 59; exact Calls.kept_of ((l02Stroke_calls (c := c) (o := o1 + j + 1) (some ⟨g, o', none⟩) G (ns (j + 1)) (ps (j + 1)) _ HM.out (kept_lt hG _) (q0 _) (HPT.out.kept (Kept.below _))).mono fun _ _ ⟨he, hb⟩ => ⟨by rw [he, HV.out], hb⟩)) | (go_at_call 93; exact Calls.kept_of ((l02Last_calls (c := d) (o := o1 + j) B' G (ns j) (ps j) _ hq1 HMJ.out (kept_lt hG _) (q1 _) (HPT'.out.kept (Kept.below _))).mono fun _ _ ⟨he, hb⟩ => ⟨by rw [he, HLT.out], hb⟩)))))
            refine wpQuiet_nil ?_
            intro _ hw'
            obtain ⟨⟨w2, hb2⟩, hw''⟩ := hw'
            subst hw''
            have HB2 := Lib.hid (HB.out.trans (hb2.mono HB.out.size))
            clear hb2 q0 q1 q2 qb hli e0 e1 e2 e3
            go_wp2
            go_ret
            exact ⟨by rw [HF.out]; rfl, HB2.out⟩
          · have e4 : decide (ft ≤ lt) = false := decide_eq_false hT
            have HA2 := Lib.hid (more HA.out (HG.out (by omega)))
            clear HA hT HG HGN
            refine wp_region_quiet_kept (by assumption) (by kernel_rfl) ?_
            repeat (first | go_big_quiet_step ((first | (go_at_call 59; exact Calls.kept_of ((l02Stroke_calls (c := c) (o := o1 + j + 1) (some ⟨g, o', none⟩) G (ns (j + 1)) (ps (j + 1)) _ HM.out (kept_lt hG _) (q0 _) (HPT.out.kept (Kept.below _))).mono fun _ _ ⟨he, hb⟩ => ⟨by rw [he, HV.out], hb⟩)) | (go_at_call 93; exact Calls.kept_of ((l02Last_calls (c := d) (o := o1 + j) B' G (ns j) (ps j) _ hq1 HMJ.out (kept_lt hG _) (q1 _) (HPT'.out.kept (Kept.below _))).mono fun _ _ ⟨he, hb⟩ => ⟨by rw [he, HLT.out], hb⟩)))) | quiet_step ((first | (go_at_call 59; exact Calls.kept_of ((l02Stroke_calls (c := c) (o := o1 + j + 1) (some ⟨g, o', none⟩) G (ns (j + 1)) (ps (j + 1)) _ HM.out (kept_lt hG _) (q0 _) (HPT.out.kept (Kept.below _))).mono fun _ _ ⟨he, hb⟩ => ⟨by rw [he, HV.out], hb⟩)) | (go_at_call 93; exact Calls.kept_of ((l02Last_calls (c := d) (o := o1 + j) B' G (ns j) (ps j) _ hq1 HMJ.out (kept_lt hG _) (q1 _) (HPT'.out.kept (Kept.below _))).mono fun _ _ ⟨he, hb⟩ => ⟨by rw [he, HLT.out], hb⟩)))))
            refine wpQuiet_nil ?_
            intro _ hw'
            obtain ⟨⟨w2, hb2⟩, hw''⟩ := hw'
            subst hw''
            have HB2 := Lib.hid (HB.out.trans (hb2.mono HB.out.size))
            clear hb2 q0 q1 q2 qb hli e0 e1 e2 e3 e4
            go_wp2
            go_roundw
            case rel => exact ⟨j + 1 + 1, by omega, by go_num, HB2, HA2⟩
            case measure => simp [intOf]; omega
    · by_cases h16 : n ≤ 16
      · have HF := Lib.hid (vI_true h16 (fun j hj => HA.out j (by omega)))
        clear HA
        go_wp2
        go_ret
        exact ⟨ret_bool (a := decide ((n : Int) ≤ 16)) (by rw [HF.out]; exact decide_eq_true (by omega)), HB.out⟩
      · have HF := Lib.hid (vI_size (n := n) (ns := ns) (ps := ps) h16)
        clear HA
        go_wp2
        go_ret
        exact ⟨ret_bool (a := decide ((n : Int) ≤ 16)) (by rw [HF.out]; exact decide_eq_false (by omega)), HB.out⟩
set_option maxRecDepth 100000 in
set_option maxHeartbeats 4000000 in
theorem implValidInk_loop {C : Nat} (A : Option Addr) (n : Nat) (ns : Nat → Nat) (ps : Nat → Nat → P3) (w : World) (h16 : n ≤ 16) (hsm : ∀ i, i < n → ns i ≤ 1048576) (hp : InkAt w A n ns ps) :
    Calls Try.prog 70 #[.agg #[.slice A n C]] w fun e w' => e = .returned (.bool (vI n ns ps)) ∧ Below w.heap.size w w' := by
  have HP := Lib.hid hp
  have HMA := Lib.hid hsm
  clear hp hsm
  have hm := mixed
  have hu : undef = Value.tuple #[] := rfl
  go_enter Try.func70, Try.ntmps70
  go_wp2
  go_loopw [12] (fun i w' => ∃ k : Nat, k ≤ n ∧ i = .int .i64 k ∧ Hid (Below w.heap.size w w') ∧ Hid (w'.cell? ⟨w.heap.size, 0, none⟩ = some (.slice A n C)) ∧ w.heap.size < w'.heap.size ∧ Hid (∀ j, j < k → okInkAt ns ps j)) (fun i _ => n - (intOf i).toNat)
  case atStart => exact ⟨0, Nat.zero_le _, rfl, Lib.hid (below_alloc1 _ _), Lib.hid (by simp), by simp, Lib.hid fun j hj => absurd hj (by omega)⟩
  case round =>
    obtain ⟨k, hk, rfl, HB, HS, hz, HA⟩ := hrel
    by_cases hlt : k < n
    · obtain ⟨G, o1, rfl, hg, B, c, p0, hpt⟩ := HP.out k hlt
      have HM := Lib.hid (HMA.out k hlt)
      have q0 := (HB.out.cell (p := ⟨G, o1 + k, none⟩) hg).trans p0
      clear p0
      go_wp2
      clear q0
      generalize hW : wr.alloc (.cells #[.slice B (ns k) c] 57) = W
      have hWb : Below wr.heap.size wr W := by rw [← hW]; exact below_alloc1 _ _
      have hWz : W.heap.size = wr.heap.size + 1 := by rw [← hW]; simp
      have hW0 : W.cell? ⟨wr.heap.size, 0, none⟩ = some (.slice B (ns k) c) := by rw [← hW]; simp
      clear hW
      have hG : G < W.heap.size := by have := HB.out.size; omega
      have HBW := Lib.hid (HB.out.trans (hWb.mono HB.out.size))
      have HPT := Lib.hid (hpt.kept HBW.out)
      have q0 := cell_kept (a := ⟨wr.heap.size, 0, none⟩) (show wr.heap.size < W.heap.size by omega) hW0
      have qs0 := (hWb.cell (p := ⟨w.heap.size, 0, none⟩) hz).trans HS.out
      have HS2 := Lib.hid qs0
      have hz2 : w.heap.size < W.heap.size := by omega
      have qb := cell_kept (a := ⟨w.heap.size, 0, none⟩) hz2 qs0
      clear hpt hWb hWz hW0 HB HS hz qs0
      have hli : (k : Int) < (n : Int) := by omega
      cases hv : vS (ns k) (ps k) with
      | false =>
        have HV := Lib.hid hv
        have HF := Lib.hid (vI_at k hlt (bad1 hv))
        clear hv HA
        obtain ⟨nk, hnk⟩ : ∃ m, ns k = m := ⟨_, rfl⟩
        obtain ⟨pk, hpk⟩ : ∃ m, ps k = m := ⟨_, rfl⟩
        rw [hnk, hpk] at HV HPT
        rw [hnk] at q0 HM
        clear hnk hpk
        refine wp_region_quiet_kept (by assumption) (by kernel_rfl) ?_
        repeat (first | go_big_quiet_step (((go_at_call 87; exact Calls.kept_of ((implValid_calls (c := c) B nk pk _ HM.out (HPT.out.kept (Kept.below _))).mono fun _ _ ⟨he, hb⟩ => ⟨by rw [he, HV.out], hb⟩)))) | quiet_step (((go_at_call 87; exact Calls.kept_of ((implValid_calls (c := c) B nk pk _ HM.out (HPT.out.kept (Kept.below _))).mono fun _ _ ⟨he, hb⟩ => ⟨by rw [he, HV.out], hb⟩)))))
        refine wpQuiet_nil ?_
        intro _ hw'
        obtain ⟨⟨w2, hb2⟩, hw''⟩ := hw'
        subst hw''
        have HB2 := Lib.hid (HBW.out.trans (hb2.mono HBW.out.size))
        clear hb2 q0 qb hli
        go_wp2
        go_ret
        exact ⟨by rw [HF.out]; rfl, HB2.out⟩
      | true =>
        have HV := Lib.hid hv
        have hp1 := (vS_of hv).1
        clear hv
        by_cases hk0 : k = 0
        · have e0 : decide (0 < k) = false := decide_eq_false (by omega)
          have HA2 := Lib.hid (more HA.out ⟨HV.out, fun h => absurd h (by omega)⟩)
          clear HA hk0 hp1
          obtain ⟨nk, hnk⟩ : ∃ m, ns k = m := ⟨_, rfl⟩
          obtain ⟨pk, hpk⟩ : ∃ m, ps k = m := ⟨_, rfl⟩
          rw [hnk, hpk] at HV HPT
          rw [hnk] at q0 HM
          clear hnk hpk
          refine wp_region_quiet_kept (by assumption) (by kernel_rfl) ?_
          repeat (first | go_big_quiet_step (((go_at_call 87; exact Calls.kept_of ((implValid_calls (c := c) B nk pk _ HM.out (HPT.out.kept (Kept.below _))).mono fun _ _ ⟨he, hb⟩ => ⟨by rw [he, HV.out], hb⟩)))) | quiet_step (((go_at_call 87; exact Calls.kept_of ((implValid_calls (c := c) B nk pk _ HM.out (HPT.out.kept (Kept.below _))).mono fun _ _ ⟨he, hb⟩ => ⟨by rw [he, HV.out], hb⟩)))))
          refine wpQuiet_nil ?_
          intro _ hw'
          obtain ⟨⟨w2, hb2⟩, hw''⟩ := hw'
          subst hw''
          have HB2 := Lib.hid (HBW.out.trans (hb2.mono HBW.out.size))
          have HS3 := Lib.hid ((hb2.cell (p := ⟨w.heap.size, 0, none⟩) hz2).trans HS2.out)
          have hz3 := Nat.lt_of_lt_of_le hz2 hb2.size
          clear hb2 q0 qb hli e0
          go_wp2
          go_roundw
          case rel => exact ⟨k + 1, by omega, by go_num, HB2, HS3, hz3, HA2⟩
          case measure => simp [intOf]; omega
        · obtain ⟨j, rfl⟩ : ∃ j, k = j + 1 := ⟨k - 1, by omega⟩
          have e0 : (0 : Int) < ((j + 1 : Nat) : Int) := by omega
          obtain ⟨G', o2, e3, -, B', d, p0', hpt'⟩ := HP.out j (by omega)
          injection e3 with e3
          injection e3 with e3 e4
          subst e3 e4
          have HMJ := Lib.hid (HMA.out j (by omega))
          have hq1 := (vS_of (HA.out j (by omega)).1).1
          have HPT' := Lib.hid (hpt'.kept HBW.out)
          have q1 := cell_kept (a := ⟨G, o1 + j, none⟩) hG ((HBW.out.cell (p := ⟨G, o1 + j, none⟩) hg).trans p0')
          have e1 : ((j + 1 : Nat) : Int) - 1 = (j : Int) := by omega
          have e2 : (j : Int) < (n : Int) := by omega
          clear p0' hpt' hk0
          by_cases hT : lastT (ns j) (ps j) < firstT (ps (j + 1))
          · have HD := Lib.hid (show decide (lastT (ns j) (ps j) < firstT (ps (j + 1))) = true from decide_eq_true hT)
            have HA2 := Lib.hid (more HA.out (good HV.out hT))
            clear HA hT
            refine wp_region_quiet_kept (by assumption) (by kernel_rfl) ?_
            repeat (first | go_big_quiet_step ((first | (go_at_call 87; exact Calls.kept_of ((implValid_calls (c := c) B (ns (j + 1)) (ps (j + 1)) _ HM.out (HPT.out.kept (Kept.below _))).mono fun _ _ ⟨he, hb⟩ => ⟨by rw [he, HV.out], hb⟩)) | (go_at_call 95; exact Calls.kept_of ((later_calls (c := c) (c' := d) B B' (ns (j + 1)) (ns j) (ps (j + 1)) (ps j) _ hp1 HM.out hq1 HMJ.out (HPT.out.kept (Kept.below _)) (HPT'.out.kept (Kept.below _))).mono fun _ _ ⟨he, hb⟩ => ⟨by rw [he, HD.out], hb⟩)))) | quiet_step ((first | (go_at_call 87; exact Calls.kept_of ((implValid_calls (c := c) B (ns (j + 1)) (ps (j + 1)) _ HM.out (HPT.out.kept (Kept.below _))).mono fun _ _ ⟨he, hb⟩ => ⟨by rw [he, HV.out], hb⟩)) | (go_at_call 95; exact Calls.kept_of ((later_calls (c := c) (c' := d) B B' (ns (j + 1)) (ns j) (ps (j + 1)) (ps j) _ hp1 HM.out hq1 HMJ.out (HPT.out.kept (Kept.below _)) (HPT'.out.kept (Kept.below _))).mono fun _ _ ⟨he, hb⟩ => ⟨by rw [he, HD.out], hb⟩)))))
            refine wpQuiet_nil ?_
            intro _ hw'
            obtain ⟨⟨w2, hb2⟩, hw''⟩ := hw'
            subst hw''
            have HB2 := Lib.hid (HBW.out.trans (hb2.mono HBW.out.size))
            have HS3 := Lib.hid ((hb2.cell (p := ⟨w.heap.size, 0, none⟩) hz2).trans HS2.out)
            have hz3 := Nat.lt_of_lt_of_le hz2 hb2.size
            clear hb2 q0 q1 qb hli e0 e1 e2
            go_wp2
            go_roundw
            case rel => exact ⟨j + 1 + 1, by omega, by go_num, HB2, HS3, hz3, HA2⟩
            case measure => simp [intOf]; omega
          · have HD := Lib.hid (show decide (lastT (ns j) (ps j) < firstT (ps (j + 1))) = false from decide_eq_false hT)
            have HF := Lib.hid (vI_at (j + 1) hlt (bad2 hT))
            clear HA hT
            refine wp_region_quiet_kept (by assumption) (by kernel_rfl) ?_
            repeat (first | go_big_quiet_step ((first | (go_at_call 87; exact Calls.kept_of ((implValid_calls (c := c) B (ns (j + 1)) (ps (j + 1)) _ HM.out (HPT.out.kept (Kept.below _))).mono fun _ _ ⟨he, hb⟩ => ⟨by rw [he, HV.out], hb⟩)) | (go_at_call 95; exact Calls.kept_of ((later_calls (c := c) (c' := d) B B' (ns (j + 1)) (ns j) (ps (j + 1)) (ps j) _ hp1 HM.out hq1 HMJ.out (HPT.out.kept (Kept.below _)) (HPT'.out.kept (Kept.below _))).mono fun _ _ ⟨he, hb⟩ => ⟨by rw [he, HD.out], hb⟩)))) | quiet_step ((first | (go_at_call 87; exact Calls.kept_of ((implValid_calls (c := c) B (ns (j + 1)) (ps (j + 1)) _ HM.out (HPT.out.kept (Kept.below _))).mono fun _ _ ⟨he, hb⟩ => ⟨by rw [he, HV.out], hb⟩)) | (go_at_call 95; exact Calls.kept_of ((later_calls (c := c) (c' := d) B B' (ns (j + 1)) (ns j) (ps (j + 1)) (ps j) _ hp1 HM.out hq1 HMJ.out (HPT.out.kept (Kept.below _)) (HPT'.out.kept (Kept.below _))).mono fun _ _ ⟨he, hb⟩ => ⟨by rw [he, HD.out], hb⟩)))))
            refine wpQuiet_nil ?_
            intro _ hw'
            obtain ⟨⟨w2, hb2⟩, hw''⟩ := hw'
            subst hw''
            have HB2 := Lib.hid (HBW.out.trans (hb2.mono HBW.out.size))
            clear hb2 q0 q1 qb hli e0 e1 e2
            go_wp2
            go_ret
            exact ⟨by rw [HF.out]; rfl, HB2.out⟩
    · have HF := Lib.hid (vI_true h16 (fun j hj => HA.out j (by omega)))
      clear HA
      go_wp2
      go_ret
      exact ⟨by rw [HF.out]; rfl, HB.out⟩
theorem implValidInk_calls {C : Nat} (A : Option Addr) (n : Nat) (ns : Nat → Nat) (ps : Nat → Nat → P3) (w : World) (hcap : n ≤ 1048576) (hsm : ∀ i, i < n → ns i ≤ 1048576) (hp : InkAt w A n ns ps) :
    Calls Try.prog 70 #[.agg #[.slice A n C]] w fun e w' => e = .returned (.bool (vI n ns ps)) ∧ Below w.heap.size w w' := by
  by_cases h16 : n ≤ 16
  · exact implValidInk_loop A n ns ps w h16 hsm hp
  · have HF := Lib.hid (vI_size (n := n) (ns := ns) (ps := ps) h16)
    clear hp hsm
    go_enter Try.func70, Try.ntmps70
    go_wp2
    go_ret
    exact ⟨by rw [HF.out]; rfl, below_alloc1 _ _⟩
end Go.Proofs.Ytofgdgdmmlgmnaa.ink
