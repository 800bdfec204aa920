/-
  Proved: both functions that tell whether ink is valid answer as the document's definition (contracts of the callees of the laws on ink).
  Conditions: the ink's strokes lie in a row of their own.
-/
import Derived.Test.YtklfmlbokedbdaaInks
namespace Go.Proofs.Ytklfmlbokedbdaa.inkOk
open Go.ChangeShapes Go.WideShapes Go.ChangeAt Go.RowKit Go.Joins
open Go.Proofs.Ytklfmlbokedbdaa.join Go.Proofs.Ytklfmlbokedbdaa.strokes Go.Proofs.Ytklfmlbokedbdaa.valid Go.Proofs.Ytklfmlbokedbdaa.inks
set_option linter.unusedVariables false

theorem vS_pos {pts : List P3} (h : vS pts = true) : 1 ≤ pts.length ∧ pts.length ≤ 60 := by
  unfold vS at h
  have := @of_decide_eq_true _ (Classical.propDecidable _) h
  exact ⟨this.1, this.2.1⟩
def firstT (pts : List P3) : Int := ((pts[0]?).getD (0, 0, 0)).2.2
def lastT (pts : List P3) : Int := ((pts[pts.length - 1]?).getD (0, 0, 0)).2.2
theorem first_cell {w : World} {g : Nat} {pts : List P3} (hp : Pts w g pts) (h : 1 ≤ pts.length) : w.cell? ⟨g, 2, none⟩ = some (.int .i64 (firstT pts)) := by
  have e : pts[0]? = some pts[0] := List.getElem?_eq_getElem (by omega)
  have := (hp 0 _ e).2.2
  unfold firstT
  rw [e]
  simpa using this
theorem last_cell {w : World} {g : Nat} {pts : List P3} (hp : Pts w g pts) (m : Nat) (h : pts.length = m + 1) : w.cell? ⟨g, m * 3 + 2, none⟩ = some (.int .i64 (lastT pts)) := by
  have e : pts[m]? = some (pts[m]'(by omega)) := List.getElem?_eq_getElem (by omega)
  unfold lastT
  rw [show pts.length - 1 = m by omega, e]
  exact (hp m _ e).2.2

set_option maxRecDepth 100000 in
set_option maxHeartbeats 2000000 in
theorem l02Last_calls {c o : Nat} (b g n : Nat) (pts : List P3) (w : World) (hn : pts.length = n) (h1 : 1 ≤ n) (hcap : n ≤ 1048576) (hg : g < w.heap.size) (hbz : b < w.heap.size) (hs : w.cell? ⟨b, o, none⟩ = some (.slice (some ⟨g, 0, none⟩) n c)) (hp : Pts w g pts) :
    Calls Try.prog 66 #[.pointer (some ⟨b, o, none⟩)] w fun e w' => e = .returned (.int .i64 (lastT pts)) ∧ Below w.heap.size w w' := by
  obtain ⟨m, rfl⟩ : ∃ m, n = m + 1 := ⟨n - 1, by omega⟩
  have q := cell_kept (a := ⟨g, m * 3 + 2, none⟩) hg (last_cell hp m hn)
  have q0 := cell_kept (a := ⟨b, o, none⟩) hbz hs
  generalize lastT pts = t at q ⊢
  clear hn hp hs
  have hm := mixed
  have e1 : ((m + 1 : Nat) : Int) - 1 = (m : Int) := by omega
  have e2 : (m : Int) < ((m + 1 : Nat) : Int) := by omega
  go_enter Try.func66, Try.ntmps66
  go_wp2
  refine wp_region_quiet_kept (by assumption) (by kernel_rfl) ?_
  repeat (first | go_big_quiet_step (fail) | quiet_step (fail))
  refine wpQuiet_nil ?_
  intro _ hw'
  obtain ⟨⟨w2, hb2⟩, hw''⟩ := hw'
  subst hw''
  have HB2 := Lib.hid hb2
  clear hb2 q q0
  go_wp2
  go_ret
  exact ⟨rfl, HB2.out⟩

set_option maxRecDepth 100000 in
set_option maxHeartbeats 2000000 in
theorem later_calls {c c' : Nat} (g n g' n' : Nat) (pts pts' : List P3) (w : World) (hn : pts.length = n) (h1 : 1 ≤ n) (hcap : n ≤ 1048576) (hn' : pts'.length = n') (h1' : 1 ≤ n') (hcap' : n' ≤ 1048576) (hg : g < w.heap.size) (hg' : g' < w.heap.size) (hp : Pts w g pts) (hp' : Pts w g' pts') :
    Calls Try.prog 55 #[.agg #[.slice (some ⟨g, 0, none⟩) n c], .agg #[.slice (some ⟨g', 0, none⟩) n' c']] w fun e w' => e = .returned (.bool (decide (lastT pts' < firstT pts))) ∧ Below w.heap.size w w' := by
  obtain ⟨m, rfl⟩ : ∃ m, n' = m + 1 := ⟨n' - 1, by omega⟩
  have z2 : ((w.alloc (.cells #[.slice (some ⟨g, 0, none⟩) n c] 29)).alloc (.cells #[.slice (some ⟨g', 0, none⟩) (m + 1) c'] 29)).heap.size = w.heap.size + 1 + 1 := by simp
  have q := cell_kept (w := (w.alloc (.cells #[.slice (some ⟨g, 0, none⟩) n c] 29)).alloc (.cells #[.slice (some ⟨g', 0, none⟩) (m + 1) c'] 29)) (a := ⟨g, 2, none⟩) (by rw [z2]; show g < _; omega) (first_cell (hp.below (below_alloc2 _ _ _) hg) (by omega))
  have q' := cell_kept (w := (w.alloc (.cells #[.slice (some ⟨g, 0, none⟩) n c] 29)).alloc (.cells #[.slice (some ⟨g', 0, none⟩) (m + 1) c'] 29)) (a := ⟨g', m * 3 + 2, none⟩) (by rw [z2]; show g' < _; omega) (last_cell (hp'.below (below_alloc2 _ _ _) hg') m hn')
  have q0 := cell_kept (w := (w.alloc (.cells #[.slice (some ⟨g, 0, none⟩) n c] 29)).alloc (.cells #[.slice (some ⟨g', 0, none⟩) (m + 1) c'] 29)) (a := ⟨w.heap.size, 0, none⟩) (v := .slice (some ⟨g, 0, none⟩) n c) (by rw [z2]; show w.heap.size < _; omega) (by simp)
  have q1 := cell_kept (w := (w.alloc (.cells #[.slice (some ⟨g, 0, none⟩) n c] 29)).alloc (.cells #[.slice (some ⟨g', 0, none⟩) (m + 1) c'] 29)) (a := ⟨w.heap.size + 1, 0, none⟩) (v := .slice (some ⟨g', 0, none⟩) (m + 1) c') (by rw [z2]; show w.heap.size + 1 < _; omega) (by simp)
  generalize lastT pts' = t' at q' ⊢
  generalize firstT pts = t at q ⊢
  clear hn hp hn' hp' z2
  have hm := mixed
  have e0 : (0 : Int) < (n : Int) := by omega
  have e1 : ((m + 1 : Nat) : Int) - 1 = (m : Int) := by omega
  have e2 : (m : Int) < ((m + 1 : Nat) : Int) := by omega
  have e3 : 0 < n := by omega
  go_enter Try.func55, Try.ntmps55
  go_wp2
  refine wp_region_quiet_kept (by assumption) (by kernel_rfl) ?_
  repeat (first | go_big_quiet_step (fail) | quiet_step (fail))
  refine wpQuiet_nil ?_
  intro _ hw'
  obtain ⟨⟨w2, hb2⟩, hw''⟩ := hw'
  subst hw''
  have HB2 := Lib.hid ((below_alloc2 w _ _).trans (hb2.mono (below_alloc2 w _ _).size))
  clear hb2 q q' q0 q1
  go_wp2
  go_ret
  exact ⟨rfl, HB2.out⟩
/-- The stroke at i is valid, and begins later than the one before it ends. -/
def okInkAt (ink : List (List P3)) (i : Nat) : Prop := ∃ pts, ink[i]? = some pts ∧ vS pts = true ∧ (0 < i → ∃ q, ink[i - 1]? = some q ∧ lastT q < firstT pts)
noncomputable def vI (ink : List (List P3)) : Bool := @decide (ink.length ≤ 16 ∧ ∀ i, i < ink.length → okInkAt ink i) (Classical.propDecidable _)
theorem vI_true {ink : List (List P3)} (h2 : ink.length ≤ 16) (h : ∀ i, i < ink.length → okInkAt ink i) : vI ink = true := by
  unfold vI; exact @decide_eq_true _ (Classical.propDecidable _) ⟨h2, h⟩
theorem vI_size {ink : List (List P3)} (h : ¬ ink.length ≤ 16) : vI ink = false := by
  unfold vI; exact @decide_eq_false _ (Classical.propDecidable _) fun ⟨a, _⟩ => h a
theorem vI_at {ink : List (List P3)} (i : Nat) (hi : i < ink.length) (h : ¬ okInkAt ink i) : vI ink = false := by
  unfold vI; exact @decide_eq_false _ (Classical.propDecidable _) fun ⟨_, c⟩ => h (c i hi)
theorem vI_out {ink : List (List P3)} (h : vI ink = true) : ink.length ≤ 16 ∧ ∀ i, i < ink.length → okInkAt ink i := by
  unfold vI at h; exact @of_decide_eq_true _ (Classical.propDecidable _) h
theorem more {ink : List (List P3)} {k : Nat} (hall : ∀ j, j < k → okInkAt ink j) (h : okInkAt ink k) : ∀ j, j < k + 1 → okInkAt ink j := by
  intro j hj
  rcases Nat.lt_or_ge j k with h' | h'
  · exact hall j h'
  · obtain rfl : j = k := by omega
    exact h
theorem bad1 {ink : List (List P3)} {k : Nat} {pts : List P3} (hk : ink[k]? = some pts) (hv : vS pts = false) : ¬ okInkAt ink k := fun ⟨p', e, h, _⟩ => by
  rw [hk] at e; injection e with e; subst e; rw [hv] at h; cases h
theorem bad2 {ink : List (List P3)} {j : Nat} {pts qts : List P3} (hk : ink[j + 1]? = some pts) (hj : ink[j]? = some qts) (hT : ¬ lastT qts < firstT pts) : ¬ okInkAt ink (j + 1) := fun ⟨p', e, h, h'⟩ => by
  rw [hk] at e
  injection e with e
  subst e
  obtain ⟨q', e', hq⟩ := h' (by omega)
  rw [show j + 1 - 1 = j from rfl, hj] at e'
  injection e' with e'
  subst e'
  exact hT hq

set_option maxRecDepth 100000 in
set_option maxHeartbeats 4000000 in
theorem l02Ok_calls {o C : Nat} (b G n : Nat) (ink : List (List P3)) (w : World) (hn : ink.length = n) (hcap : n ≤ 1048576) (hsm : ∀ pts ∈ ink, pts.length ≤ 1048576) (hg : G < w.heap.size) (hbz : b < w.heap.size) (hs : w.cell? ⟨b, o, none⟩ = some (.slice (some ⟨G, 0, none⟩) n C)) (hp : RowsFrom 0 w G ink) :
    Calls Try.prog 53 #[.pointer (some ⟨b, o, none⟩)] w fun e w' => e = .returned (.bool (vI ink)) ∧ Below w.heap.size w w' := by
  have HN := Lib.hid hn
  have HP := Lib.hid hp
  have HS := Lib.hid hs
  have HM := Lib.hid hsm
  clear hn hp hs hsm
  have hm := mixed
  have hu : undef = Value.tuple #[] := rfl
  go_enter Try.func53, Try.ntmps53
  go_wp2
  go_loopw [3] (fun i w' => ∃ k : Nat, k ≤ n ∧ i = .int .i64 k ∧ Hid (Below w.heap.size w w') ∧ Hid (∀ j, j < k → okInkAt ink j)) (fun i _ => n - (intOf i).toNat)
  case atStart => exact ⟨0, Nat.zero_le _, rfl, Lib.hid (Below.refl _ _), Lib.hid fun j hj => absurd hj (by omega)⟩
  case round =>
    obtain ⟨k, hk, rfl, HB, HA⟩ := hrel
    have hs := (HB.out.cell hbz).trans HS.out
    by_cases hlt : k < n
    · have hkl : k < ink.length := by rw [HN.out]; exact hlt
      obtain ⟨g, c, -, hgl, p0, hpt⟩ := HP.out k ink[k] (List.getElem?_eq_getElem hkl)
      have hsm := HM.out ink[k] (List.getElem_mem hkl)
      generalize hpk : ink[k] = pts at p0 hpt hsm
      have HK := Lib.hid (show ink[k]? = some pts by rw [List.getElem?_eq_getElem hkl, hpk])
      clear hpk
      go_wp2
      have hG : G < wr.heap.size := Nat.lt_of_lt_of_le hg HB.out.size
      have hbz' : b < wr.heap.size := Nat.lt_of_lt_of_le hbz HB.out.size
      have hgz : g < wr.heap.size := Nat.lt_of_lt_of_le hgl HB.out.size
      have HPT := Lib.hid (hpt.below HB.out hgl)
      have q0 := cell_kept (a := ⟨G, k, none⟩) hG ((HB.out.cell (p := ⟨G, k, none⟩) hg).trans p0)
      have qb := cell_kept (a := ⟨b, o, none⟩) hbz' hs
      clear p0 hpt hs
      have hli : (k : Int) < (n : Int) := by omega
      cases hv : vS pts with
      | false =>
        have HV := Lib.hid hv
        have HF := Lib.hid (vI_at k hkl (bad1 HK.out hv))
        clear hv HA
        refine wp_region_quiet_kept (by assumption) (by kernel_rfl) ?_
        repeat (first | go_big_quiet_step ((go_at_call 48; exact Calls.kept_of ((l02Stroke_calls (c := c) (o := k) G g pts.length pts _ rfl hsm (kept_lt hgz _) (kept_lt hG _) (q0 _) (HPT.out.below (Kept.below _) hgz)).mono fun _ _ ⟨he, hb⟩ => ⟨by rw [he, HV.out], hb⟩))) | quiet_step ((go_at_call 48; exact Calls.kept_of ((l02Stroke_calls (c := c) (o := k) G g pts.length pts _ rfl hsm (kept_lt hgz _) (kept_lt hG _) (q0 _) (HPT.out.below (Kept.below _) hgz)).mono fun _ _ ⟨he, hb⟩ => ⟨by rw [he, HV.out], hb⟩))))
        refine wpQuiet_nil ?_
        intro _ hw'
        obtain ⟨⟨w2, hb2⟩, hw''⟩ := hw'
        subst hw''
        have HB2 := Lib.hid (HB.out.trans (hb2.mono HB.out.size))
        clear hb2 q0 qb hli
        go_wp2
        go_ret
        exact ⟨by rw [HF.out]; rfl, HB2.out⟩
      | true =>
        have HV := Lib.hid hv
        have hp1 := (vS_pos hv).1
        have hp1' : 0 < pts.length := hp1
        clear hv
        by_cases hk0 : k = 0
        · have e0 : decide (0 < k) = false := decide_eq_false (by omega)
          have HA2 := Lib.hid (more HA.out ⟨pts, HK.out, HV.out, fun h => absurd h (by omega)⟩)
          clear HA hk0
          refine wp_region_quiet_kept (by assumption) (by kernel_rfl) ?_
          repeat (first | go_big_quiet_step ((go_at_call 48; exact Calls.kept_of ((l02Stroke_calls (c := c) (o := k) G g pts.length pts _ rfl hsm (kept_lt hgz _) (kept_lt hG _) (q0 _) (HPT.out.below (Kept.below _) hgz)).mono fun _ _ ⟨he, hb⟩ => ⟨by rw [he, HV.out], hb⟩))) | quiet_step ((go_at_call 48; exact Calls.kept_of ((l02Stroke_calls (c := c) (o := k) G g pts.length pts _ rfl hsm (kept_lt hgz _) (kept_lt hG _) (q0 _) (HPT.out.below (Kept.below _) hgz)).mono fun _ _ ⟨he, hb⟩ => ⟨by rw [he, HV.out], hb⟩))))
          refine wpQuiet_nil ?_
          intro _ hw'
          obtain ⟨⟨w2, hb2⟩, hw''⟩ := hw'
          subst hw''
          have HB2 := Lib.hid (HB.out.trans (hb2.mono HB.out.size))
          clear hb2 q0 qb hli e0
          go_wp2
          go_roundw
          case rel => exact ⟨k + 1, by omega, by go_num, HB2, HA2⟩
          case measure => simp [intOf]; omega
        · obtain ⟨j, rfl⟩ : ∃ j, k = j + 1 := ⟨k - 1, by omega⟩
          have e0 : (0 : Int) < ((j + 1 : Nat) : Int) := by omega
          have hjl : j < ink.length := by omega
          obtain ⟨g', d, -, hgl', p0', hpt'⟩ := HP.out j ink[j] (List.getElem?_eq_getElem hjl)
          have hqm := HM.out ink[j] (List.getElem_mem hjl)
          have hqv : vS ink[j] = true := by
            obtain ⟨q, e, hv, _⟩ := HA.out j (by omega)
            rw [List.getElem?_eq_getElem hjl] at e
            injection e with e
            rw [e]; exact hv
          generalize hpj : ink[j] = qts at p0' hpt' hqm hqv
          have HJ := Lib.hid (show ink[j]? = some qts by rw [List.getElem?_eq_getElem hjl, hpj])
          clear hpj
          have hq1 := (vS_pos hqv).1
          have hgz' : g' < wr.heap.size := Nat.lt_of_lt_of_le hgl' HB.out.size
          have HPT' := Lib.hid (hpt'.below HB.out hgl')
          have q1 := cell_kept (a := ⟨G, j, none⟩) hG ((HB.out.cell (p := ⟨G, j, none⟩) hg).trans p0')
          have q2 := cell_kept (a := ⟨g, 2, none⟩) hgz (first_cell HPT.out hp1)
          have e1 : ((j + 1 : Nat) : Int) - 1 = (j : Int) := by omega
          have e2 : (j : Int) < (n : Int) := by omega
          have e3 : (0 : Int) < (pts.length : Int) := by omega
          clear p0' hpt' hk0 hqv
          generalize hft : firstT pts = ft at q2
          have HFT := Lib.hid hft
          clear hft
          by_cases hT : ft ≤ lastT qts
          · have HF := Lib.hid (vI_at (j + 1) hkl (bad2 HK.out HJ.out (by rw [HFT.out]; omega)))
            clear HA
            refine wp_region_quiet_kept (by assumption) (by kernel_rfl) ?_
            repeat (first | go_big_quiet_step ((first | (go_at_call 48; exact Calls.kept_of ((l02Stroke_calls (c := c) (o := j + 1) G g pts.length pts _ rfl hsm (kept_lt hgz _) (kept_lt hG _) (q0 _) (HPT.out.below (Kept.below _) hgz)).mono fun _ _ ⟨he, hb⟩ => ⟨by rw [he, HV.out], hb⟩)) | (go_at_call 66; exact Calls.kept_of (l02Last_calls (c := d) (o := j) G g' qts.length qts _ rfl hq1 hqm (kept_lt hgz' _) (kept_lt hG _) (q1 _) (HPT'.out.below (Kept.below _) hgz'))))) | quiet_step ((first | (go_at_call 48; exact Calls.kept_of ((l02Stroke_calls (c := c) (o := j + 1) G g pts.length pts _ rfl hsm (kept_lt hgz _) (kept_lt hG _) (q0 _) (HPT.out.below (Kept.below _) hgz)).mono fun _ _ ⟨he, hb⟩ => ⟨by rw [he, HV.out], hb⟩)) | (go_at_call 66; exact Calls.kept_of (l02Last_calls (c := d) (o := j) G g' qts.length qts _ rfl hq1 hqm (kept_lt hgz' _) (kept_lt hG _) (q1 _) (HPT'.out.below (Kept.below _) hgz'))))))
            refine wpQuiet_nil ?_
            intro _ hw'
            obtain ⟨⟨w2, hb2⟩, hw''⟩ := hw'
            subst hw''
            have HB2 := Lib.hid (HB.out.trans (hb2.mono HB.out.size))
            clear hb2 q0 q1 q2 qb hli e0 e1 e2 e3
            go_wp2
            go_ret
            exact ⟨by rw [HF.out]; rfl, HB2.out⟩
          · have e4 : decide (ft ≤ lastT qts) = false := decide_eq_false hT
            have HA2 := Lib.hid (more HA.out ⟨pts, HK.out, HV.out, fun _ => ⟨qts, HJ.out, by rw [HFT.out]; omega⟩⟩)
            clear HA hT
            refine wp_region_quiet_kept (by assumption) (by kernel_rfl) ?_
            repeat (first | go_big_quiet_step ((first | (go_at_call 48; exact Calls.kept_of ((l02Stroke_calls (c := c) (o := j + 1) G g pts.length pts _ rfl hsm (kept_lt hgz _) (kept_lt hG _) (q0 _) (HPT.out.below (Kept.below _) hgz)).mono fun _ _ ⟨he, hb⟩ => ⟨by rw [he, HV.out], hb⟩)) | (go_at_call 66; exact Calls.kept_of (l02Last_calls (c := d) (o := j) G g' qts.length qts _ rfl hq1 hqm (kept_lt hgz' _) (kept_lt hG _) (q1 _) (HPT'.out.below (Kept.below _) hgz'))))) | quiet_step ((first | (go_at_call 48; exact Calls.kept_of ((l02Stroke_calls (c := c) (o := j + 1) G g pts.length pts _ rfl hsm (kept_lt hgz _) (kept_lt hG _) (q0 _) (HPT.out.below (Kept.below _) hgz)).mono fun _ _ ⟨he, hb⟩ => ⟨by rw [he, HV.out], hb⟩)) | (go_at_call 66; exact Calls.kept_of (l02Last_calls (c := d) (o := j) G g' qts.length qts _ rfl hq1 hqm (kept_lt hgz' _) (kept_lt hG _) (q1 _) (HPT'.out.below (Kept.below _) hgz'))))))
            refine wpQuiet_nil ?_
            intro _ hw'
            obtain ⟨⟨w2, hb2⟩, hw''⟩ := hw'
            subst hw''
            have HB2 := Lib.hid (HB.out.trans (hb2.mono HB.out.size))
            clear hb2 q0 q1 q2 qb hli e0 e1 e2 e3 e4
            go_wp2
            go_roundw
            case rel => exact ⟨j + 1 + 1, by omega, by go_num, HB2, HA2⟩
            case measure => simp [intOf]; omega
    · by_cases h16 : n ≤ 16
      · have HF := Lib.hid (vI_true (by rw [HN.out]; exact h16) (fun j hj => HA.out j (by rw [HN.out] at hj; omega)))
        clear HA
        go_wp2
        go_ret
        exact ⟨boxes.ret_bool (a := decide ((n : Int) ≤ 16)) (by rw [HF.out]; exact decide_eq_true (by omega)), HB.out⟩
      · have HF := Lib.hid (vI_size (ink := ink) (by rw [HN.out]; exact h16))
        clear HA
        go_wp2
        go_ret
        exact ⟨boxes.ret_bool (a := decide ((n : Int) ≤ 16)) (by rw [HF.out]; exact decide_eq_false (by omega)), HB.out⟩
set_option maxHeartbeats 1000000 in
theorem specValidInk_calls {C : Nat} (G n : Nat) (ink : List (List P3)) (w : World) (hn : ink.length = n) (hcap : n ≤ 1048576) (hsm : ∀ pts ∈ ink, pts.length ≤ 1048576) (hg : G < w.heap.size) (hp : RowsFrom 0 w G ink) :
    Calls Try.prog 20 #[.agg #[.slice (some ⟨G, 0, none⟩) n C]] w fun e w' => e = .returned (.bool (vI ink)) ∧ Below w.heap.size w w' := by
  have HN := Lib.hid hn
  have HM := Lib.hid hsm
  have HP := Lib.hid (hp.below (below_alloc1 w (.cells #[.slice (some ⟨G, 0, none⟩) n C] 40)) hg)
  clear hn hp hsm
  go_enter Try.func20, Try.ntmps20
  go_wp2_with fail
  refine (l02Ok_calls (C := C) (o := 0) w.heap.size G n ink _ HN.out hcap HM.out (by simp; omega) (by simp) (by simp) HP.out).mono ?_
  rintro e w1 ⟨rfl, hb⟩
  have HB := Lib.hid ((below_alloc1 w _).trans (hb.mono (below_alloc1 w _).size))
  clear hb
  go_wp2
  go_ret
  exact ⟨rfl, HB.out⟩

set_option maxRecDepth 100000 in
set_option maxHeartbeats 4000000 in
theorem implValidInk_loop {C : Nat} (G n : Nat) (ink : List (List P3)) (w : World) (hn : ink.length = n) (h16 : n ≤ 16) (hsm : ∀ pts ∈ ink, pts.length ≤ 1048576) (hg : G < w.heap.size) (hp : RowsFrom 0 w G ink) :
    Calls Try.prog 22 #[.agg #[.slice (some ⟨G, 0, none⟩) n C]] w fun e w' => e = .returned (.bool (vI ink)) ∧ Below w.heap.size w w' := by
  have HN := Lib.hid hn
  have HP := Lib.hid hp
  have HM := Lib.hid hsm
  clear hn hp hsm
  have hm := mixed
  have hu : undef = Value.tuple #[] := rfl
  go_enter Try.func22, Try.ntmps22
  go_wp2
  go_loopw [12] (fun i w' => ∃ k : Nat, k ≤ n ∧ i = .int .i64 k ∧ Hid (Below w.heap.size w w') ∧ Hid (w'.cell? ⟨w.heap.size, 0, none⟩ = some (.slice (some ⟨G, 0, none⟩) n C)) ∧ w.heap.size < w'.heap.size ∧ Hid (∀ j, j < k → okInkAt ink j)) (fun i _ => n - (intOf i).toNat)
  case atStart => exact ⟨0, Nat.zero_le _, rfl, Lib.hid (below_alloc1 _ _), Lib.hid (by simp), by simp, Lib.hid fun j hj => absurd hj (by omega)⟩
  case round =>
    obtain ⟨k, hk, rfl, HB, HS, hz, HA⟩ := hrel
    by_cases hlt : k < n
    · have hkl : k < ink.length := by rw [HN.out]; exact hlt
      obtain ⟨g, c, -, hgl, p0, hpt⟩ := HP.out k ink[k] (List.getElem?_eq_getElem hkl)
      have hsm := HM.out ink[k] (List.getElem_mem hkl)
      generalize hpk : ink[k] = pts at p0 hpt hsm
      have HK := Lib.hid (show ink[k]? = some pts by rw [List.getElem?_eq_getElem hkl, hpk])
      clear hpk
      have q0 := (HB.out.cell (p := ⟨G, k, none⟩) hg).trans p0
      clear p0
      go_wp2
      clear q0
      generalize hW : wr.alloc (.cells #[.slice (some ⟨g, 0, none⟩) pts.length c] 29) = W
      have hWb : Below wr.heap.size wr W := by rw [← hW]; exact below_alloc1 _ _
      have hWz : W.heap.size = wr.heap.size + 1 := by rw [← hW]; simp
      have hW0 : W.cell? ⟨wr.heap.size, 0, none⟩ = some (.slice (some ⟨g, 0, none⟩) pts.length c) := by rw [← hW]; simp
      clear hW
      have hG : G < W.heap.size := by have := HB.out.size; omega
      have hgz : g < W.heap.size := by have := HB.out.size; omega
      have HBW := Lib.hid (HB.out.trans (hWb.mono HB.out.size))
      have HPT := Lib.hid (hpt.below HBW.out hgl)
      have q0 := cell_kept (a := ⟨wr.heap.size, 0, none⟩) (show wr.heap.size < W.heap.size by omega) hW0
      have qs0 := (hWb.cell (p := ⟨w.heap.size, 0, none⟩) hz).trans HS.out
      have HS2 := Lib.hid qs0
      have hz2 : w.heap.size < W.heap.size := by omega
      have qb := cell_kept (a := ⟨w.heap.size, 0, none⟩) hz2 qs0
      clear hpt hWb hWz hW0 HB HS hz qs0
      have hli : (k : Int) < (n : Int) := by omega
      cases hv : vS pts with
      | false =>
        have HV := Lib.hid hv
        have HF := Lib.hid (vI_at k hkl (bad1 HK.out hv))
        clear hv HA
        refine wp_region_quiet_kept (by assumption) (by kernel_rfl) ?_
        repeat (first | go_big_quiet_step ((go_at_call 17; exact Calls.kept_of ((implValid_calls (c := c) g pts.length pts _ rfl hsm (kept_lt hgz _) (HPT.out.below (Kept.below _) hgz)).mono fun _ _ ⟨he, hb⟩ => ⟨by rw [he, HV.out], hb⟩))) | quiet_step ((go_at_call 17; exact Calls.kept_of ((implValid_calls (c := c) g pts.length pts _ rfl hsm (kept_lt hgz _) (HPT.out.below (Kept.below _) hgz)).mono fun _ _ ⟨he, hb⟩ => ⟨by rw [he, HV.out], hb⟩))))
        refine wpQuiet_nil ?_
        intro _ hw'
        obtain ⟨⟨w2, hb2⟩, hw''⟩ := hw'
        subst hw''
        have HB2 := Lib.hid (HBW.out.trans (hb2.mono HBW.out.size))
        clear hb2 q0 qb hli
        go_wp2
        go_ret
        exact ⟨by rw [HF.out]; rfl, HB2.out⟩
      | true =>
        have HV := Lib.hid hv
        have hp1 := (vS_pos hv).1
        clear hv
        by_cases hk0 : k = 0
        · have e0 : decide (0 < k) = false := decide_eq_false (by omega)
          have HA2 := Lib.hid (more HA.out ⟨pts, HK.out, HV.out, fun h => absurd h (by omega)⟩)
          clear HA hk0
          refine wp_region_quiet_kept (by assumption) (by kernel_rfl) ?_
          repeat (first | go_big_quiet_step ((go_at_call 17; exact Calls.kept_of ((implValid_calls (c := c) g pts.length pts _ rfl hsm (kept_lt hgz _) (HPT.out.below (Kept.below _) hgz)).mono fun _ _ ⟨he, hb⟩ => ⟨by rw [he, HV.out], hb⟩))) | quiet_step ((go_at_call 17; exact Calls.kept_of ((implValid_calls (c := c) g pts.length pts _ rfl hsm (kept_lt hgz _) (HPT.out.below (Kept.below _) hgz)).mono fun _ _ ⟨he, hb⟩ => ⟨by rw [he, HV.out], hb⟩))))
          refine wpQuiet_nil ?_
          intro _ hw'
          obtain ⟨⟨w2, hb2⟩, hw''⟩ := hw'
          subst hw''
          have HB2 := Lib.hid (HBW.out.trans (hb2.mono HBW.out.size))
          have HS3 := Lib.hid ((hb2.cell (p := ⟨w.heap.size, 0, none⟩) hz2).trans HS2.out)
          have hz3 := Nat.lt_of_lt_of_le hz2 hb2.size
          clear hb2 q0 qb hli e0
          go_wp2
          go_roundw
          case rel => exact ⟨k + 1, by omega, by go_num, HB2, HS3, hz3, HA2⟩
          case measure => simp [intOf]; omega
        · obtain ⟨j, rfl⟩ : ∃ j, k = j + 1 := ⟨k - 1, by omega⟩
          have e0 : (0 : Int) < ((j + 1 : Nat) : Int) := by omega
          have hjl : j < ink.length := by omega
          obtain ⟨g', d, -, hgl', p0', hpt'⟩ := HP.out j ink[j] (List.getElem?_eq_getElem hjl)
          have hqm := HM.out ink[j] (List.getElem_mem hjl)
          have hqv : vS ink[j] = true := by
            obtain ⟨q, e, hv, _⟩ := HA.out j (by omega)
            rw [List.getElem?_eq_getElem hjl] at e
            injection e with e
            rw [e]; exact hv
          generalize hpj : ink[j] = qts at p0' hpt' hqm hqv
          have HJ := Lib.hid (show ink[j]? = some qts by rw [List.getElem?_eq_getElem hjl, hpj])
          clear hpj
          have hq1 := (vS_pos hqv).1
          have hgz' : g' < W.heap.size := Nat.lt_of_lt_of_le hgl' HBW.out.size
          have HPT' := Lib.hid (hpt'.below HBW.out hgl')
          have q1 := cell_kept (a := ⟨G, j, none⟩) hG ((HBW.out.cell (p := ⟨G, j, none⟩) hg).trans p0')
          have e1 : ((j + 1 : Nat) : Int) - 1 = (j : Int) := by omega
          have e2 : (j : Int) < (n : Int) := by omega
          clear p0' hpt' hk0 hqv
          by_cases hT : lastT qts < firstT pts
          · have HD := Lib.hid (show decide (lastT qts < firstT pts) = true from decide_eq_true hT)
            have HA2 := Lib.hid (more HA.out ⟨pts, HK.out, HV.out, fun _ => ⟨qts, HJ.out, hT⟩⟩)
            clear HA hT
            refine wp_region_quiet_kept (by assumption) (by kernel_rfl) ?_
            repeat (first | go_big_quiet_step ((first | (go_at_call 17; exact Calls.kept_of ((implValid_calls (c := c) g pts.length pts _ rfl hsm (kept_lt hgz _) (HPT.out.below (Kept.below _) hgz)).mono fun _ _ ⟨he, hb⟩ => ⟨by rw [he, HV.out], hb⟩)) | (go_at_call 55; exact Calls.kept_of ((later_calls (c := c) (c' := d) g pts.length g' qts.length pts qts _ rfl hp1 hsm rfl hq1 hqm (kept_lt hgz _) (kept_lt hgz' _) (HPT.out.below (Kept.below _) hgz) (HPT'.out.below (Kept.below _) hgz')).mono fun _ _ ⟨he, hb⟩ => ⟨by rw [he, HD.out], hb⟩)))) | quiet_step ((first | (go_at_call 17; exact Calls.kept_of ((implValid_calls (c := c) g pts.length pts _ rfl hsm (kept_lt hgz _) (HPT.out.below (Kept.below _) hgz)).mono fun _ _ ⟨he, hb⟩ => ⟨by rw [he, HV.out], hb⟩)) | (go_at_call 55; exact Calls.kept_of ((later_calls (c := c) (c' := d) g pts.length g' qts.length pts qts _ rfl hp1 hsm rfl hq1 hqm (kept_lt hgz _) (kept_lt hgz' _) (HPT.out.below (Kept.below _) hgz) (HPT'.out.below (Kept.below _) hgz')).mono fun _ _ ⟨he, hb⟩ => ⟨by rw [he, HD.out], hb⟩)))))
            refine wpQuiet_nil ?_
            intro _ hw'
            obtain ⟨⟨w2, hb2⟩, hw''⟩ := hw'
            subst hw''
            have HB2 := Lib.hid (HBW.out.trans (hb2.mono HBW.out.size))
            have HS3 := Lib.hid ((hb2.cell (p := ⟨w.heap.size, 0, none⟩) hz2).trans HS2.out)
            have hz3 := Nat.lt_of_lt_of_le hz2 hb2.size
            clear hb2 q0 q1 qb hli e0 e1 e2
            go_wp2
            go_roundw
            case rel => exact ⟨j + 1 + 1, by omega, by go_num, HB2, HS3, hz3, HA2⟩
            case measure => simp [intOf]; omega
          · have HD := Lib.hid (show decide (lastT qts < firstT pts) = false from decide_eq_false hT)
            have HF := Lib.hid (vI_at (j + 1) hkl (bad2 HK.out HJ.out hT))
            clear HA hT
            refine wp_region_quiet_kept (by assumption) (by kernel_rfl) ?_
            repeat (first | go_big_quiet_step ((first | (go_at_call 17; exact Calls.kept_of ((implValid_calls (c := c) g pts.length pts _ rfl hsm (kept_lt hgz _) (HPT.out.below (Kept.below _) hgz)).mono fun _ _ ⟨he, hb⟩ => ⟨by rw [he, HV.out], hb⟩)) | (go_at_call 55; exact Calls.kept_of ((later_calls (c := c) (c' := d) g pts.length g' qts.length pts qts _ rfl hp1 hsm rfl hq1 hqm (kept_lt hgz _) (kept_lt hgz' _) (HPT.out.below (Kept.below _) hgz) (HPT'.out.below (Kept.below _) hgz')).mono fun _ _ ⟨he, hb⟩ => ⟨by rw [he, HD.out], hb⟩)))) | quiet_step ((first | (go_at_call 17; exact Calls.kept_of ((implValid_calls (c := c) g pts.length pts _ rfl hsm (kept_lt hgz _) (HPT.out.below (Kept.below _) hgz)).mono fun _ _ ⟨he, hb⟩ => ⟨by rw [he, HV.out], hb⟩)) | (go_at_call 55; exact Calls.kept_of ((later_calls (c := c) (c' := d) g pts.length g' qts.length pts qts _ rfl hp1 hsm rfl hq1 hqm (kept_lt hgz _) (kept_lt hgz' _) (HPT.out.below (Kept.below _) hgz) (HPT'.out.below (Kept.below _) hgz')).mono fun _ _ ⟨he, hb⟩ => ⟨by rw [he, HD.out], hb⟩)))))
            refine wpQuiet_nil ?_
            intro _ hw'
            obtain ⟨⟨w2, hb2⟩, hw''⟩ := hw'
            subst hw''
            have HB2 := Lib.hid (HBW.out.trans (hb2.mono HBW.out.size))
            clear hb2 q0 q1 qb hli e0 e1 e2
            go_wp2
            go_ret
            exact ⟨by rw [HF.out]; rfl, HB2.out⟩
    · have HF := Lib.hid (vI_true (by rw [HN.out]; exact h16) (fun j hj => HA.out j (by rw [HN.out] at hj; omega)))
      clear HA
      go_wp2
      go_ret
      exact ⟨by rw [HF.out]; rfl, HB.out⟩

theorem implValidInk_calls {C : Nat} (G n : Nat) (ink : List (List P3)) (w : World) (hn : ink.length = n) (hcap : n ≤ 1048576) (hsm : ∀ pts ∈ ink, pts.length ≤ 1048576) (hg : G < w.heap.size) (hp : RowsFrom 0 w G ink) :
    Calls Try.prog 22 #[.agg #[.slice (some ⟨G, 0, none⟩) n C]] w fun e w' => e = .returned (.bool (vI ink)) ∧ Below w.heap.size w w' := by
  by_cases h16 : n ≤ 16
  · exact implValidInk_loop G n ink w hn h16 hsm hg hp
  · have HF := Lib.hid (vI_size (ink := ink) (by omega))
    clear hn hp hsm
    go_enter Try.func22, Try.ntmps22
    go_wp2
    go_ret
    exact ⟨by rw [HF.out]; rfl, below_alloc1 _ _⟩
end Go.Proofs.Ytklfmlbokedbdaa.inkOk
