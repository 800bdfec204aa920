/-
  Proved: both functions that tell whether a stroke is valid answer as the document's definition (contracts of the callees of the laws on strokes).
  Conditions: the stroke's points lie in a row of their own.
-/
import Derived.Test.YtklfmlbokedbdaaStrokes
import Derived.Shelf.SlSortCmp.QuietGrown
import Derived.BigQuiet
import Derived.Lib.AppendIntMem
import Derived.Lib.ItoaMem
namespace Go.Proofs.Ytklfmlbokedbdaa.valid
open Go.ChangeShapes Go.WideShapes Go.ChangeAt Go.RowKit Go.Joins
open Go.Proofs.Ytklfmlbokedbdaa.join Go.Proofs.Ytklfmlbokedbdaa.strokes
open Go.Proofs.Ytklfmlbokedbdaa.boxes (ret_bool)
set_option linter.unusedVariables false

def inR (x y t : Int) : Bool := decide (0 ≤ x ∧ x ≤ 4095 ∧ 0 ≤ y ∧ y ≤ 4095 ∧ 0 ≤ t ∧ t ≤ 3600000)
set_option maxHeartbeats 1000000 in
theorem inRange_calls (x y t : Int) (w : World) :
    Calls Try.prog 50 #[pt x y t] w fun e w' => e = .returned (.bool (inR x y t)) ∧ w' = w.alloc (.cells #[.int .i64 x, .int .i64 y, .int .i64 t] 71) := by
  go_enter Try.func50, Try.ntmps50
  go_wp2
  all_goals go_ret
  all_goals refine ⟨ret_bool ?_, rfl⟩
  all_goals
    unfold inR
    rw [Bool.eq_iff_iff]
    simp
    try omega
set_option maxHeartbeats 1000000 in
theorem l02Point_calls (x y t : Int) (w : World) :
    Calls Try.prog 79 #[pt x y t] w fun e w' => e = .returned (.bool (inR x y t)) ∧ w' = w.alloc (.cells #[.int .i64 x, .int .i64 y, .int .i64 t] 71) := by
  go_enter Try.func79, Try.ntmps79
  go_wp2
  all_goals go_ret
  all_goals refine ⟨ret_bool ?_, rfl⟩
  all_goals
    unfold inR
    rw [Bool.eq_iff_iff]
    simp
    try omega

theorem inRange_no (x y t : Int) (w : World) (h : inR x y t = false) : Calls Try.prog 50 #[pt x y t] w fun e w' => e = .returned (.bool false) ∧ w' = w.alloc (.cells #[.int .i64 x, .int .i64 y, .int .i64 t] 71) :=
  (inRange_calls x y t w).mono fun _ _ ⟨he, hw⟩ => ⟨by rw [he, h], hw⟩
theorem inRange_yes (x y t : Int) (w : World) (h : inR x y t = true) : Calls Try.prog 50 #[pt x y t] w fun e w' => e = .returned (.bool true) ∧ w' = w.alloc (.cells #[.int .i64 x, .int .i64 y, .int .i64 t] 71) :=
  (inRange_calls x y t w).mono fun _ _ ⟨he, hw⟩ => ⟨by rw [he, h], hw⟩
theorem l02Point_no (x y t : Int) (w : World) (h : inR x y t = false) : Calls Try.prog 79 #[pt x y t] w fun e w' => e = .returned (.bool false) ∧ w' = w.alloc (.cells #[.int .i64 x, .int .i64 y, .int .i64 t] 71) :=
  (l02Point_calls x y t w).mono fun _ _ ⟨he, hw⟩ => ⟨by rw [he, h], hw⟩
theorem l02Point_yes (x y t : Int) (w : World) (h : inR x y t = true) : Calls Try.prog 79 #[pt x y t] w fun e w' => e = .returned (.bool true) ∧ w' = w.alloc (.cells #[.int .i64 x, .int .i64 y, .int .i64 t] 71) :=
  (l02Point_calls x y t w).mono fun _ _ ⟨he, hw⟩ => ⟨by rw [he, h], hw⟩

theorem mixed : Try.prog.follows .mixedOrders = true := by kernel_rfl
theorem alloc_grow (w : World) (o : Obj) : w.alloc o = Sort.grow (w.drewN 0) #[o] := Sort.alloc_eq_grow w o
theorem inRange_g (x y t : Int) (b : Bool) (h : inR x y t = b) (w : World) : Calls Try.prog 50 #[pt x y t] w fun e w' => e = .returned (.bool b) ∧ ∃ q os', w' = Sort.grow (w.drewN q) os' :=
  (inRange_calls x y t w).mono fun _ _ ⟨he, hw⟩ => ⟨by rw [he, h], 0, #[_], hw.trans (alloc_grow w _)⟩
theorem l02Point_g (x y t : Int) (b : Bool) (h : inR x y t = b) (w : World) : Calls Try.prog 79 #[pt x y t] w fun e w' => e = .returned (.bool b) ∧ ∃ q os', w' = Sort.grow (w.drewN q) os' :=
  (l02Point_calls x y t w).mono fun _ _ ⟨he, hw⟩ => ⟨by rw [he, h], 0, #[_], hw.trans (alloc_grow w _)⟩

/-- The point at i is in range, and later than the one before it. -/
def okAt (pts : List P3) (i : Nat) : Prop := ∃ p, pts[i]? = some p ∧ inR p.1 p.2.1 p.2.2 = true ∧ (0 < i → ∃ q, pts[i - 1]? = some q ∧ q.2.2 < p.2.2)
noncomputable def vS (pts : List P3) : Bool := @decide (1 ≤ pts.length ∧ pts.length ≤ 60 ∧ ∀ i, i < pts.length → okAt pts i) (Classical.propDecidable _)
theorem vS_true {pts : List P3} (h1 : 1 ≤ pts.length) (h2 : pts.length ≤ 60) (h : ∀ i, i < pts.length → okAt pts i) : vS pts = true := by
  unfold vS; exact @decide_eq_true _ (Classical.propDecidable _) ⟨h1, h2, h⟩
theorem vS_size {pts : List P3} (h : ¬ (1 ≤ pts.length ∧ pts.length ≤ 60)) : vS pts = false := by
  unfold vS; exact @decide_eq_false _ (Classical.propDecidable _) fun ⟨a, b, _⟩ => h ⟨a, b⟩
theorem vS_at {pts : List P3} (i : Nat) (hi : i < pts.length) (h : ¬ okAt pts i) : vS pts = false := by
  unfold vS; exact @decide_eq_false _ (Classical.propDecidable _) fun ⟨_, _, c⟩ => h (c i hi)
theorem more {pts : List P3} {k : Nat} (hall : ∀ j, j < k → okAt pts j) (h : okAt pts k) : ∀ j, j < k + 1 → okAt pts j := by
  intro j hj
  rcases Nat.lt_or_ge j k with h' | h'
  · exact hall j h'
  · obtain rfl : j = k := by omega
    exact h

set_option maxRecDepth 100000 in
set_option maxHeartbeats 2000000 in
theorem implValid_loop {c : Nat} (g n : Nat) (pts : List P3) (w : World) (hn : pts.length = n) (h1 : 1 ≤ n) (h60 : n ≤ 60) (hg : g < w.heap.size) (hp : Pts w g pts) :
    Calls Try.prog 17 #[.agg #[.slice (some ⟨g, 0, none⟩) n c]] w fun e w' => e = .returned (.bool (vS pts)) ∧ Below w.heap.size w w' := by
  have HN := Lib.hid hn
  have HP := Lib.hid hp
  clear hn hp
  go_enter Try.func17, Try.ntmps17
  go_wp2
  go_loopw [18] (fun i w' => ∃ k : Nat, k ≤ n ∧ i = .int .i64 k ∧ Hid (Below w.heap.size w w') ∧ Hid (w'.cell? ⟨w.heap.size, 0, none⟩ = some (.slice (some ⟨g, 0, none⟩) n c)) ∧ w.heap.size < w'.heap.size ∧ Hid (∀ j, j < k → okAt pts j)) (fun i _ => n - (intOf i).toNat)
  case atStart => exact ⟨0, Nat.zero_le _, rfl, Lib.hid (below_alloc1 _ _), Lib.hid (by simp), by simp, Lib.hid fun j hj => absurd hj (by omega)⟩
  case round =>
    obtain ⟨k, hk, rfl, HB, HS, hz, HA⟩ := hrel
    by_cases hlt : k < n
    · have hkl : k < pts.length := by rw [HN.out]; exact hlt
      have hpk : pts[k]? = some pts[k] := List.getElem?_eq_getElem hkl
      obtain ⟨p0, p1, p2⟩ := HP.out k pts[k] hpk
      generalize pts[k] = p at p0 p1 p2 hpk
      have q0 := (HB.out.cell hg).trans p0
      have q1 := (HB.out.cell hg).trans p1
      have q2 := (HB.out.cell hg).trans p2
      have HK := Lib.hid hpk
      clear p0 p1 p2 hpk
      go_wp2
      clear q0 q1 q2
      have hm := mixed
      have c0 := cell_grown (w := wr.alloc (.cells #[.int .i64 p.1, .int .i64 p.2.1, .int .i64 p.2.2] 71)) (a := ⟨wr.heap.size, 0, none⟩) (v := .int .i64 p.1) (by simp) (by simp)
      have c1 := cell_grown (w := wr.alloc (.cells #[.int .i64 p.1, .int .i64 p.2.1, .int .i64 p.2.2] 71)) (a := ⟨wr.heap.size, 1, none⟩) (v := .int .i64 p.2.1) (by simp) (by simp)
      have c2 := cell_grown (w := wr.alloc (.cells #[.int .i64 p.1, .int .i64 p.2.1, .int .i64 p.2.2] 71)) (a := ⟨wr.heap.size, 2, none⟩) (v := .int .i64 p.2.2) (by simp) (by simp)
      cases hr : inR p.1 p.2.1 p.2.2 with
      | false =>
        have HR := Lib.hid hr
        have HF := Lib.hid (vS_at k hkl (fun ⟨p', e, h, _⟩ => by rw [HK.out] at e; injection e with e; subst e; rw [HR.out] at h; cases h))
        clear hr HA
        have hu : undef = Value.tuple #[] := rfl
        refine wp_region_quiet_grown (by assumption) (by kernel_rfl) ?_
        repeat (first | go_big_quiet_step ((go_at_call 50; exact Calls.grown_of (inRange_g _ _ _ _ HR.out _))) | quiet_step ((go_at_call 50; exact Calls.grown_of (inRange_g _ _ _ _ HR.out _))))
        refine wpQuiet_nil ?_
        intro _ hw'
        obtain ⟨⟨nq, osq⟩, hw''⟩ := hw'
        subst hw''
        have hb2 := Lib.below_grow (wr.alloc (.cells #[.int .i64 p.1, .int .i64 p.2.1, .int .i64 p.2.2] 71)).heap.size (wr.alloc (.cells #[.int .i64 p.1, .int .i64 p.2.1, .int .i64 p.2.2] 71)) (Nat.le_refl _) nq osq
        dsimp only
        generalize Sort.grow ((wr.alloc (.cells #[.int .i64 p.1, .int .i64 p.2.1, .int .i64 p.2.2] 71)).drewN nq) osq = w2 at hb2 ⊢
        have HB2 := Lib.hid ((below_alloc1 wr _).trans (hb2.mono (below_alloc1 wr _).size))
        clear hb2 hm c0 c1 c2 hu
        go_wp2
        go_ret
        exact ⟨by rw [HF.out]; rfl, HB.out.trans (HB2.out.mono HB.out.size)⟩
      | true =>
        have HR := Lib.hid hr
        clear hr
        have hu : undef = Value.tuple #[] := rfl
        by_cases hk0 : k = 0
        · have e0 : decide (0 < k) = false := decide_eq_false (by omega)
          have HA2 := Lib.hid (more HA.out ⟨p, HK.out, HR.out, fun h => absurd h (by omega)⟩)
          clear HA hk0
          refine wp_region_quiet_grown (by assumption) (by kernel_rfl) ?_
          repeat (first | go_big_quiet_step ((go_at_call 50; exact Calls.grown_of (inRange_g _ _ _ _ HR.out _))) | quiet_step ((go_at_call 50; exact Calls.grown_of (inRange_g _ _ _ _ HR.out _))))
          refine wpQuiet_nil ?_
          intro _ hw'
          obtain ⟨⟨nq, osq⟩, hw''⟩ := hw'
          subst hw''
          have hb2 := Lib.below_grow (wr.alloc (.cells #[.int .i64 p.1, .int .i64 p.2.1, .int .i64 p.2.2] 71)).heap.size (wr.alloc (.cells #[.int .i64 p.1, .int .i64 p.2.1, .int .i64 p.2.2] 71)) (Nat.le_refl _) nq osq
          dsimp only
          generalize Sort.grow ((wr.alloc (.cells #[.int .i64 p.1, .int .i64 p.2.1, .int .i64 p.2.2] 71)).drewN nq) osq = w2 at hb2 ⊢
          have HB2 := Lib.hid ((below_alloc1 wr _).trans (hb2.mono (below_alloc1 wr _).size))
          clear hb2 hm c0 c1 c2 hu
          have HZ := HB2.out.size
          have HS2 := Lib.hid ((HB2.out.cell (p := ⟨w.heap.size, 0, none⟩) hz).trans HS.out)
          clear e0
          go_wp2
          go_roundw
          case rel => exact ⟨k + 1, by omega, by go_num, Lib.hid (HB.out.trans (HB2.out.mono HB.out.size)), HS2, by omega, HA2⟩
          case measure => simp [intOf]; omega
        · obtain ⟨j, rfl⟩ : ∃ j, k = j + 1 := ⟨k - 1, by omega⟩
          have e0 : (0 : Int) < ((j + 1 : Nat) : Int) := by omega
          have hjl : j < pts.length := by omega
          have hpj : pts[j]? = some pts[j] := List.getElem?_eq_getElem hjl
          obtain ⟨-, -, r2⟩ := HP.out j pts[j] hpj
          generalize pts[j] = q at r2 hpj
          have HJ := Lib.hid hpj
          have hgz : g < wr.heap.size := Nat.lt_of_lt_of_le hg HB.out.size
          have c3 := cell_grown (w := (wr.alloc (.cells #[.int .i64 p.1, .int .i64 p.2.1, .int .i64 p.2.2] 71))) (a := ⟨g, j * 3 + 2, none⟩) (v := .int .i64 q.2.2) (by simp; omega) ((World.cell?_alloc_lt _ _ _ hgz).trans ((HB.out.cell hg).trans r2))
          have c4 := cell_grown (w := (wr.alloc (.cells #[.int .i64 p.1, .int .i64 p.2.1, .int .i64 p.2.2] 71))) (a := ⟨w.heap.size, 0, none⟩) (v := .slice (some ⟨g, 0, none⟩) n c) (by simp; omega) ((World.cell?_alloc_lt _ _ _ hz).trans HS.out)
          clear r2 hpj hk0
          by_cases hT : p.2.2 ≤ q.2.2
          · have HF := Lib.hid (vS_at (j + 1) hkl (fun ⟨p', e, h, h'⟩ => by
              rw [HK.out] at e
              injection e with e
              subst e
              obtain ⟨q', e', hq⟩ := h' (by omega)
              rw [show j + 1 - 1 = j from rfl, HJ.out] at e'
              injection e' with e'
              subst e'
              omega))
            clear HA
            refine wp_region_quiet_grown (by assumption) (by kernel_rfl) ?_
            repeat (first | go_big_quiet_step ((go_at_call 50; exact Calls.grown_of (inRange_g _ _ _ _ HR.out _))) | quiet_step ((go_at_call 50; exact Calls.grown_of (inRange_g _ _ _ _ HR.out _))))
            refine wpQuiet_nil ?_
            intro _ hw'
            obtain ⟨⟨nq, osq⟩, hw''⟩ := hw'
            subst hw''
            have hb2 := Lib.below_grow (wr.alloc (.cells #[.int .i64 p.1, .int .i64 p.2.1, .int .i64 p.2.2] 71)).heap.size (wr.alloc (.cells #[.int .i64 p.1, .int .i64 p.2.1, .int .i64 p.2.2] 71)) (Nat.le_refl _) nq osq
            dsimp only
            generalize Sort.grow ((wr.alloc (.cells #[.int .i64 p.1, .int .i64 p.2.1, .int .i64 p.2.2] 71)).drewN nq) osq = w2 at hb2 ⊢
            have HB2 := Lib.hid ((below_alloc1 wr _).trans (hb2.mono (below_alloc1 wr _).size))
            clear hb2 hm c0 c1 c2 c3 c4 hu e0
            go_wp2
            go_ret
            exact ⟨by rw [HF.out]; rfl, HB.out.trans (HB2.out.mono HB.out.size)⟩
          · have e1 : decide (p.2.2 ≤ q.2.2) = false := decide_eq_false hT
            have HA2 := Lib.hid (more HA.out ⟨p, HK.out, HR.out, fun _ => ⟨q, HJ.out, by omega⟩⟩)
            clear HA hT
            refine wp_region_quiet_grown (by assumption) (by kernel_rfl) ?_
            repeat (first | go_big_quiet_step ((go_at_call 50; exact Calls.grown_of (inRange_g _ _ _ _ HR.out _))) | quiet_step ((go_at_call 50; exact Calls.grown_of (inRange_g _ _ _ _ HR.out _))))
            refine wpQuiet_nil ?_
            intro _ hw'
            obtain ⟨⟨nq, osq⟩, hw''⟩ := hw'
            subst hw''
            have hb2 := Lib.below_grow (wr.alloc (.cells #[.int .i64 p.1, .int .i64 p.2.1, .int .i64 p.2.2] 71)).heap.size (wr.alloc (.cells #[.int .i64 p.1, .int .i64 p.2.1, .int .i64 p.2.2] 71)) (Nat.le_refl _) nq osq
            dsimp only
            generalize Sort.grow ((wr.alloc (.cells #[.int .i64 p.1, .int .i64 p.2.1, .int .i64 p.2.2] 71)).drewN nq) osq = w2 at hb2 ⊢
            have HB2 := Lib.hid ((below_alloc1 wr _).trans (hb2.mono (below_alloc1 wr _).size))
            clear hb2 hm c0 c1 c2 c3 c4 hu e0
            have HZ := HB2.out.size
            have HS2 := Lib.hid ((HB2.out.cell (p := ⟨w.heap.size, 0, none⟩) hz).trans HS.out)
            clear e1
            go_wp2
            go_roundw
            case rel => exact ⟨j + 1 + 1, by omega, by go_num, Lib.hid (HB.out.trans (HB2.out.mono HB.out.size)), HS2, by omega, HA2⟩
            case measure => simp [intOf]; omega
    · have HF := Lib.hid (vS_true (by rw [HN.out]; exact h1) (by rw [HN.out]; exact h60) (fun j hj => HA.out j (by rw [HN.out] at hj; omega)))
      clear HA
      go_wp2
      go_ret
      exact ⟨by rw [HF.out]; rfl, HB.out⟩

theorem implValid_calls {c : Nat} (g n : Nat) (pts : List P3) (w : World) (hn : pts.length = n) (hcap : n ≤ 1048576) (hg : g < w.heap.size) (hp : Pts w g pts) :
    Calls Try.prog 17 #[.agg #[.slice (some ⟨g, 0, none⟩) n c]] w fun e w' => e = .returned (.bool (vS pts)) ∧ Below w.heap.size w w' := by
  by_cases h1 : 1 ≤ n
  · by_cases h60 : n ≤ 60
    · exact implValid_loop g n pts w hn h1 h60 hg hp
    · have HF := Lib.hid (vS_size (pts := pts) (by omega))
      clear hn hp
      go_enter Try.func17, Try.ntmps17
      go_wp2
      go_ret
      exact ⟨by rw [HF.out]; rfl, below_alloc1 _ _⟩
  · have HF := Lib.hid (vS_size (pts := pts) (by omega))
    clear hn hp
    go_enter Try.func17, Try.ntmps17
    go_wp2
    go_ret
    exact ⟨by rw [HF.out]; rfl, below_alloc1 _ _⟩

set_option maxRecDepth 100000 in
set_option maxHeartbeats 2000000 in
theorem l02Stroke_calls {c o : Nat} (b g n : Nat) (pts : List P3) (w : World) (hn : pts.length = n) (hcap : n ≤ 1048576) (hg : g < w.heap.size) (hbz : b < w.heap.size) (hs : w.cell? ⟨b, o, none⟩ = some (.slice (some ⟨g, 0, none⟩) n c)) (hp : Pts w g pts) :
    Calls Try.prog 48 #[.pointer (some ⟨b, o, none⟩)] w fun e w' => e = .returned (.bool (vS pts)) ∧ Below w.heap.size w w' := by
  have HN := Lib.hid hn
  have HP := Lib.hid hp
  have HS := Lib.hid hs
  clear hn hp hs
  go_enter Try.func48, Try.ntmps48
  go_wp2
  go_loopw [3] (fun i w' => ∃ k : Nat, k ≤ n ∧ i = .int .i64 k ∧ Hid (Below w.heap.size w w') ∧ Hid (∀ j, j < k → okAt pts j)) (fun i _ => n - (intOf i).toNat)
  case atStart => exact ⟨0, Nat.zero_le _, rfl, Lib.hid (Below.refl _ _), Lib.hid fun j hj => absurd hj (by omega)⟩
  case round =>
    obtain ⟨k, hk, rfl, HB, HA⟩ := hrel
    have hs := (HB.out.cell hbz).trans HS.out
    by_cases hlt : k < n
    · have hkl : k < pts.length := by rw [HN.out]; exact hlt
      have hpk : pts[k]? = some pts[k] := List.getElem?_eq_getElem hkl
      obtain ⟨p0, p1, p2⟩ := HP.out k pts[k] hpk
      generalize pts[k] = p at p0 p1 p2 hpk
      have HK := Lib.hid hpk
      clear hpk
      go_wp2
      have hm := mixed
      have hgz : g < wr.heap.size := Nat.lt_of_lt_of_le hg HB.out.size
      have hbz' : b < wr.heap.size := Nat.lt_of_lt_of_le hbz HB.out.size
      have c0 := cell_grown (w := wr) (a := ⟨g, k * 3, none⟩) (v := .int .i64 p.1) hgz ((HB.out.cell hg).trans p0)
      have c1 := cell_grown (w := wr) (a := ⟨g, k * 3 + 1, none⟩) (v := .int .i64 p.2.1) hgz ((HB.out.cell hg).trans p1)
      have c2 := cell_grown (w := wr) (a := ⟨g, k * 3 + 2, none⟩) (v := .int .i64 p.2.2) hgz ((HB.out.cell hg).trans p2)
      have c4 := cell_grown (w := wr) (a := ⟨b, o, none⟩) (v := .slice (some ⟨g, 0, none⟩) n c) hbz' hs
      clear p0 p1 p2 hs
      have hu : undef = Value.tuple #[] := rfl
      have hli : (k : Int) < (n : Int) := by omega
      cases hr : inR p.1 p.2.1 p.2.2 with
      | false =>
        have HR := Lib.hid hr
        have HF := Lib.hid (vS_at k hkl (fun ⟨p', e, h, _⟩ => by rw [HK.out] at e; injection e with e; subst e; rw [HR.out] at h; cases h))
        clear hr HA
        refine wp_region_quiet_grown (by assumption) (by kernel_rfl) ?_
        repeat (first | go_big_quiet_step ((go_at_call 79; exact Calls.grown_of (l02Point_g _ _ _ _ HR.out _))) | quiet_step ((go_at_call 79; exact Calls.grown_of (l02Point_g _ _ _ _ HR.out _))))
        refine wpQuiet_nil ?_
        intro _ hw'
        obtain ⟨⟨nq, osq⟩, hw''⟩ := hw'
        subst hw''
        have hb2 := Lib.below_grow wr.heap.size wr (Nat.le_refl _) nq osq
        dsimp only
        generalize Sort.grow (wr.drewN nq) osq = w2 at hb2 ⊢
        have HB2 := Lib.hid (HB.out.trans (hb2.mono HB.out.size))
        clear hb2 hm c0 c1 c2 c4 hu hli
        go_wp2
        go_ret
        exact ⟨by rw [HF.out]; rfl, HB2.out⟩
      | true =>
        have HR := Lib.hid hr
        clear hr
        by_cases hk0 : k = 0
        · have e0 : decide (0 < k) = false := decide_eq_false (by omega)
          have HA2 := Lib.hid (more HA.out ⟨p, HK.out, HR.out, fun h => absurd h (by omega)⟩)
          clear HA hk0
          refine wp_region_quiet_grown (by assumption) (by kernel_rfl) ?_
          repeat (first | go_big_quiet_step ((go_at_call 79; exact Calls.grown_of (l02Point_g _ _ _ _ HR.out _))) | quiet_step ((go_at_call 79; exact Calls.grown_of (l02Point_g _ _ _ _ HR.out _))))
          refine wpQuiet_nil ?_
          intro _ hw'
          obtain ⟨⟨nq, osq⟩, hw''⟩ := hw'
          subst hw''
          have hb2 := Lib.below_grow wr.heap.size wr (Nat.le_refl _) nq osq
          dsimp only
          generalize Sort.grow (wr.drewN nq) osq = w2 at hb2 ⊢
          have HB2 := Lib.hid (HB.out.trans (hb2.mono HB.out.size))
          clear hb2 hm c0 c1 c2 c4 hu hli e0
          go_wp2
          go_roundw
          case rel => exact ⟨k + 1, by omega, by go_num, HB2, HA2⟩
          case measure => simp [intOf]; omega
        · obtain ⟨j, rfl⟩ : ∃ j, k = j + 1 := ⟨k - 1, by omega⟩
          have e0 : (0 : Int) < ((j + 1 : Nat) : Int) := by omega
          have hjl : j < pts.length := by omega
          have hpj : pts[j]? = some pts[j] := List.getElem?_eq_getElem hjl
          obtain ⟨-, -, r2⟩ := HP.out j pts[j] hpj
          generalize pts[j] = q at r2 hpj
          have HJ := Lib.hid hpj
          have c3 := cell_grown (w := wr) (a := ⟨g, j * 3 + 2, none⟩) (v := .int .i64 q.2.2) hgz ((HB.out.cell hg).trans r2)
          clear r2 hpj hk0
          by_cases hT : p.2.2 ≤ q.2.2
          · have HF := Lib.hid (vS_at (j + 1) hkl (fun ⟨p', e, h, h'⟩ => by
              rw [HK.out] at e
              injection e with e
              subst e
              obtain ⟨q', e', hq⟩ := h' (by omega)
              rw [show j + 1 - 1 = j from rfl, HJ.out] at e'
              injection e' with e'
              subst e'
              omega))
            clear HA
            refine wp_region_quiet_grown (by assumption) (by kernel_rfl) ?_
            repeat (first | go_big_quiet_step ((go_at_call 79; exact Calls.grown_of (l02Point_g _ _ _ _ HR.out _))) | quiet_step ((go_at_call 79; exact Calls.grown_of (l02Point_g _ _ _ _ HR.out _))))
            refine wpQuiet_nil ?_
            intro _ hw'
            obtain ⟨⟨nq, osq⟩, hw''⟩ := hw'
            subst hw''
            have hb2 := Lib.below_grow wr.heap.size wr (Nat.le_refl _) nq osq
            dsimp only
            generalize Sort.grow (wr.drewN nq) osq = w2 at hb2 ⊢
            have HB2 := Lib.hid (HB.out.trans (hb2.mono HB.out.size))
            clear hb2 hm c0 c1 c2 c4 hu hli e0 c3
            go_wp2
            go_ret
            exact ⟨by rw [HF.out]; rfl, HB2.out⟩
          · have e1 : decide (p.2.2 ≤ q.2.2) = false := decide_eq_false hT
            have HA2 := Lib.hid (more HA.out ⟨p, HK.out, HR.out, fun _ => ⟨q, HJ.out, by omega⟩⟩)
            clear HA hT
            refine wp_region_quiet_grown (by assumption) (by kernel_rfl) ?_
            repeat (first | go_big_quiet_step ((go_at_call 79; exact Calls.grown_of (l02Point_g _ _ _ _ HR.out _))) | quiet_step ((go_at_call 79; exact Calls.grown_of (l02Point_g _ _ _ _ HR.out _))))
            refine wpQuiet_nil ?_
            intro _ hw'
            obtain ⟨⟨nq, osq⟩, hw''⟩ := hw'
            subst hw''
            have hb2 := Lib.below_grow wr.heap.size wr (Nat.le_refl _) nq osq
            dsimp only
            generalize Sort.grow (wr.drewN nq) osq = w2 at hb2 ⊢
            have HB2 := Lib.hid (HB.out.trans (hb2.mono HB.out.size))
            clear hb2 hm c0 c1 c2 c4 hu hli e0 c3 e1
            go_wp2
            go_roundw
            case rel => exact ⟨j + 1 + 1, by omega, by go_num, HB2, HA2⟩
            case measure => simp [intOf]; omega
    · have HA2 := Lib.hid (fun j (hj : j < pts.length) => HA.out j (by rw [HN.out] at hj; omega))
      clear HA
      by_cases h1 : 1 ≤ n
      · by_cases h60 : n ≤ 60
        · have HF := Lib.hid (vS_true (by rw [HN.out]; exact h1) (by rw [HN.out]; exact h60) HA2.out)
          have e1 : decide ((n : Int) ≤ 60) = true := decide_eq_true (by omega)
          clear HA2
          go_wp2
          go_ret
          exact ⟨by rw [HF.out]; rfl, HB.out⟩
        · have HF := Lib.hid (vS_size (pts := pts) (by rw [HN.out]; omega))
          have e1 : decide ((n : Int) ≤ 60) = false := decide_eq_false (by omega)
          clear HA2
          go_wp2
          go_ret
          exact ⟨by rw [HF.out]; rfl, HB.out⟩
      · have HF := Lib.hid (vS_size (pts := pts) (by rw [HN.out]; omega))
        clear HA2
        go_wp2
        go_ret
        exact ⟨by rw [HF.out]; rfl, HB.out⟩

theorem specValid_calls {c : Nat} (g n : Nat) (pts : List P3) (w : World) (hn : pts.length = n) (hcap : n ≤ 1048576) (hg : g < w.heap.size) (hp : Pts w g pts) :
    Calls Try.prog 15 #[.agg #[.slice (some ⟨g, 0, none⟩) n c]] w fun e w' => e = .returned (.bool (vS pts)) ∧ Below w.heap.size w w' := by
  have HN := Lib.hid hn
  have HP := Lib.hid (hp.below (below_alloc1 w (.cells #[.slice (some ⟨g, 0, none⟩) n c] 29)) hg)
  clear hn hp
  go_enter Try.func15, Try.ntmps15
  go_wp2_with fail
  refine (l02Stroke_calls (c := c) (o := 0) w.heap.size g n pts _ HN.out hcap (by simp; omega) (by simp) (by simp) HP.out).mono ?_
  rintro e w1 ⟨rfl, hb⟩
  have HB := Lib.hid ((below_alloc1 w _).trans (hb.mono (below_alloc1 w _).size))
  clear hb
  go_wp2
  go_ret
  exact ⟨rfl, HB.out⟩
end Go.Proofs.Ytklfmlbokedbdaa.valid
