/-
  Proved: both functions that tell whether a stroke is valid answer as the document's definition (contracts of the callees of the laws on strokes).
  Conditions: the stroke's points lie in a row of their own.
-/
import Derived.Test.YtofgdgdmmlgmnaaPts
import Derived.Shelf.SlSortCmp.QuietGrown
import Derived.BigQuiet
import Derived.Lib.AppendIntMem
import Derived.Lib.ItoaMem
namespace Go.Proofs.Ytofgdgdmmlgmnaa.stk
open Go.ChangeShapes Go.WideShapes Go.ChangeAt Go.RowKit Go.Joins
open Go.Proofs.Ytofgdgdmmlgmnaa.core
set_option linter.unusedVariables false
set_option linter.unusedSimpArgs false

set_option maxHeartbeats 1000000 in
theorem inRange_calls (x y t : Int) (w : World) :
    Calls Try.prog 110 #[pt x y t] w fun e w' => e = .returned (.bool (inR x y t)) ∧ w' = w.alloc (.cells #[.int .i64 x, .int .i64 y, .int .i64 t] 122) := by
  go_enter Try.func110, Try.ntmps110
  go_wp2
  all_goals go_ret
  all_goals refine ⟨ret_bool ?_, rfl⟩
  all_goals
    unfold inR
    rw [Bool.eq_iff_iff]
    simp
    try omega
set_option maxHeartbeats 1000000 in
theorem l02Point_calls (x y t : Int) (w : World) :
    Calls Try.prog 84 #[pt x y t] w fun e w' => e = .returned (.bool (inR x y t)) ∧ w' = w.alloc (.cells #[.int .i64 x, .int .i64 y, .int .i64 t] 122) := by
  go_enter Try.func84, Try.ntmps84
  go_wp2
  all_goals go_ret
  all_goals refine ⟨ret_bool ?_, rfl⟩
  all_goals
    unfold inR
    rw [Bool.eq_iff_iff]
    simp
    try omega

theorem inRange_no (x y t : Int) (w : World) (h : inR x y t = false) : Calls Try.prog 110 #[pt x y t] w fun e w' => e = .returned (.bool false) ∧ w' = w.alloc (.cells #[.int .i64 x, .int .i64 y, .int .i64 t] 122) :=
  (inRange_calls x y t w).mono fun _ _ ⟨he, hw⟩ => ⟨by rw [he, h], hw⟩
theorem inRange_yes (x y t : Int) (w : World) (h : inR x y t = true) : Calls Try.prog 110 #[pt x y t] w fun e w' => e = .returned (.bool true) ∧ w' = w.alloc (.cells #[.int .i64 x, .int .i64 y, .int .i64 t] 122) :=
  (inRange_calls x y t w).mono fun _ _ ⟨he, hw⟩ => ⟨by rw [he, h], hw⟩
theorem l02Point_no (x y t : Int) (w : World) (h : inR x y t = false) : Calls Try.prog 84 #[pt x y t] w fun e w' => e = .returned (.bool false) ∧ w' = w.alloc (.cells #[.int .i64 x, .int .i64 y, .int .i64 t] 122) :=
  (l02Point_calls x y t w).mono fun _ _ ⟨he, hw⟩ => ⟨by rw [he, h], hw⟩
theorem l02Point_yes (x y t : Int) (w : World) (h : inR x y t = true) : Calls Try.prog 84 #[pt x y t] w fun e w' => e = .returned (.bool true) ∧ w' = w.alloc (.cells #[.int .i64 x, .int .i64 y, .int .i64 t] 122) :=
  (l02Point_calls x y t w).mono fun _ _ ⟨he, hw⟩ => ⟨by rw [he, h], hw⟩

theorem mixed : Try.prog.follows .mixedOrders = true := by kernel_rfl
theorem alloc_grow (w : World) (o : Obj) : w.alloc o = Sort.grow (w.drewN 0) #[o] := Sort.alloc_eq_grow w o
theorem inRange_g (x y t : Int) (b : Bool) (h : inR x y t = b) (w : World) : Calls Try.prog 110 #[pt x y t] w fun e w' => e = .returned (.bool b) ∧ ∃ q os', w' = Sort.grow (w.drewN q) os' :=
  (inRange_calls x y t w).mono fun _ _ ⟨he, hw⟩ => ⟨by rw [he, h], 0, #[_], hw.trans (alloc_grow w _)⟩
theorem l02Point_g (x y t : Int) (b : Bool) (h : inR x y t = b) (w : World) : Calls Try.prog 84 #[pt x y t] w fun e w' => e = .returned (.bool b) ∧ ∃ q os', w' = Sort.grow (w.drewN q) os' :=
  (l02Point_calls x y t w).mono fun _ _ ⟨he, hw⟩ => ⟨by rw [he, h], 0, #[_], hw.trans (alloc_grow w _)⟩

/-- The point at i is in range, and later than the one before it. -/
def okAt (pts : Nat → P3) (i : Nat) : Prop := inR (pts i).1 (pts i).2.1 (pts i).2.2 = true ∧ (0 < i → (pts (i - 1)).2.2 < (pts i).2.2)
noncomputable def vS (n : Nat) (pts : Nat → P3) : Bool := @decide (1 ≤ n ∧ n ≤ 60 ∧ ∀ i, i < n → okAt pts i) (Classical.propDecidable _)
theorem vS_true {n : Nat} {pts : Nat → P3} (h1 : 1 ≤ n) (h2 : n ≤ 60) (h : ∀ i, i < n → okAt pts i) : vS n pts = true := by
  unfold vS; exact @decide_eq_true _ (Classical.propDecidable _) ⟨h1, h2, h⟩
theorem vS_of {n : Nat} {pts : Nat → P3} (h : vS n pts = true) : 1 ≤ n ∧ n ≤ 60 ∧ ∀ i, i < n → okAt pts i := by
  unfold vS at h; exact @of_decide_eq_true _ (Classical.propDecidable _) h
theorem vS_size {n : Nat} {pts : Nat → P3} (h : ¬ (1 ≤ n ∧ n ≤ 60)) : vS n pts = false := by
  unfold vS; exact @decide_eq_false _ (Classical.propDecidable _) fun ⟨a, b, _⟩ => h ⟨a, b⟩
theorem vS_at {n : Nat} {pts : Nat → P3} (i : Nat) (hi : i < n) (h : ¬ okAt pts i) : vS n pts = false := by
  unfold vS; exact @decide_eq_false _ (Classical.propDecidable _) fun ⟨_, _, c⟩ => h (c i hi)
theorem more {pts : Nat → P3} {k : Nat} (hall : ∀ j, j < k → okAt pts j) (h : okAt pts k) : ∀ j, j < k + 1 → okAt pts j := by
  intro j hj
  rcases Nat.lt_or_ge j k with h' | h'
  · exact hall j h'
  · obtain rfl : j = k := by omega
    exact h

set_option maxRecDepth 100000 in
set_option maxHeartbeats 2000000 in
theorem implValid_loop {c : Nat} (A : Option Addr) (n : Nat) (pts : Nat → P3) (w : World) (h1 : 1 ≤ n) (h60 : n ≤ 60) (hp : PtsAt w A n pts) :
    Calls Try.prog 87 #[.agg #[.slice A n c]] w fun e w' => e = .returned (.bool (vS n pts)) ∧ Below w.heap.size w w' := by
  have HP := Lib.hid hp
  clear hp
  go_enter Try.func87, Try.ntmps87
  go_wp2
  go_loopw [18] (fun i w' => ∃ k : Nat, k ≤ n ∧ i = .int .i64 k ∧ Hid (Below w.heap.size w w') ∧ Hid (w'.cell? ⟨w.heap.size, 0, none⟩ = some (.slice A n c)) ∧ w.heap.size < w'.heap.size ∧ Hid (∀ j, j < k → okAt pts j)) (fun i _ => n - (intOf i).toNat)
  case atStart => exact ⟨0, Nat.zero_le _, rfl, Lib.hid (below_alloc1 _ _), Lib.hid (by simp), by simp, Lib.hid fun j hj => absurd hj (by omega)⟩
  case round =>
    obtain ⟨k, hk, rfl, HB, HS, hz, HA⟩ := hrel
    by_cases hlt : k < n
    · obtain ⟨g, o', rfl, hg, p0, p1, p2⟩ := HP.out k hlt
      obtain ⟨p, hpk⟩ : ∃ p, pts k = p := ⟨_, rfl⟩
      rw [hpk] at p0 p1 p2
      have q0 := (HB.out.cell hg).trans p0
      have q1 := (HB.out.cell hg).trans p1
      have q2 := (HB.out.cell hg).trans p2
      have HK := Lib.hid hpk
      clear p0 p1 p2 hpk
      go_wp2
      clear q0 q1 q2
      have hm := mixed
      have c0 := cell_grown (w := wr.alloc (.cells #[.int .i64 p.1, .int .i64 p.2.1, .int .i64 p.2.2] 122)) (a := ⟨wr.heap.size, 0, none⟩) (v := .int .i64 p.1) (by simp) (by simp)
      have c1 := cell_grown (w := wr.alloc (.cells #[.int .i64 p.1, .int .i64 p.2.1, .int .i64 p.2.2] 122)) (a := ⟨wr.heap.size, 1, none⟩) (v := .int .i64 p.2.1) (by simp) (by simp)
      have c2 := cell_grown (w := wr.alloc (.cells #[.int .i64 p.1, .int .i64 p.2.1, .int .i64 p.2.2] 122)) (a := ⟨wr.heap.size, 2, none⟩) (v := .int .i64 p.2.2) (by simp) (by simp)
      cases hr : inR p.1 p.2.1 p.2.2 with
      | false =>
        have HR := Lib.hid hr
        have HF := Lib.hid (vS_at (pts := pts) k hlt (fun ⟨h, _⟩ => by rw [HK.out, HR.out] at h; cases h))
        clear hr HA
        have hu : undef = Value.tuple #[] := rfl
        refine wp_region_quiet_grown (by assumption) (by kernel_rfl) ?_
        repeat (first | go_big_quiet_step ((go_at_call 110; exact Calls.grown_of (inRange_g _ _ _ _ HR.out _))) | quiet_step ((go_at_call 110; exact Calls.grown_of (inRange_g _ _ _ _ HR.out _))))
        refine wpQuiet_nil ?_
        intro _ hw'
        obtain ⟨⟨nq, osq⟩, hw''⟩ := hw'
        subst hw''
        have hb2 := Lib.below_grow (wr.alloc (.cells #[.int .i64 p.1, .int .i64 p.2.1, .int .i64 p.2.2] 122)).heap.size (wr.alloc (.cells #[.int .i64 p.1, .int .i64 p.2.1, .int .i64 p.2.2] 122)) (Nat.le_refl _) nq osq
        dsimp only
        generalize Sort.grow ((wr.alloc (.cells #[.int .i64 p.1, .int .i64 p.2.1, .int .i64 p.2.2] 122)).drewN nq) osq = w2 at hb2 ⊢
        have HB2 := Lib.hid ((below_alloc1 wr _).trans (hb2.mono (below_alloc1 wr _).size))
        clear hb2 hm c0 c1 c2 hu
        go_wp2
        go_ret
        exact ⟨by rw [HF.out]; rfl, HB.out.trans (HB2.out.mono HB.out.size)⟩
      | true =>
        have HR := Lib.hid hr
        clear hr
        have hu : undef = Value.tuple #[] := rfl
        by_cases hk0 : k = 0
        · have e0 : decide (0 < k) = false := decide_eq_false (by omega)
          have HA2 := Lib.hid (more HA.out ⟨by rw [HK.out]; exact HR.out, fun h => absurd h (by omega)⟩)
          clear HA hk0
          refine wp_region_quiet_grown (by assumption) (by kernel_rfl) ?_
          repeat (first | go_big_quiet_step ((go_at_call 110; exact Calls.grown_of (inRange_g _ _ _ _ HR.out _))) | quiet_step ((go_at_call 110; exact Calls.grown_of (inRange_g _ _ _ _ HR.out _))))
          refine wpQuiet_nil ?_
          intro _ hw'
          obtain ⟨⟨nq, osq⟩, hw''⟩ := hw'
          subst hw''
          have hb2 := Lib.below_grow (wr.alloc (.cells #[.int .i64 p.1, .int .i64 p.2.1, .int .i64 p.2.2] 122)).heap.size (wr.alloc (.cells #[.int .i64 p.1, .int .i64 p.2.1, .int .i64 p.2.2] 122)) (Nat.le_refl _) nq osq
          dsimp only
          generalize Sort.grow ((wr.alloc (.cells #[.int .i64 p.1, .int .i64 p.2.1, .int .i64 p.2.2] 122)).drewN nq) osq = w2 at hb2 ⊢
          have HB2 := Lib.hid ((below_alloc1 wr _).trans (hb2.mono (below_alloc1 wr _).size))
          clear hb2 hm c0 c1 c2 hu
          have HZ := HB2.out.size
          have HS2 := Lib.hid ((HB2.out.cell (p := ⟨w.heap.size, 0, none⟩) hz).trans HS.out)
          clear e0
          go_wp2
          go_roundw
          case rel => exact ⟨k + 1, by omega, by go_num, Lib.hid (HB.out.trans (HB2.out.mono HB.out.size)), HS2, by omega, HA2⟩
          case measure => simp [intOf]; omega
        · obtain ⟨j, rfl⟩ : ∃ j, k = j + 1 := ⟨k - 1, by omega⟩
          have e0 : (0 : Int) < ((j + 1 : Nat) : Int) := by omega
          obtain ⟨g2, o2, e2, -, -, -, r2⟩ := HP.out j (by omega)
          injection e2 with e2
          injection e2 with e2 e3
          subst e2 e3
          obtain ⟨q, hpj⟩ : ∃ q, pts j = q := ⟨_, rfl⟩
          rw [hpj] at r2
          have HJ := Lib.hid hpj
          have hgz : g < wr.heap.size := Nat.lt_of_lt_of_le hg HB.out.size
          have c3 := cell_grown (w := (wr.alloc (.cells #[.int .i64 p.1, .int .i64 p.2.1, .int .i64 p.2.2] 122))) (a := ⟨g, o' + j * 3 + 2, none⟩) (v := .int .i64 q.2.2) (by simp; omega) ((World.cell?_alloc_lt _ _ _ hgz).trans ((HB.out.cell hg).trans r2))
          have c4 := cell_grown (w := (wr.alloc (.cells #[.int .i64 p.1, .int .i64 p.2.1, .int .i64 p.2.2] 122))) (a := ⟨w.heap.size, 0, none⟩) (v := .slice (some ⟨g, o', none⟩) n c) (by simp; omega) ((World.cell?_alloc_lt _ _ _ hz).trans HS.out)
          clear r2 hpj hk0
          by_cases hT : p.2.2 ≤ q.2.2
          · have HF := Lib.hid (vS_at (pts := pts) (j + 1) hlt (fun ⟨h, h'⟩ => by
              have h2 := h' (by omega)
              rw [show j + 1 - 1 = j from rfl, HJ.out, HK.out] at h2
              omega))
            clear HA
            refine wp_region_quiet_grown (by assumption) (by kernel_rfl) ?_
            repeat (first | go_big_quiet_step ((go_at_call 110; exact Calls.grown_of (inRange_g _ _ _ _ HR.out _))) | quiet_step ((go_at_call 110; exact Calls.grown_of (inRange_g _ _ _ _ HR.out _))))
            refine wpQuiet_nil ?_
            intro _ hw'
            obtain ⟨⟨nq, osq⟩, hw''⟩ := hw'
            subst hw''
            have hb2 := Lib.below_grow (wr.alloc (.cells #[.int .i64 p.1, .int .i64 p.2.1, .int .i64 p.2.2] 122)).heap.size (wr.alloc (.cells #[.int .i64 p.1, .int .i64 p.2.1, .int .i64 p.2.2] 122)) (Nat.le_refl _) nq osq
            dsimp only
            generalize Sort.grow ((wr.alloc (.cells #[.int .i64 p.1, .int .i64 p.2.1, .int .i64 p.2.2] 122)).drewN nq) osq = w2 at hb2 ⊢
            have HB2 := Lib.hid ((below_alloc1 wr _).trans (hb2.mono (below_alloc1 wr _).size))
            clear hb2 hm c0 c1 c2 c3 c4 hu e0
            go_wp2
            go_ret
            exact ⟨by rw [HF.out]; rfl, HB.out.trans (HB2.out.mono HB.out.size)⟩
          · have e1 : decide (p.2.2 ≤ q.2.2) = false := decide_eq_false hT
            have HA2 := Lib.hid (more HA.out ⟨by rw [HK.out]; exact HR.out, fun _ => by rw [show j + 1 - 1 = j from rfl, HJ.out, HK.out]; omega⟩)
            clear HA hT
            refine wp_region_quiet_grown (by assumption) (by kernel_rfl) ?_
            repeat (first | go_big_quiet_step ((go_at_call 110; exact Calls.grown_of (inRange_g _ _ _ _ HR.out _))) | quiet_step ((go_at_call 110; exact Calls.grown_of (inRange_g _ _ _ _ HR.out _))))
            refine wpQuiet_nil ?_
            intro _ hw'
            obtain ⟨⟨nq, osq⟩, hw''⟩ := hw'
            subst hw''
            have hb2 := Lib.below_grow (wr.alloc (.cells #[.int .i64 p.1, .int .i64 p.2.1, .int .i64 p.2.2] 122)).heap.size (wr.alloc (.cells #[.int .i64 p.1, .int .i64 p.2.1, .int .i64 p.2.2] 122)) (Nat.le_refl _) nq osq
            dsimp only
            generalize Sort.grow ((wr.alloc (.cells #[.int .i64 p.1, .int .i64 p.2.1, .int .i64 p.2.2] 122)).drewN nq) osq = w2 at hb2 ⊢
            have HB2 := Lib.hid ((below_alloc1 wr _).trans (hb2.mono (below_alloc1 wr _).size))
            clear hb2 hm c0 c1 c2 c3 c4 hu e0
            have HZ := HB2.out.size
            have HS2 := Lib.hid ((HB2.out.cell (p := ⟨w.heap.size, 0, none⟩) hz).trans HS.out)
            clear e1
            go_wp2
            go_roundw
            case rel => exact ⟨j + 1 + 1, by omega, by go_num, Lib.hid (HB.out.trans (HB2.out.mono HB.out.size)), HS2, by omega, HA2⟩
            case measure => simp [intOf]; omega
    · have HF := Lib.hid (vS_true h1 h60 (fun j hj => HA.out j (by omega)))
      clear HA
      go_wp2
      go_ret
      exact ⟨by rw [HF.out]; rfl, HB.out⟩

theorem implValid_calls {c : Nat} (A : Option Addr) (n : Nat) (pts : Nat → P3) (w : World) (hcap : n ≤ 1048576) (hp : PtsAt w A n pts) :
    Calls Try.prog 87 #[.agg #[.slice A n c]] w fun e w' => e = .returned (.bool (vS n pts)) ∧ Below w.heap.size w w' := by
  by_cases h1 : 1 ≤ n
  · by_cases h60 : n ≤ 60
    · exact implValid_loop A n pts w h1 h60 hp
    · have HF := Lib.hid (vS_size (n := n) (pts := pts) (by omega))
      clear hp
      go_enter Try.func87, Try.ntmps87
      go_wp2
      go_ret
      exact ⟨by rw [HF.out]; rfl, below_alloc1 _ _⟩
  · have HF := Lib.hid (vS_size (n := n) (pts := pts) (by omega))
    clear hp
    go_enter Try.func87, Try.ntmps87
    go_wp2
    go_ret
    exact ⟨by rw [HF.out]; rfl, below_alloc1 _ _⟩

set_option maxRecDepth 100000 in
set_option maxHeartbeats 2000000 in
theorem l02Stroke_calls {c o : Nat} (A : Option Addr) (b n : Nat) (pts : Nat → P3) (w : World) (hcap : n ≤ 1048576) (hbz : b < w.heap.size) (hs : w.cell? ⟨b, o, none⟩ = some (.slice A n c)) (hp : PtsAt w A n pts) :
    Calls Try.prog 59 #[.pointer (some ⟨b, o, none⟩)] w fun e w' => e = .returned (.bool (vS n pts)) ∧ Below w.heap.size w w' := by
  have HP := Lib.hid hp
  have HS := Lib.hid hs
  clear hp hs
  go_enter Try.func59, Try.ntmps59
  go_wp2
  go_loopw [3] (fun i w' => ∃ k : Nat, k ≤ n ∧ i = .int .i64 k ∧ Hid (Below w.heap.size w w') ∧ Hid (∀ j, j < k → okAt pts j)) (fun i _ => n - (intOf i).toNat)
  case atStart => exact ⟨0, Nat.zero_le _, rfl, Lib.hid (Below.refl _ _), Lib.hid fun j hj => absurd hj (by omega)⟩
  case round =>
    obtain ⟨k, hk, rfl, HB, HA⟩ := hrel
    have hs := (HB.out.cell hbz).trans HS.out
    by_cases hlt : k < n
    · obtain ⟨g, o', rfl, hg, p0, p1, p2⟩ := HP.out k hlt
      obtain ⟨p, hpk⟩ : ∃ p, pts k = p := ⟨_, rfl⟩
      rw [hpk] at p0 p1 p2
      have HK := Lib.hid hpk
      clear hpk
      go_wp2
      have hm := mixed
      have hgz : g < wr.heap.size := Nat.lt_of_lt_of_le hg HB.out.size
      have hbz' : b < wr.heap.size := Nat.lt_of_lt_of_le hbz HB.out.size
      have c0 := cell_grown (w := wr) (a := ⟨g, o' + k * 3, none⟩) (v := .int .i64 p.1) hgz ((HB.out.cell hg).trans p0)
      have c1 := cell_grown (w := wr) (a := ⟨g, o' + k * 3 + 1, none⟩) (v := .int .i64 p.2.1) hgz ((HB.out.cell hg).trans p1)
      have c2 := cell_grown (w := wr) (a := ⟨g, o' + k * 3 + 2, none⟩) (v := .int .i64 p.2.2) hgz ((HB.out.cell hg).trans p2)
      have c4 := cell_grown (w := wr) (a := ⟨b, o, none⟩) (v := .slice (some ⟨g, o', none⟩) n c) hbz' hs
      clear p0 p1 p2 hs
      have hu : undef = Value.tuple #[] := rfl
      have hli : (k : Int) < (n : Int) := by omega
      cases hr : inR p.1 p.2.1 p.2.2 with
      | false =>
        have HR := Lib.hid hr
        have HF := Lib.hid (vS_at (pts := pts) k hlt (fun ⟨h, _⟩ => by rw [HK.out, HR.out] at h; cases h))
        clear hr HA
        refine wp_region_quiet_grown (by assumption) (by kernel_rfl) ?_
        repeat (first | go_big_quiet_step ((go_at_call 84; exact Calls.grown_of (l02Point_g _ _ _ _ HR.out _))) | quiet_step ((go_at_call 84; exact Calls.grown_of (l02Point_g _ _ _ _ HR.out _))))
        refine wpQuiet_nil ?_
        intro _ hw'
        obtain ⟨⟨nq, osq⟩, hw''⟩ := hw'
        subst hw''
        have hb2 := Lib.below_grow wr.heap.size wr (Nat.le_refl _) nq osq
        dsimp only
        generalize Sort.grow (wr.drewN nq) osq = w2 at hb2 ⊢
        have HB2 := Lib.hid (HB.out.trans (hb2.mono HB.out.size))
        clear hb2 hm c0 c1 c2 c4 hu hli
        go_wp2
        go_ret
        exact ⟨by rw [HF.out]; rfl, HB2.out⟩
      | true =>
        have HR := Lib.hid hr
        clear hr
        by_cases hk0 : k = 0
        · have e0 : decide (0 < k) = false := decide_eq_false (by omega)
          have HA2 := Lib.hid (more HA.out ⟨by rw [HK.out]; exact HR.out, fun h => absurd h (by omega)⟩)
          clear HA hk0
          refine wp_region_quiet_grown (by assumption) (by kernel_rfl) ?_
          repeat (first | go_big_quiet_step ((go_at_call 84; exact Calls.grown_of (l02Point_g _ _ _ _ HR.out _))) | quiet_step ((go_at_call 84; exact Calls.grown_of (l02Point_g _ _ _ _ HR.out _))))
          refine wpQuiet_nil ?_
          intro _ hw'
          obtain ⟨⟨nq, osq⟩, hw''⟩ := hw'
          subst hw''
          have hb2 := Lib.below_grow wr.heap.size wr (Nat.le_refl _) nq osq
          dsimp only
          generalize Sort.grow (wr.drewN nq) osq = w2 at hb2 ⊢
          have HB2 := Lib.hid (HB.out.trans (hb2.mono HB.out.size))
          clear hb2 hm c0 c1 c2 c4 hu hli e0
          go_wp2
          go_roundw
          case rel => exact ⟨k + 1, by omega, by go_num, HB2, HA2⟩
          case measure => simp [intOf]; omega
        · obtain ⟨j, rfl⟩ : ∃ j, k = j + 1 := ⟨k - 1, by omega⟩
          have e0 : (0 : Int) < ((j + 1 : Nat) : Int) := by omega
          obtain ⟨g2, o2, e2, -, -, -, r2⟩ := HP.out j (by omega)
          injection e2 with e2
          injection e2 with e2 e3
          subst e2 e3
          obtain ⟨q, hpj⟩ : ∃ q, pts j = q := ⟨_, rfl⟩
          rw [hpj] at r2
          have HJ := Lib.hid hpj
          have c3 := cell_grown (w := wr) (a := ⟨g, o' + j * 3 + 2, none⟩) (v := .int .i64 q.2.2) hgz ((HB.out.cell hg).trans r2)
          clear r2 hpj hk0
          by_cases hT : p.2.2 ≤ q.2.2
          · have HF := Lib.hid (vS_at (pts := pts) (j + 1) hlt (fun ⟨h, h'⟩ => by
              have h2 := h' (by omega)
              rw [show j + 1 - 1 = j from rfl, HJ.out, HK.out] at h2
              omega))
            clear HA
            refine wp_region_quiet_grown (by assumption) (by kernel_rfl) ?_
            repeat (first | go_big_quiet_step ((go_at_call 84; exact Calls.grown_of (l02Point_g _ _ _ _ HR.out _))) | quiet_step ((go_at_call 84; exact Calls.grown_of (l02Point_g _ _ _ _ HR.out _))))
            refine wpQuiet_nil ?_
            intro _ hw'
            obtain ⟨⟨nq, osq⟩, hw''⟩ := hw'
            subst hw''
            have hb2 := Lib.below_grow wr.heap.size wr (Nat.le_refl _) nq osq
            dsimp only
            generalize Sort.grow (wr.drewN nq) osq = w2 at hb2 ⊢
            have HB2 := Lib.hid (HB.out.trans (hb2.mono HB.out.size))
            clear hb2 hm c0 c1 c2 c4 hu hli e0 c3
            go_wp2
            go_ret
            exact ⟨by rw [HF.out]; rfl, HB2.out⟩
          · have e1 : decide (p.2.2 ≤ q.2.2) = false := decide_eq_false hT
            have HA2 := Lib.hid (more HA.out ⟨by rw [HK.out]; exact HR.out, fun _ => by rw [show j + 1 - 1 = j from rfl, HJ.out, HK.out]; omega⟩)
            clear HA hT
            refine wp_region_quiet_grown (by assumption) (by kernel_rfl) ?_
            repeat (first | go_big_quiet_step ((go_at_call 84; exact Calls.grown_of (l02Point_g _ _ _ _ HR.out _))) | quiet_step ((go_at_call 84; exact Calls.grown_of (l02Point_g _ _ _ _ HR.out _))))
            refine wpQuiet_nil ?_
            intro _ hw'
            obtain ⟨⟨nq, osq⟩, hw''⟩ := hw'
            subst hw''
            have hb2 := Lib.below_grow wr.heap.size wr (Nat.le_refl _) nq osq
            dsimp only
            generalize Sort.grow (wr.drewN nq) osq = w2 at hb2 ⊢
            have HB2 := Lib.hid (HB.out.trans (hb2.mono HB.out.size))
            clear hb2 hm c0 c1 c2 c4 hu hli e0 c3 e1
            go_wp2
            go_roundw
            case rel => exact ⟨j + 1 + 1, by omega, by go_num, HB2, HA2⟩
            case measure => simp [intOf]; omega
    · have HA2 := Lib.hid (fun j (hj : j < n) => HA.out j (by omega))
      clear HA
      by_cases h1 : 1 ≤ n
      · by_cases h60 : n ≤ 60
        · have HF := Lib.hid (vS_true h1 h60 HA2.out)
          have e1 : decide ((n : Int) ≤ 60) = true := decide_eq_true (by omega)
          clear HA2
          go_wp2
          go_ret
          exact ⟨by rw [HF.out]; rfl, HB.out⟩
        · have HF := Lib.hid (vS_size (n := n) (pts := pts) (by omega))
          have e1 : decide ((n : Int) ≤ 60) = false := decide_eq_false (by omega)
          clear HA2
          go_wp2
          go_ret
          exact ⟨by rw [HF.out]; rfl, HB.out⟩
      · have HF := Lib.hid (vS_size (n := n) (pts := pts) (by omega))
        clear HA2
        go_wp2
        go_ret
        exact ⟨by rw [HF.out]; rfl, HB.out⟩

end Go.Proofs.Ytofgdgdmmlgmnaa.stk
