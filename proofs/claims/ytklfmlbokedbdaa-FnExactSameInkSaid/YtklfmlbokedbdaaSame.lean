/-
  Proved: both functions that compare strokes, and both that compare ink, answer whether they are equal (contracts of the callees of the law on SameInk).
  Conditions: the points lie in rows of their own.
-/
import Derived.Test.YtklfmlbokedbdaaInkLaw
import Derived.Laws.StructEq
namespace Go.Proofs.Ytklfmlbokedbdaa.same
open Go.ChangeShapes Go.WideShapes Go.ChangeAt Go.RowKit Go.Joins
open Go.Proofs.Ytklfmlbokedbdaa.join Go.Proofs.Ytklfmlbokedbdaa.strokes Go.Proofs.Ytklfmlbokedbdaa.valid Go.Proofs.Ytklfmlbokedbdaa.inks Go.Proofs.Ytklfmlbokedbdaa.inkOk
set_option linter.unusedVariables false

theorem ends_same {α : Type} [DecidableEq α] {l m : List α} {n : Nat} (h1 : l.length = n) (h2 : m.length = n) (h : ∀ j, j < n → l[j]? = m[j]?) : decide (l = m) = true := by
  apply decide_eq_true
  apply List.ext_getElem?
  intro j
  by_cases hj : j < n
  · exact h j hj
  · rw [List.getElem?_eq_none (by omega), List.getElem?_eq_none (by omega)]
theorem ends_other {α : Type} [DecidableEq α] {l m : List α} {k : Nat} {x y : α} (h1 : l[k]? = some x) (h2 : m[k]? = some y) (h : x ≠ y) : decide (l = m) = false := by
  apply decide_eq_false
  intro e
  subst e
  rw [h1] at h2
  injection h2 with h2
  exact h h2
theorem ends_size {α : Type} [DecidableEq α] {l m : List α} {n n' : Nat} (h1 : l.length = n) (h2 : m.length = n') (h : n ≠ n') : decide (l = m) = false := by
  apply decide_eq_false
  intro e
  subst e
  omega
theorem more_same {α : Type} {l m : List α} {k : Nat} {x : α} (hall : ∀ j, j < k → l[j]? = m[j]?) (h1 : l[k]? = some x) (h2 : m[k]? = some x) : ∀ j, j < k + 1 → l[j]? = m[j]? := by
  intro j hj
  rcases Nat.lt_or_ge j k with h' | h'
  · exact hall j h'
  · obtain rfl : j = k := by omega
    rw [h1, h2]

theorem guard71 : Try.prog.eqGuardType Try.prog.depth 71 = false := by kernel_rfl
theorem eq71 (x y : P3) (w : World) : (Op.equalIn 10000 71 (.agg #[.int .i64 x.1, .int .i64 x.2.1, .int .i64 x.2.2]) (.agg #[.int .i64 y.1, .int .i64 y.2.1, .int .i64 y.2.2])).run Try.prog w = .ok (decide (x = y)) w := by
  obtain ⟨a, b, c⟩ := x
  obtain ⟨d, e, f⟩ := y
  have u2 := Try.underlying2
  have a2 := Try.isAgg2
  have z2 := Try.sizeOf2
  have hS : Try.prog.underlying 71 = some (.struct (Try.prog.fieldsOf 71)) := by kernel_rfl
  have hp : Try.prog.stoodInHeld 71 = false := by kernel_rfl
  rw [show (10000 : Nat) = 9999 + 1 from rfl, run_equalIn_agg w 9999 71 _ _ hS hp]
  simp only [Program.fieldsOf, Try.underlying71]
  go_simp
  by_cases h1 : a = d <;> by_cases h2 : b = e <;> by_cases h3 : c = f <;> simp [h1, h2, h3]

set_option maxRecDepth 100000 in
set_option maxHeartbeats 4000000 in
theorem l02SameStroke_calls {c c' o o' : Nat} (b b' g g' n n' : Nat) (pts qts : List P3) (w : World) (hn : pts.length = n) (hn' : qts.length = n') (hcap : n ≤ 1048576) (hcap' : n' ≤ 1048576) (hg : g < w.heap.size) (hg' : g' < w.heap.size) (hbz : b < w.heap.size) (hbz' : b' < w.heap.size) (hs : w.cell? ⟨b, o, none⟩ = some (.slice (some ⟨g, 0, none⟩) n c)) (hs' : w.cell? ⟨b', o', none⟩ = some (.slice (some ⟨g', 0, none⟩) n' c')) (hp : Pts w g pts) (hp' : Pts w g' qts) :
    Calls Try.prog 82 #[.pointer (some ⟨b, o, none⟩), .pointer (some ⟨b', o', none⟩)] w fun e w' => e = .returned (.bool (decide (pts = qts))) ∧ Below w.heap.size w w' := by
  have HN := Lib.hid hn
  have HN' := Lib.hid hn'
  have HP := Lib.hid hp
  have HP' := Lib.hid hp'
  have HS := Lib.hid hs
  have HS' := Lib.hid hs'
  have qb := cell_kept (a := ⟨b, o, none⟩) hbz hs
  have qb' := cell_kept (a := ⟨b', o', none⟩) hbz' hs'
  clear hn hn' hp hp' hs hs'
  have hm := mixed
  have hu : undef = Value.tuple #[] := rfl
  by_cases hnn : n = n'
  · subst hnn
    go_enter Try.func82, Try.ntmps82
    go_wp2
    refine wp_region_quiet_kept (by assumption) (by kernel_rfl) ?_
    repeat (first | go_big_quiet_step (fail) | quiet_step (fail))
    refine wpQuiet_nil ?_
    intro _ hw'
    obtain ⟨⟨w2, hb2⟩, hw''⟩ := hw'
    subst hw''
    have HB0 := Lib.hid hb2
    clear hb2 qb qb'
    go_wp2
    go_loopw [5] (fun i w' => ∃ k : Nat, k ≤ n ∧ i = .int .i64 k ∧ Hid (Below w.heap.size w w') ∧ Hid (∀ j, j < k → pts[j]? = qts[j]?)) (fun i _ => n - (intOf i).toNat)
    case atStart => exact ⟨0, Nat.zero_le _, rfl, HB0, Lib.hid fun j hj => absurd hj (by omega)⟩
    case round =>
      clear HB0
      obtain ⟨k, hk, rfl, HB, HA⟩ := hrel
      have hs := (HB.out.cell hbz).trans HS.out
      by_cases hlt : k < n
      · have hkl : k < pts.length := by rw [HN.out]; exact hlt
        have hkl' : k < qts.length := by rw [HN'.out]; exact hlt
        have e1 := List.getElem?_eq_getElem hkl
        have e2 := List.getElem?_eq_getElem hkl'
        obtain ⟨p0, p1, p2⟩ := HP.out k pts[k] e1
        obtain ⟨r0, r1, r2⟩ := HP'.out k qts[k] e2
        generalize pts[k] = x at e1 p0 p1 p2
        generalize qts[k] = y at e2 r0 r1 r2
        have E1 := Lib.hid e1
        have E2 := Lib.hid e2
        clear e1 e2
        go_wp2
        have hgz : g < wr.heap.size := Nat.lt_of_lt_of_le hg HB.out.size
        have hgz' : g' < wr.heap.size := Nat.lt_of_lt_of_le hg' HB.out.size
        have hbw : b < wr.heap.size := Nat.lt_of_lt_of_le hbz HB.out.size
        have hbw' : b' < wr.heap.size := Nat.lt_of_lt_of_le hbz' HB.out.size
        have qb := cell_kept (a := ⟨b, o, none⟩) hbw hs
        have qb' := cell_kept (a := ⟨b', o', none⟩) hbw' ((HB.out.cell hbz').trans HS'.out)
        have a0 := cell_kept (a := ⟨g, k * 3, none⟩) hgz ((HB.out.cell (p := ⟨g, k * 3, none⟩) hg).trans p0)
        have a1 := cell_kept (a := ⟨g, k * 3 + 1, none⟩) hgz ((HB.out.cell (p := ⟨g, k * 3 + 1, none⟩) hg).trans p1)
        have a2 := cell_kept (a := ⟨g, k * 3 + 2, none⟩) hgz ((HB.out.cell (p := ⟨g, k * 3 + 2, none⟩) hg).trans p2)
        have b0 := cell_kept (a := ⟨g', k * 3, none⟩) hgz' ((HB.out.cell (p := ⟨g', k * 3, none⟩) hg').trans r0)
        have b1 := cell_kept (a := ⟨g', k * 3 + 1, none⟩) hgz' ((HB.out.cell (p := ⟨g', k * 3 + 1, none⟩) hg').trans r1)
        have b2 := cell_kept (a := ⟨g', k * 3 + 2, none⟩) hgz' ((HB.out.cell (p := ⟨g', k * 3 + 2, none⟩) hg').trans r2)
        have hli : (k : Int) < (n : Int) := by omega
        clear p0 p1 p2 r0 r1 r2 hs
        have hE := eq71 x y
        have hgd := guard71
        by_cases hxy : x = y
        · have hd : decide (x = y) = true := decide_eq_true hxy
          have HA2 := Lib.hid (more_same HA.out E1.out (hxy ▸ E2.out))
          rw [hd] at hE
          clear HA hd hxy
          refine wp_region_quiet_kept (by assumption) (by kernel_rfl) ?_
          repeat (first | go_big_quiet_step (fail) | quiet_step (fail))
          refine wpQuiet_nil ?_
          intro _ hw'
          obtain ⟨⟨w2, hb2⟩, hw''⟩ := hw'
          subst hw''
          have HB2 := Lib.hid (HB.out.trans (hb2.mono HB.out.size))
          clear hb2 qb qb' a0 a1 a2 b0 b1 b2 hE hgd
          go_wp2
          go_roundw
          case rel => exact ⟨k + 1, by omega, by go_num, HB2, HA2⟩
          case measure => simp [intOf]; omega
        · have hd : decide (x = y) = false := decide_eq_false hxy
          have HF := Lib.hid (ends_other E1.out E2.out hxy)
          rw [hd] at hE
          clear HA hd hxy
          refine wp_region_quiet_kept (by assumption) (by kernel_rfl) ?_
          repeat (first | go_big_quiet_step (fail) | quiet_step (fail))
          refine wpQuiet_nil ?_
          intro _ hw'
          obtain ⟨⟨w2, hb2⟩, hw''⟩ := hw'
          subst hw''
          have HB2 := Lib.hid (HB.out.trans (hb2.mono HB.out.size))
          clear hb2 qb qb' a0 a1 a2 b0 b1 b2 hE hgd
          go_wp2
          go_ret
          exact ⟨by rw [HF.out]; rfl, HB2.out⟩
      · have HT := Lib.hid (show decide (pts = qts) = true from ends_same HN.out HN'.out fun j hj => HA.out j (by omega))
        go_wp2
        go_ret
        exact ⟨by rw [HT.out]; rfl, HB.out⟩
  · have HT := Lib.hid (ends_size HN.out HN'.out hnn)
    have hnn' : ¬ ((n : Int) = (n' : Int)) := by omega
    go_enter Try.func82, Try.ntmps82
    go_wp2
    refine wp_region_quiet_kept (by assumption) (by kernel_rfl) ?_
    repeat (first | go_big_quiet_step (fail) | quiet_step (fail))
    refine wpQuiet_nil ?_
    intro _ hw'
    obtain ⟨⟨w2, hb2⟩, hw''⟩ := hw'
    subst hw''
    have HB0 := Lib.hid hb2
    clear hb2 qb qb'
    go_wp2
    go_ret
    exact ⟨by rw [HT.out]; rfl, HB0.out⟩

set_option maxRecDepth 100000 in
set_option maxHeartbeats 4000000 in
theorem equal_calls {c c' : Nat} (g g' n n' : Nat) (pts qts : List P3) (w : World) (hn : pts.length = n) (hn' : qts.length = n') (hcap : n ≤ 1048576) (hcap' : n' ≤ 1048576) (hg : g < w.heap.size) (hg' : g' < w.heap.size) (hp : Pts w g pts) (hp' : Pts w g' qts) :
    Calls Try.prog 83 #[.slice (some ⟨g, 0, none⟩) n c, .slice (some ⟨g', 0, none⟩) n' c'] w fun e w' => e = .returned (.bool (decide (pts = qts))) ∧ Below w.heap.size w w' := by
  have HN := Lib.hid hn
  have HN' := Lib.hid hn'
  have HP := Lib.hid hp
  have HP' := Lib.hid hp'
  clear hn hn' hp hp'
  have hm := mixed
  have hu : undef = Value.tuple #[] := rfl
  by_cases hnn : n = n'
  · subst hnn
    go_enter Try.func83, Try.ntmps83
    go_wp2
    go_loopw [13] (fun i w' => ∃ k : Nat, k ≤ n ∧ i = .int .i64 k ∧ Hid (Below w.heap.size w w') ∧ Hid (∀ j, j < k → pts[j]? = qts[j]?)) (fun i _ => n - (intOf i).toNat)
    case atStart => exact ⟨0, Nat.zero_le _, rfl, Lib.hid (Below.refl _ _), Lib.hid fun j hj => absurd hj (by omega)⟩
    case round =>
      obtain ⟨k, hk, rfl, HB, HA⟩ := hrel
      by_cases hlt : k < n
      · have hkl : k < pts.length := by rw [HN.out]; exact hlt
        have hkl' : k < qts.length := by rw [HN'.out]; exact hlt
        have e1 := List.getElem?_eq_getElem hkl
        have e2 := List.getElem?_eq_getElem hkl'
        obtain ⟨p0, p1, p2⟩ := HP.out k pts[k] e1
        obtain ⟨r0, r1, r2⟩ := HP'.out k qts[k] e2
        generalize pts[k] = x at e1 p0 p1 p2
        generalize qts[k] = y at e2 r0 r1 r2
        have E1 := Lib.hid e1
        have E2 := Lib.hid e2
        clear e1 e2
        go_wp2
        have hgz : g < wr.heap.size := Nat.lt_of_lt_of_le hg HB.out.size
        have hgz' : g' < wr.heap.size := Nat.lt_of_lt_of_le hg' HB.out.size
        have a0 := cell_kept (a := ⟨g, k * 3, none⟩) hgz ((HB.out.cell (p := ⟨g, k * 3, none⟩) hg).trans p0)
        have a1 := cell_kept (a := ⟨g, k * 3 + 1, none⟩) hgz ((HB.out.cell (p := ⟨g, k * 3 + 1, none⟩) hg).trans p1)
        have a2 := cell_kept (a := ⟨g, k * 3 + 2, none⟩) hgz ((HB.out.cell (p := ⟨g, k * 3 + 2, none⟩) hg).trans p2)
        have b0 := cell_kept (a := ⟨g', k * 3, none⟩) hgz' ((HB.out.cell (p := ⟨g', k * 3, none⟩) hg').trans r0)
        have b1 := cell_kept (a := ⟨g', k * 3 + 1, none⟩) hgz' ((HB.out.cell (p := ⟨g', k * 3 + 1, none⟩) hg').trans r1)
        have b2 := cell_kept (a := ⟨g', k * 3 + 2, none⟩) hgz' ((HB.out.cell (p := ⟨g', k * 3 + 2, none⟩) hg').trans r2)
        have hli : (k : Int) < (n : Int) := by omega
        clear p0 p1 p2 r0 r1 r2
        have hE := eq71 x y
        have hgd := guard71
        by_cases hxy : x = y
        · have hd : decide (x = y) = true := decide_eq_true hxy
          have HA2 := Lib.hid (more_same HA.out E1.out (hxy ▸ E2.out))
          rw [hd] at hE
          clear HA hd hxy
          refine wp_region_quiet_kept (by assumption) (by kernel_rfl) ?_
          repeat (first | go_big_quiet_step (fail) | quiet_step (fail))
          refine wpQuiet_nil ?_
          intro _ hw'
          obtain ⟨⟨w2, hb2⟩, hw''⟩ := hw'
          subst hw''
          have HB2 := Lib.hid (HB.out.trans (hb2.mono HB.out.size))
          clear hb2 a0 a1 a2 b0 b1 b2 hE hgd
          go_wp2
          go_roundw
          case rel => exact ⟨k + 1, by omega, by go_num, HB2, HA2⟩
          case measure => simp [intOf]; omega
        · have hd : decide (x = y) = false := decide_eq_false hxy
          have HF := Lib.hid (ends_other E1.out E2.out hxy)
          rw [hd] at hE
          clear HA hd hxy
          refine wp_region_quiet_kept (by assumption) (by kernel_rfl) ?_
          repeat (first | go_big_quiet_step (fail) | quiet_step (fail))
          refine wpQuiet_nil ?_
          intro _ hw'
          obtain ⟨⟨w2, hb2⟩, hw''⟩ := hw'
          subst hw''
          have HB2 := Lib.hid (HB.out.trans (hb2.mono HB.out.size))
          clear hb2 a0 a1 a2 b0 b1 b2 hE hgd
          go_wp2
          go_ret
          exact ⟨by rw [HF.out]; rfl, HB2.out⟩
      · have HT := Lib.hid (show decide (pts = qts) = true from ends_same HN.out HN'.out fun j hj => HA.out j (by omega))
        go_wp2
        go_ret
        exact ⟨by rw [HT.out]; rfl, HB.out⟩
  · have HT := Lib.hid (ends_size HN.out HN'.out hnn)
    have hnn' : ¬ ((n : Int) = (n' : Int)) := by omega
    go_enter Try.func83, Try.ntmps83
    go_wp2
    go_ret
    exact ⟨by rw [HT.out]; rfl, Below.refl _ _⟩

set_option maxHeartbeats 1000000 in
theorem sameStroke_calls {c c' : Nat} (g g' n n' : Nat) (pts qts : List P3) (w : World) (hn : pts.length = n) (hn' : qts.length = n') (hcap : n ≤ 1048576) (hcap' : n' ≤ 1048576) (hg : g < w.heap.size) (hg' : g' < w.heap.size) (hp : Pts w g pts) (hp' : Pts w g' qts) :
    Calls Try.prog 59 #[.agg #[.slice (some ⟨g, 0, none⟩) n c], .agg #[.slice (some ⟨g', 0, none⟩) n' c']] w fun e w' => e = .returned (.bool (decide (pts = qts))) ∧ Below w.heap.size w w' := by
  have HP := Lib.hid hp
  have HP' := Lib.hid hp'
  clear hp hp'
  go_enter Try.func59, Try.ntmps59
  go_wp2_with fail
  refine (equal_calls g g' n n' pts qts _ hn hn' hcap hcap' (by simp; omega) (by simp; omega) (HP.out.below (below_alloc2 _ _ _) hg) (HP'.out.below (below_alloc2 _ _ _) hg')).mono ?_
  rintro e w1 ⟨rfl, hb1⟩
  have HB := Lib.hid ((below_alloc2 w _ _).trans (hb1.mono (below_alloc2 w _ _).size))
  clear hb1
  go_wp2
  go_ret
  exact ⟨rfl, HB.out⟩

set_option maxRecDepth 100000 in
set_option maxHeartbeats 4000000 in
theorem l02Same_calls {o o' C C' : Nat} (b b' G G' n n' : Nat) (ink jnk : List (List P3)) (w : World) (hn : ink.length = n) (hn' : jnk.length = n') (hcap : n ≤ 1048576) (hcap' : n' ≤ 1048576) (hsm : ∀ pts ∈ ink, pts.length ≤ 1048576) (hsm' : ∀ pts ∈ jnk, pts.length ≤ 1048576) (hg : G < w.heap.size) (hg' : G' < w.heap.size) (hbz : b < w.heap.size) (hbz' : b' < w.heap.size) (hs : w.cell? ⟨b, o, none⟩ = some (.slice (some ⟨G, 0, none⟩) n C)) (hs' : w.cell? ⟨b', o', none⟩ = some (.slice (some ⟨G', 0, none⟩) n' C')) (hp : RowsFrom 0 w G ink) (hp' : RowsFrom 0 w G' jnk) :
    Calls Try.prog 57 #[.pointer (some ⟨b, o, none⟩), .pointer (some ⟨b', o', none⟩)] w fun e w' => e = .returned (.bool (decide (ink = jnk))) ∧ Below w.heap.size w w' := by
  have HN := Lib.hid hn
  have HN' := Lib.hid hn'
  have HP := Lib.hid hp
  have HP' := Lib.hid hp'
  have HS := Lib.hid hs
  have HS' := Lib.hid hs'
  have HM := Lib.hid hsm
  have HM' := Lib.hid hsm'
  have qb := cell_kept (a := ⟨b, o, none⟩) hbz hs
  have qb' := cell_kept (a := ⟨b', o', none⟩) hbz' hs'
  clear hn hn' hp hp' hs hs' hsm hsm'
  have hm := mixed
  have hu : undef = Value.tuple #[] := rfl
  by_cases hnn : n = n'
  · subst hnn
    go_enter Try.func57, Try.ntmps57
    go_wp2
    refine wp_region_quiet_kept (by assumption) (by kernel_rfl) ?_
    repeat (first | go_big_quiet_step (fail) | quiet_step (fail))
    refine wpQuiet_nil ?_
    intro _ hw'
    obtain ⟨⟨w2, hb2⟩, hw''⟩ := hw'
    subst hw''
    have HB0 := Lib.hid hb2
    clear hb2 qb qb'
    go_wp2
    go_loopw [5] (fun i w' => ∃ k : Nat, k ≤ n ∧ i = .int .i64 k ∧ Hid (Below w.heap.size w w') ∧ Hid (∀ j, j < k → ink[j]? = jnk[j]?)) (fun i _ => n - (intOf i).toNat)
    case atStart => exact ⟨0, Nat.zero_le _, rfl, HB0, Lib.hid fun j hj => absurd hj (by omega)⟩
    case round =>
      clear HB0
      obtain ⟨k, hk, rfl, HB, HA⟩ := hrel
      have hs := (HB.out.cell hbz).trans HS.out
      by_cases hlt : k < n
      · have hkl : k < ink.length := by rw [HN.out]; exact hlt
        have hkl' : k < jnk.length := by rw [HN'.out]; exact hlt
        have e1 := List.getElem?_eq_getElem hkl
        have e2 := List.getElem?_eq_getElem hkl'
        obtain ⟨g, c, -, hgl, p0, hpt⟩ := HP.out k ink[k] e1
        obtain ⟨g', d, -, hgl', p0', hpt'⟩ := HP'.out k jnk[k] e2
        have hsm := HM.out ink[k] (List.getElem_mem hkl)
        have hsm' := HM'.out jnk[k] (List.getElem_mem hkl')
        generalize ink[k] = pts at e1 p0 hpt hsm
        generalize jnk[k] = qts at e2 p0' hpt' hsm'
        have E1 := Lib.hid e1
        have E2 := Lib.hid e2
        clear e1 e2
        go_wp2
        have hG : G < wr.heap.size := Nat.lt_of_lt_of_le hg HB.out.size
        have hG' : G' < wr.heap.size := Nat.lt_of_lt_of_le hg' HB.out.size
        have hgz : g < wr.heap.size := Nat.lt_of_lt_of_le hgl HB.out.size
        have hgz' : g' < wr.heap.size := Nat.lt_of_lt_of_le hgl' HB.out.size
        have hbw : b < wr.heap.size := Nat.lt_of_lt_of_le hbz HB.out.size
        have hbw' : b' < wr.heap.size := Nat.lt_of_lt_of_le hbz' HB.out.size
        have qb := cell_kept (a := ⟨b, o, none⟩) hbw hs
        have qb' := cell_kept (a := ⟨b', o', none⟩) hbw' ((HB.out.cell hbz').trans HS'.out)
        have q0 := cell_kept (a := ⟨G, k, none⟩) hG ((HB.out.cell (p := ⟨G, k, none⟩) hg).trans p0)
        have q0' := cell_kept (a := ⟨G', k, none⟩) hG' ((HB.out.cell (p := ⟨G', k, none⟩) hg').trans p0')
        have HPT := Lib.hid (hpt.below HB.out hgl)
        have HPT' := Lib.hid (hpt'.below HB.out hgl')
        have hli : (k : Int) < (n : Int) := by omega
        clear p0 p0' hpt hpt' hs
        by_cases hxy : pts = qts
        · have HD := Lib.hid (show decide (pts = qts) = true from decide_eq_true hxy)
          have HA2 := Lib.hid (more_same HA.out E1.out (hxy ▸ E2.out))
          clear HA hxy
          refine wp_region_quiet_kept (by assumption) (by kernel_rfl) ?_
          repeat (first | go_big_quiet_step ((go_at_call 82; exact Calls.kept_of ((l02SameStroke_calls (c := c) (c' := d) (o := k) (o' := k) G G' g g' pts.length qts.length pts qts _ rfl rfl hsm hsm' (kept_lt hgz _) (kept_lt hgz' _) (kept_lt hG _) (kept_lt hG' _) (q0 _) (q0' _) (HPT.out.below (Kept.below _) hgz) (HPT'.out.below (Kept.below _) hgz')).mono fun _ _ ⟨he, hb⟩ => ⟨by rw [he, HD.out], hb⟩))) | quiet_step ((go_at_call 82; exact Calls.kept_of ((l02SameStroke_calls (c := c) (c' := d) (o := k) (o' := k) G G' g g' pts.length qts.length pts qts _ rfl rfl hsm hsm' (kept_lt hgz _) (kept_lt hgz' _) (kept_lt hG _) (kept_lt hG' _) (q0 _) (q0' _) (HPT.out.below (Kept.below _) hgz) (HPT'.out.below (Kept.below _) hgz')).mono fun _ _ ⟨he, hb⟩ => ⟨by rw [he, HD.out], hb⟩))))
          refine wpQuiet_nil ?_
          intro _ hw'
          obtain ⟨⟨w2, hb2⟩, hw''⟩ := hw'
          subst hw''
          have HB2 := Lib.hid (HB.out.trans (hb2.mono HB.out.size))
          clear hb2 qb qb' q0 q0'
          go_wp2
          go_roundw
          case rel => exact ⟨k + 1, by omega, by go_num, HB2, HA2⟩
          case measure => simp [intOf]; omega
        · have HD := Lib.hid (show decide (pts = qts) = false from decide_eq_false hxy)
          have HF := Lib.hid (ends_other E1.out E2.out hxy)
          clear HA hxy
          refine wp_region_quiet_kept (by assumption) (by kernel_rfl) ?_
          repeat (first | go_big_quiet_step ((go_at_call 82; exact Calls.kept_of ((l02SameStroke_calls (c := c) (c' := d) (o := k) (o' := k) G G' g g' pts.length qts.length pts qts _ rfl rfl hsm hsm' (kept_lt hgz _) (kept_lt hgz' _) (kept_lt hG _) (kept_lt hG' _) (q0 _) (q0' _) (HPT.out.below (Kept.below _) hgz) (HPT'.out.below (Kept.below _) hgz')).mono fun _ _ ⟨he, hb⟩ => ⟨by rw [he, HD.out], hb⟩))) | quiet_step ((go_at_call 82; exact Calls.kept_of ((l02SameStroke_calls (c := c) (c' := d) (o := k) (o' := k) G G' g g' pts.length qts.length pts qts _ rfl rfl hsm hsm' (kept_lt hgz _) (kept_lt hgz' _) (kept_lt hG _) (kept_lt hG' _) (q0 _) (q0' _) (HPT.out.below (Kept.below _) hgz) (HPT'.out.below (Kept.below _) hgz')).mono fun _ _ ⟨he, hb⟩ => ⟨by rw [he, HD.out], hb⟩))))
          refine wpQuiet_nil ?_
          intro _ hw'
          obtain ⟨⟨w2, hb2⟩, hw''⟩ := hw'
          subst hw''
          have HB2 := Lib.hid (HB.out.trans (hb2.mono HB.out.size))
          clear hb2 qb qb' q0 q0'
          go_wp2
          go_ret
          exact ⟨by rw [HF.out]; rfl, HB2.out⟩
      · have HT := Lib.hid (show decide (ink = jnk) = true from ends_same HN.out HN'.out fun j hj => HA.out j (by omega))
        go_wp2
        go_ret
        exact ⟨by rw [HT.out]; rfl, HB.out⟩
  · have HT := Lib.hid (ends_size HN.out HN'.out hnn)
    have hnn' : ¬ ((n : Int) = (n' : Int)) := by omega
    go_enter Try.func57, Try.ntmps57
    go_wp2
    refine wp_region_quiet_kept (by assumption) (by kernel_rfl) ?_
    repeat (first | go_big_quiet_step (fail) | quiet_step (fail))
    refine wpQuiet_nil ?_
    intro _ hw'
    obtain ⟨⟨w2, hb2⟩, hw''⟩ := hw'
    subst hw''
    have HB0 := Lib.hid hb2
    clear hb2 qb qb'
    go_wp2
    go_ret
    exact ⟨by rw [HT.out]; rfl, HB0.out⟩

set_option maxHeartbeats 1000000 in
theorem specSame_calls {C C' : Nat} (G G' n n' : Nat) (ink jnk : List (List P3)) (w : World) (hn : ink.length = n) (hn' : jnk.length = n') (hcap : n ≤ 1048576) (hcap' : n' ≤ 1048576) (hsm : ∀ pts ∈ ink, pts.length ≤ 1048576) (hsm' : ∀ pts ∈ jnk, pts.length ≤ 1048576) (hg : G < w.heap.size) (hg' : G' < w.heap.size) (hp : RowsFrom 0 w G ink) (hp' : RowsFrom 0 w G' jnk) :
    Calls Try.prog 24 #[.agg #[.slice (some ⟨G, 0, none⟩) n C], .agg #[.slice (some ⟨G', 0, none⟩) n' C']] w fun e w' => e = .returned (.bool (decide (ink = jnk))) ∧ Below w.heap.size w w' := by
  have HP := Lib.hid hp
  have HP' := Lib.hid hp'
  clear hp hp'
  go_enter Try.func24, Try.ntmps24
  go_wp2_with fail
  refine (l02Same_calls (o := 0) (o' := 0) (C := C) (C' := C') _ _ G G' n n' ink jnk _ hn hn' hcap hcap' hsm hsm' (by simp; omega) (by simp; omega) (by simp; omega) (by simp) (by simp) (by simp) (HP.out.below (below_alloc2 _ _ _) hg) (HP'.out.below (below_alloc2 _ _ _) hg')).mono ?_
  rintro e w1 ⟨rfl, hb1⟩
  have HB := Lib.hid ((below_alloc2 w _ _).trans (hb1.mono (below_alloc2 w _ _).size))
  clear hb1
  go_wp2
  go_ret
  exact ⟨rfl, HB.out⟩

set_option maxRecDepth 100000 in
set_option maxHeartbeats 4000000 in
theorem equalFunc_calls {C C' : Nat} (G G' n n' : Nat) (ink jnk : List (List P3)) (w : World) (hn : ink.length = n) (hn' : jnk.length = n') (hcap : n ≤ 1048576) (hcap' : n' ≤ 1048576) (hsm : ∀ pts ∈ ink, pts.length ≤ 1048576) (hsm' : ∀ pts ∈ jnk, pts.length ≤ 1048576) (hg : G < w.heap.size) (hg' : G' < w.heap.size) (hp : RowsFrom 0 w G ink) (hp' : RowsFrom 0 w G' jnk) :
    Calls Try.prog 58 #[.slice (some ⟨G, 0, none⟩) n C, .slice (some ⟨G', 0, none⟩) n' C', .func (.func 59) #[] #[]] w fun e w' => e = .returned (.bool (decide (ink = jnk))) ∧ Below w.heap.size w w' := by
  have HN := Lib.hid hn
  have HN' := Lib.hid hn'
  have HP := Lib.hid hp
  have HP' := Lib.hid hp'
  have HM := Lib.hid hsm
  have HM' := Lib.hid hsm'
  clear hn hn' hp hp' hsm hsm'
  by_cases hnn : n = n'
  · subst hnn
    go_enter Try.func58, Try.ntmps58
    go_wp2
    go_loopw [17] (fun i w' => ∃ k : Nat, k ≤ n ∧ i = .int .i64 k ∧ Hid (Below w.heap.size w w') ∧ Hid (∀ j, j < k → ink[j]? = jnk[j]?)) (fun i _ => n - (intOf i).toNat)
    case atStart => exact ⟨0, Nat.zero_le _, rfl, Lib.hid (Below.refl _ _), Lib.hid fun j hj => absurd hj (by omega)⟩
    case round =>
      obtain ⟨k, hk, rfl, HB, HA⟩ := hrel
      by_cases hlt : k < n
      · have hkl : k < ink.length := by rw [HN.out]; exact hlt
        have hkl' : k < jnk.length := by rw [HN'.out]; exact hlt
        have e1 := List.getElem?_eq_getElem hkl
        have e2 := List.getElem?_eq_getElem hkl'
        obtain ⟨g, c, -, hgl, p0, hpt⟩ := HP.out k ink[k] e1
        obtain ⟨g', d, -, hgl', p0', hpt'⟩ := HP'.out k jnk[k] e2
        have hsm := HM.out ink[k] (List.getElem_mem hkl)
        have hsm' := HM'.out jnk[k] (List.getElem_mem hkl')
        generalize ink[k] = pts at e1 p0 hpt hsm
        generalize jnk[k] = qts at e2 p0' hpt' hsm'
        have E1 := Lib.hid e1
        have E2 := Lib.hid e2
        clear e1 e2
        have hG : G < wr.heap.size := Nat.lt_of_lt_of_le hg HB.out.size
        have hG' : G' < wr.heap.size := Nat.lt_of_lt_of_le hg' HB.out.size
        have hgz : g < wr.heap.size := Nat.lt_of_lt_of_le hgl HB.out.size
        have hgz' : g' < wr.heap.size := Nat.lt_of_lt_of_le hgl' HB.out.size
        have q0 := (HB.out.cell (p := ⟨G, k, none⟩) hg).trans p0
        have q0' := (HB.out.cell (p := ⟨G', k, none⟩) hg').trans p0'
        have HPT := Lib.hid (hpt.below HB.out hgl)
        have HPT' := Lib.hid (hpt'.below HB.out hgl')
        have hli : (k : Int) < (n : Int) := by omega
        clear p0 p0' hpt hpt'
        go_wp2_with fail
        refine (sameStroke_calls (c := c) (c' := d) g g' pts.length qts.length pts qts _ rfl rfl hsm hsm' (by simp; omega) (by simp; omega) (HPT.out.below (below_alloc2 _ _ _) hgz) (HPT'.out.below (below_alloc2 _ _ _) hgz')).mono ?_
        rintro e w2 ⟨rfl, hb2⟩
        have HB2 := Lib.hid (HB.out.trans (((below_alloc2 wr _ _).trans (hb2.mono (below_alloc2 wr _ _).size)).mono HB.out.size))
        clear hb2 q0 q0'
        by_cases hxy : pts = qts
        · have HD := Lib.hid (show decide (pts = qts) = true from decide_eq_true hxy)
          have HA2 := Lib.hid (more_same HA.out E1.out (hxy ▸ E2.out))
          clear HA hxy
          rw [HD.out]
          go_wp2
          go_roundw
          case rel => exact ⟨k + 1, by omega, by go_num, HB2, HA2⟩
          case measure => simp [intOf]; omega
        · have HD := Lib.hid (show decide (pts = qts) = false from decide_eq_false hxy)
          have HF := Lib.hid (ends_other E1.out E2.out hxy)
          clear HA hxy
          rw [HD.out]
          go_wp2
          go_ret
          exact ⟨by rw [HF.out]; rfl, HB2.out⟩
      · have HT := Lib.hid (show decide (ink = jnk) = true from ends_same HN.out HN'.out fun j hj => HA.out j (by omega))
        go_wp2
        go_ret
        exact ⟨by rw [HT.out]; rfl, HB.out⟩
  · have HT := Lib.hid (ends_size HN.out HN'.out hnn)
    have hnn' : ¬ ((n : Int) = (n' : Int)) := by omega
    go_enter Try.func58, Try.ntmps58
    go_wp2
    go_ret
    exact ⟨by rw [HT.out]; rfl, Below.refl _ _⟩

set_option maxHeartbeats 1000000 in
theorem implSame_calls {C C' : Nat} (G G' n n' : Nat) (ink jnk : List (List P3)) (w : World) (hn : ink.length = n) (hn' : jnk.length = n') (hcap : n ≤ 1048576) (hcap' : n' ≤ 1048576) (hsm : ∀ pts ∈ ink, pts.length ≤ 1048576) (hsm' : ∀ pts ∈ jnk, pts.length ≤ 1048576) (hg : G < w.heap.size) (hg' : G' < w.heap.size) (hp : RowsFrom 0 w G ink) (hp' : RowsFrom 0 w G' jnk) :
    Calls Try.prog 25 #[.agg #[.slice (some ⟨G, 0, none⟩) n C], .agg #[.slice (some ⟨G', 0, none⟩) n' C']] w fun e w' => e = .returned (.bool (decide (ink = jnk))) ∧ Below w.heap.size w w' := by
  have HP := Lib.hid hp
  have HP' := Lib.hid hp'
  clear hp hp'
  go_enter Try.func25, Try.ntmps25
  go_wp2_with fail
  refine (equalFunc_calls (C := C) (C' := C') G G' n n' ink jnk _ hn hn' hcap hcap' hsm hsm' (by simp; omega) (by simp; omega) (HP.out.below (below_alloc2 _ _ _) hg) (HP'.out.below (below_alloc2 _ _ _) hg')).mono ?_
  rintro e w1 ⟨rfl, hb1⟩
  have HB := Lib.hid ((below_alloc2 w _ _).trans (hb1.mono (below_alloc2 w _ _).size))
  clear hb1
  go_wp2
  go_ret
  exact ⟨rfl, HB.out⟩
end Go.Proofs.Ytklfmlbokedbdaa.same
