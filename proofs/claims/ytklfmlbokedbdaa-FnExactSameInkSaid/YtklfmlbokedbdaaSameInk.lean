/-
  Proved: for every two inks, the call of the law on SameInk returns true and leaves its arguments as they were.
  Conditions: none beyond the row's own.
-/
import Derived.Test.YtklfmlbokedbdaaSame
import Derived.Deep.RegionHeld3
import Derived.Deep.DeepCutAuto
namespace Go.Proofs.Ytklfmlbokedbdaa.fnExactSameInk
open Go.ChangeShapes Go.WideShapes Go.ChangeAt Go.RowKit Go.Joins
open Go.Proofs.Ytklfmlbokedbdaa.join Go.Proofs.Ytklfmlbokedbdaa.strokes Go.Proofs.Ytklfmlbokedbdaa.inks Go.Proofs.Ytklfmlbokedbdaa.same
open Go.Proofs.Ytklfmlbokedbdaa.inkLaw (open_ink)
open Go.Proofs.Ytklfmlbokedbdaa.boxes (own)
set_option linter.unusedVariables false

/-- Both arguments, as they lie in the call's own cells. -/
structure InvA (w : World) (A A' : Option Addr) (ink jnk : List (List P3)) (W : World) : Prop where
  below : Below w.heap.size w W
  z : w.heap.size + 1 < W.heap.size
  arg : ArgRows W A ink
  arg' : ArgRows W A' jnk
abbrev SA (w : World) (A A' : Option Addr) (n cap n' cap' : Nat) (ink jnk : List (List P3)) (W : World) : Prop :=
  W.cell? ⟨w.heap.size, 0, none⟩ = some (.slice A n cap) ∧ W.cell? ⟨w.heap.size + 1, 0, none⟩ = some (.slice A' n' cap') ∧ InvA w A A' ink jnk W
section
variable {w : World} {A A' : Option Addr} {n cap n' cap' : Nat} {ink jnk : List (List P3)} {W W' : World}
theorem SA_kept (hb : Below W.heap.size W W') (h : SA w A A' n cap n' cap' ink jnk W) : SA w A A' n cap n' cap' ink jnk W' := by
  obtain ⟨h0, h1, hi⟩ := h
  have z := hi.z
  have := hb.size
  exact ⟨(hb.cell (p := ⟨w.heap.size, 0, none⟩) (show w.heap.size < W.heap.size by omega)).trans h0, (hb.cell (p := ⟨w.heap.size + 1, 0, none⟩) z).trans h1, ⟨hi.below.trans (hb.mono hi.below.size), by omega, hi.arg.below hb, hi.arg'.below hb⟩⟩
theorem SA_drew (h : SA w A A' n cap n' cap' ink jnk W) : SA w A A' n cap n' cap' ink jnk W.drew := ⟨h.1, h.2.1, ⟨h.2.2.below.drew, h.2.2.z, h.2.2.arg, h.2.2.arg'⟩⟩
theorem SA_arg (h : SA w A A' n cap n' cap' ink jnk W) : ArgRows W A ink := h.2.2.arg
theorem SA_arg' (h : SA w A A' n cap n' cap' ink jnk W) : ArgRows W A' jnk := h.2.2.arg'
theorem SA_start (hp : ArgRows w A ink) (hp' : ArgRows w A' jnk) : SA w A A' n cap n' cap' ink jnk ((w.alloc (.cells #[.slice A n cap] 35)).alloc (.cells #[.slice A' n' cap'] 35)) :=
  ⟨by simp, by simp, ⟨below_alloc2 _ _ _, by simp, hp.below (below_alloc2 _ _ _), hp'.below (below_alloc2 _ _ _)⟩⟩
end

/-- Besides: both copies, in cells of their own. -/
structure InvB (w : World) (A A' : Option Addr) (ink jnk : List (List P3)) (G G' k k' : Nat) (W : World) : Prop where
  base : InvA w A A' ink jnk W
  kz : k < W.heap.size
  kz' : k' < W.heap.size
  gz : G < W.heap.size
  gz' : G' < W.heap.size
  row : RowsFrom 0 W G ink
  row' : RowsFrom 0 W G' jnk
abbrev SB (w : World) (A A' : Option Addr) (n cap n' cap' : Nat) (ink jnk : List (List P3)) (G G' k k' : Nat) (W : World) : Prop :=
  W.cell? ⟨k, 0, none⟩ = some (.slice (some ⟨G, 0, none⟩) n n) ∧ W.cell? ⟨k', 0, none⟩ = some (.slice (some ⟨G', 0, none⟩) n' n') ∧ W.cell? ⟨w.heap.size, 0, none⟩ = some (.slice A n cap) ∧ W.cell? ⟨w.heap.size + 1, 0, none⟩ = some (.slice A' n' cap') ∧ InvB w A A' ink jnk G G' k k' W
section
variable {w : World} {A A' : Option Addr} {n cap n' cap' : Nat} {ink jnk : List (List P3)} {G G' k k' : Nat} {W W' : World}
theorem SB_kept (hb : Below W.heap.size W W') (h : SB w A A' n cap n' cap' ink jnk G G' k k' W) : SB w A A' n cap n' cap' ink jnk G G' k k' W' := by
  obtain ⟨h0, h1, h2, h3, hi⟩ := h
  obtain ⟨a0, a1, a2⟩ := SA_kept hb (⟨h2, h3, hi.base⟩ : SA w A A' n cap n' cap' ink jnk W)
  have := hb.size
  exact ⟨(hb.cell (p := ⟨k, 0, none⟩) hi.kz).trans h0, (hb.cell (p := ⟨k', 0, none⟩) hi.kz').trans h1, a0, a1, ⟨a2, Nat.lt_of_lt_of_le hi.kz this, Nat.lt_of_lt_of_le hi.kz' this, Nat.lt_of_lt_of_le hi.gz this, Nat.lt_of_lt_of_le hi.gz' this, hi.row.below hb hi.gz, hi.row'.below hb hi.gz'⟩⟩
theorem SB_drew (h : SB w A A' n cap n' cap' ink jnk G G' k k' W) : SB w A A' n cap n' cap' ink jnk G G' k k' W.drew :=
  ⟨h.1, h.2.1, h.2.2.1, h.2.2.2.1, ⟨(SA_drew (⟨h.2.2.1, h.2.2.2.1, h.2.2.2.2.base⟩ : SA w A A' n cap n' cap' ink jnk W)).2.2, h.2.2.2.2.kz, h.2.2.2.2.kz', h.2.2.2.2.gz, h.2.2.2.2.gz', h.2.2.2.2.row, h.2.2.2.2.row'⟩⟩
theorem SB_arg (h : SB w A A' n cap n' cap' ink jnk G G' k k' W) : ArgRows W A ink := h.2.2.2.2.base.arg
theorem SB_arg' (h : SB w A A' n cap n' cap' ink jnk G G' k k' W) : ArgRows W A' jnk := h.2.2.2.2.base.arg'
theorem SB_gz (h : SB w A A' n cap n' cap' ink jnk G G' k k' W) : G < W.heap.size := h.2.2.2.2.gz
theorem SB_gz' (h : SB w A A' n cap n' cap' ink jnk G G' k k' W) : G' < W.heap.size := h.2.2.2.2.gz'
theorem SB_row (h : SB w A A' n cap n' cap' ink jnk G G' k k' W) : RowsFrom 0 W G ink := h.2.2.2.2.row
theorem SB_row' (h : SB w A A' n cap n' cap' ink jnk G G' k k' W) : RowsFrom 0 W G' jnk := h.2.2.2.2.row'
theorem SB_below (h : SB w A A' n cap n' cap' ink jnk G G' k k' W) : Below w.heap.size w W := h.2.2.2.2.base.below
end

set_option maxRecDepth 100000 in
set_option maxHeartbeats 4000000 in
theorem walk (A A' : Option Addr) (n cap n' cap' : Nat) (ink jnk : List (List P3)) (w : World) (hn : ink.length = n) (hmx : n ≤ maxLen) (hp : ArgRows w A ink) (hn' : jnk.length = n') (hmx' : n' ≤ maxLen) (hp' : ArgRows w A' jnk) :
    Calls Try.prog 5 #[.agg #[.slice A n cap], .agg #[.slice A' n' cap']] w fun e w' => e = .returned (.bool true) ∧ Below w.heap.size w w' := by
  have HN := Lib.hid hn
  have HN' := Lib.hid hn'
  have HK0 := Lib.hid (SA_start (n := n) (cap := cap) (n' := n') (cap' := cap') hp hp')
  clear hn hp hn' hp'
  go_enter Try.func5, Try.ntmps5
  go_wp2_with fail
  refine (szInk_calls A n cap 1048576 ink _ HN.out hmx (Nat.le_refl _) (SA_arg HK0.out)).mono ?_
  rintro e w1 ⟨r, rfl, hr, hb1⟩
  have HK1 := Lib.hid (SA_kept hb1 HK0.out)
  clear hb1 HK0
  rcases hr with rfl | ⟨M, rfl, hM, hcap', hsm⟩
  · have HB := Lib.hid HK1.out.2.2.below
    clear HK1
    go_wp2
    go_ret
    exact ⟨rfl, HB.out⟩
  have hcap : n ≤ 1048576 := by have := HN.out; omega
  have HM := Lib.hid hsm
  clear hsm hcap'
  have c1 := HK1.out.2.1
  have lz1 := HK1.out.2.2.z
  go_wp2_with fail
  refine (szInk_calls A' n' cap' M jnk _ HN'.out hmx' hM (SA_arg' HK1.out)).mono ?_
  rintro e w2 ⟨r, rfl, hr, hb2⟩
  have HK2 := Lib.hid (SA_kept hb2 HK1.out)
  clear hb2 HK1 c1 lz1
  rcases hr with rfl | ⟨M', rfl, hM', hcap', hsm⟩
  · have HB := Lib.hid HK2.out.2.2.below
    clear HK2
    go_wp2
    go_ret
    exact ⟨rfl, HB.out⟩
  have hcapj : n' ≤ 1048576 := by have := HN'.out; omega
  have HM' := Lib.hid hsm
  clear hsm hcap'
  generalize hv : decide (ink = jnk) = v
  have HV := Lib.hid hv
  clear hv
  have hk := HK2.out
  clear HK2
  go_upto_region 8 with fail
  go_cut [6] (fun s6 wx => s6 = .bool v ∧ Hid (SA w A A' n cap n' cap' ink jnk wx))
  case first =>
    obtain ⟨hc0, hc1, hi⟩ := id hk
    have hcA := hc0
    have hcB := hc1
    clear hc0 hc1 hi
    go_region_held3 (fun W => W.cell? ⟨w.heap.size, 0, none⟩ = some (.slice A n cap) ∧ W.cell? ⟨w.heap.size + 1, 0, none⟩ = some (.slice A' n' cap') ∧ InvA w A A' ink jnk W) (first | assumption | exact SA_drew hk | go_keep)
      (first
        | (go_at_call 21; refine (toInk_calls A n cap ink _ HN.out hcap HM.out (by exact SA_arg (by assumption))).mono ?_; rintro e wa ⟨ga, rfl, hga1, hga2, hra, hba⟩; have hra0 := RowsFrom.zero hra; have hk2 := SA_kept hba (by assumption); (try have hrb1 := RowsFrom.below hrb0 hba hgb2; have hgb3 := Nat.lt_of_lt_of_le hgb2 hba.size))
        | (go_at_call 21; refine (toInk_calls A' n' cap' jnk _ HN'.out hcapj HM'.out (by exact SA_arg' (by assumption))).mono ?_; rintro e wb ⟨gb, rfl, hgb1, hgb2, hrb, hbb⟩; have hrb0 := RowsFrom.zero hrb; have hk3 := SA_kept hbb (by assumption); (try have hra1 := RowsFrom.below hra0 hbb hga2; have hga3 := Nat.lt_of_lt_of_le hga2 hbb.size))
        | (go_at_call 24; refine (specSame_calls ga gb n n' ink jnk _ HN.out HN'.out hcap hcapj HM.out HM'.out (by assumption) (by assumption) (by assumption) (by assumption)).mono ?_; rintro e wc ⟨rfl, hbc⟩; have hk4 := SA_kept hbc (by assumption)))
    all_goals
      rename_i hh
      have HH := Lib.hid hh
      clear hh
      rw [HV.out]
      go_wp2_with fail
      go_meet
      exact ⟨rfl, HH⟩
  case rest =>
    obtain ⟨rfl, HC⟩ := hcut
    clear hk
    have c0 := HC.out.1
    have c1 := HC.out.2.1
    have lz0 := HC.out.2.2.z
    go_wp2_with fail
    refine (toInk_calls A n cap ink _ HN.out hcap HM.out (SA_arg HC.out)).mono ?_
    rintro e w3 ⟨G, rfl, -, hG, hra, hb3⟩
    have HR := Lib.hid (RowsFrom.zero hra)
    have HK3 := Lib.hid (SA_kept hb3 HC.out)
    have c3 := HK3.out.2.1
    have lz3 := HK3.out.2.2.z
    clear hb3 hra HC c0 c1 lz0
    go_wp2_with fail
    refine (toInk_calls A' n' cap' jnk _ HN'.out hcapj HM'.out (SA_arg' (SA_kept (below_alloc1 w3 _) HK3.out))).mono ?_
    rintro e w4 ⟨G', rfl, -, hG', hrb, hb4⟩
    have HR' := Lib.hid (RowsFrom.zero hrb)
    have HK4 := Lib.hid (SA_kept hb4 (SA_kept (below_alloc1 w3 _) HK3.out))
    have HRa := Lib.hid ((HR.out.below (below_alloc1 w3 (.cells #[.slice (some ⟨G, 0, none⟩) n n] 40)) hG).below hb4 (by simp; omega))
    have hz4 := hb4.size
    simp at hz4
    have hk4 : w4.cell? ⟨w3.heap.size, 0, none⟩ = some (.slice (some ⟨G, 0, none⟩) n n) := (hb4.cell (p := ⟨w3.heap.size, 0, none⟩) (by simp)).trans (by simp)
    have lz34 : w3.heap.size < w4.heap.size := by omega
    have HKB := Lib.hid (show SB w A A' n cap n' cap' ink jnk G G' w3.heap.size w4.heap.size (w4.alloc (.cells #[.slice (some ⟨G', 0, none⟩) n' n'] 40)) from by
      have ha := SA_kept (below_alloc1 w4 (.cells #[.slice (some ⟨G', 0, none⟩) n' n'] 40)) HK4.out
      exact ⟨(World.cell?_alloc_lt _ _ _ (by exact lz34)).trans hk4, by simp, ha.1, ha.2.1, ⟨ha.2.2, by simp; omega, by simp, by simp; omega, by simp; omega, HRa.out.below (below_alloc1 _ _) (by omega), HR'.out.below (below_alloc1 _ _) hG'⟩⟩)
    clear hb4 hrb HK3 HK4 HR HR' HRa c3 lz3
    go_wp2_with fail
    refine (implSame_calls G G' n n' ink jnk _ HN.out HN'.out hcap hcapj HM.out HM'.out (SB_gz HKB.out) (SB_gz' HKB.out) (SB_row HKB.out) (SB_row' HKB.out)).mono ?_
    rintro e w5 ⟨rfl, hb5⟩
    rw [HV.out]
    have hk5 := SB_kept hb5 HKB.out
    have d0 := hk5.1
    have d1 := hk5.2.1
    have d2 := hk5.2.2.1
    have d3 := hk5.2.2.2.1
    clear hb5 HKB hk4 lz34 hz4 hG hG'
    cases v
    all_goals
      go_upto_region 14 with fail
      go_cut [39] (fun s wx => s = .bool false ∧ Hid (SB w A A' n cap n' cap' ink jnk G G' w3.heap.size w4.heap.size wx))
      case first =>
        first | (go_region_held3 (fun W => W.cell? ⟨w3.heap.size, 0, none⟩ = some (.slice (some ⟨G, 0, none⟩) n n) ∧ W.cell? ⟨w4.heap.size, 0, none⟩ = some (.slice (some ⟨G', 0, none⟩) n' n') ∧ W.cell? ⟨w.heap.size, 0, none⟩ = some (.slice A n cap) ∧ W.cell? ⟨w.heap.size + 1, 0, none⟩ = some (.slice A' n' cap') ∧ InvB w A A' ink jnk G G' w3.heap.size w4.heap.size W) (first | assumption | exact SB_drew hk5 | go_keep)
          (first
            | (go_at_call 21; refine (toInk_calls A n cap ink _ HN.out hcap HM.out (by exact SB_arg (by assumption))).mono ?_; rintro e wa ⟨ga, rfl, hga1, hga2, hra, hba⟩; have hra0 := RowsFrom.zero hra; have hk2 := SB_kept hba (by assumption))
            | (go_at_call 23; refine (eqInk_same G _ n n n ink _ HN.out hcap HM.out (by exact SB_gz (by assumption)) (by assumption) (by exact SB_row (by assumption)) (by assumption)).mono ?_; rintro e wd ⟨rfl, hbd⟩; have hk3 := SB_kept hbd (by assumption)))) | fail
        all_goals
          rename_i hh
          have HH := Lib.hid hh
          clear hh
          go_wp2_with fail
          go_meet
          exact ⟨rfl, HH⟩
      case rest =>
        obtain ⟨rfl, HC⟩ := hcut
        clear hk5 d0 d1 d2 d3
        have hk6 := HC.out
        have d0 := hk6.1
        have d1 := hk6.2.1
        have d2 := hk6.2.2.1
        have d3 := hk6.2.2.2.1
        clear HC
        go_wp2
        first | (go_region_held3 (fun W => W.cell? ⟨w3.heap.size, 0, none⟩ = some (.slice (some ⟨G, 0, none⟩) n n) ∧ W.cell? ⟨w4.heap.size, 0, none⟩ = some (.slice (some ⟨G', 0, none⟩) n' n') ∧ W.cell? ⟨w.heap.size, 0, none⟩ = some (.slice A n cap) ∧ W.cell? ⟨w.heap.size + 1, 0, none⟩ = some (.slice A' n' cap') ∧ InvB w A A' ink jnk G G' w3.heap.size w4.heap.size W) (first | assumption | exact SB_drew hk6 | go_keep)
          (first
            | (go_at_call 21; refine (toInk_calls A' n' cap' jnk _ HN'.out hcapj HM'.out (by exact SB_arg' (by assumption))).mono ?_; rintro e wa ⟨ga, rfl, hga1, hga2, hra, hba⟩; have hra0 := RowsFrom.zero hra; have hk2 := SB_kept hba (by assumption))
            | (go_at_call 23; refine (eqInk_same G' _ n' n' n' jnk _ HN'.out hcapj HM'.out (by exact SB_gz' (by assumption)) (by assumption) (by exact SB_row' (by assumption)) (by assumption)).mono ?_; rintro e wd ⟨rfl, hbd⟩; have hk3 := SB_kept hbd (by assumption)))) | fail
        all_goals
          rename_i hh
          have HF := Lib.hid (SB_below hh)
          clear hh
          go_wp2
          go_ret
          exact ⟨rfl, HF.out⟩

theorem reads : ∀ t ∈ Try.f5.params.toList, Try.prog.readableRec t = true ∧ t < Try.prog.types.size := by
  rw [Try.params5]
  intro t ht
  obtain rfl : t = 35 := by simpa using ht
  exact ⟨by kernel_rfl, of_decide_eq_true (by kernel_rfl)⟩

set_option maxRecDepth 100000 in
theorem contract (H : Type) (enc : TypeId × Value → H) (W : World) (base : Nat) (args : Array Value) (ds gs : List (DataW H)) (before : List MemPlace)
    (hval : ∀ (j : Nat) t v, Try.f5.params[j]? = some t → args[j]? = some v → Value.okWide Try.prog W .any base t v)
    (hW : DataW.Whole enc Try.prog Try.f5.params.toList Rows.fnExactSameInkSpec.vars false W args.toList ds gs before) :
    Calls Try.prog 5 args W fun e W' => ∃ v, e = .returned v ∧ Rows.fnExactSameInkSpec.post enc Try.prog Try.f5 false true false false W args v W' := by
  have hW' := hW
  obtain ⟨p, q, hA0, hV, rfl, hfz, hnd⟩ := hW
  have hA : DataW.TrodAll enc Try.prog W 0 (fun _ => true) true Try.f5.params.toList args.toList ds p := hA0
  rw [Try.params5] at hA hval
  obtain ⟨v0, vs0, d0, ds0, p0, q0, hargs, rfl, rfl, h0, r0⟩ := trodAll_cons hA
  obtain ⟨v1, vs1, d1, ds1, p1, q1, rfl, rfl, rfl, h1, r1⟩ := trodAll_cons r0
  obtain ⟨rfl, rfl, rfl⟩ := trodAll_nil r1
  obtain rfl : args = #[v0, v1] := by cases args; simp_all
  obtain ⟨rfl, rfl⟩ := trodVars_none hV
  obtain ⟨A, n, cap, ink, rfl, hn, hmx, hp⟩ := open_ink (hval 0 35 v0 rfl rfl) h0
  obtain ⟨A', n', cap', jnk, rfl, hn', hmx', hp'⟩ := open_ink (hval 1 35 v1 rfl rfl) h1
  refine (walk A A' n cap n' cap' ink jnk W hn hmx hp hn' hmx' hp').mono fun e W' ⟨he, hg⟩ => ?_
  subst he
  exact ⟨_, rfl, law_post (by kernel_rfl) reads (by kernel_rfl) Try.underlying4 rfl hW' rfl rfl rfl hg⟩

set_option maxRecDepth 100000 in
theorem lifted (os : Os) (started : os.Started) (H : Type) (enc : TypeId × Value → H) :
    ReturnsInHanded {} Try.checked os 5 .any (Rows.fnExactSameInkSpec.pre6 enc Try.prog Try.f5 Rows.fnExactSameInkRow.domain false) (Rows.fnExactSameInkSpec.post enc Try.prog Try.f5 false true false false) := by
  refine returnsInHanded_of_change (C := Try.checked) own started (by kernel_rfl) Try.func5
    (ChangeSpec.witness6 (enc := enc) (C := Try.checked) false ⟨#[], #[.agg #[.slice none 0 0], .agg #[.slice none 0 0]], []⟩ 8 (by kernel_rfl) (by kernel_rfl) (by kernel_rfl) (by kernel_rfl)) ?_
  intro W base args ds gs before hval hW _ _
  exact contract H enc W base args ds gs before hval hW

theorem holds : Rows.FnExactSameInkSaid :=
  OpenClaim.holds_of_wide 5 Try.f5 rfl rfl rfl rfl rfl rfl rfl ⟨rfl, rfl, rfl, rfl, rfl⟩ rfl rfl rfl rfl rfl (by kernel_rfl) Try.func5 (by kernel_rfl)
    (of_decide_eq_true (by kernel_rfl)) (by unfold Func.isWrapper; first | (rw [if_pos (by decide +kernel)]; kernel_rfl) | (rw [if_neg (by decide +kernel)]; exact ⟨rfl, rfl⟩))
    (fun os started H enc _ => lifted os started H enc)
end Go.Proofs.Ytklfmlbokedbdaa.fnExactSameInk
