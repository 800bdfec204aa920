/-
  Proved: both functions that tell the speeds along a stroke return the same list, in memory of its own.
  Conditions: none.
-/
import Derived.Test.YtmphnhffelfbgaaArcs
import Derived.Test.YtmphnhffelfbgaaNear
import Derived.Test.YtmphnhffelfbgaaMLongestPause
import Derived.Test.YtmphnhffelfbgaaWid
import Derived.Deep.RegionHeldLaw
namespace Go.Proofs.Ytmphnhffelfbgaa.wSpeedsOf
open Go.ChangeShapes Go.WideShapes Go.ChangeAt Go.RowKit Go.Joins
open Go.Proofs.Ytmphnhffelfbgaa.core Go.Proofs.Ytmphnhffelfbgaa.geoM Go.Proofs.Ytmphnhffelfbgaa.stk Go.Proofs.Ytmphnhffelfbgaa.seg Go.Proofs.Ytmphnhffelfbgaa.side Go.Proofs.Ytmphnhffelfbgaa.all Go.Proofs.Ytmphnhffelfbgaa.lenS Go.Proofs.Ytmphnhffelfbgaa.segs Go.Proofs.Ytmphnhffelfbgaa.lenI Go.Proofs.Ytmphnhffelfbgaa.rown Go.Proofs.Ytmphnhffelfbgaa.near
set_option linter.unusedVariables false
set_option linter.unusedSimpArgs false

/-- The speed along a segment. -/
def sp (pts : Nat → P3) (i : Nat) : Int := (1000 * ((len (pts i) (pts (i + 1)) : Nat) : Int)).tdiv (wLongestPause.dt pts i)
def spr (pts : Nat → P3) (i : Nat) : List Value := [.int .i64 (sp pts i)]
def fi (pts : Nat → P3) (i j : Nat) : Int := sp pts i
theorem row_len (pts : Nat → P3) : ∀ i, (spr pts i).length = 1 := fun i => rfl
theorem row_get (pts : Nat → P3) : ∀ i j, j < 1 → (spr pts i)[j]? = some (.int .i64 (fi pts i j)) := fun i j hj => by
  obtain rfl : j = 0 := by omega
  rfl
theorem quo_le {x u : Int} (hu : 0 < u) (h0 : 0 ≤ x) (h1 : x ≤ 92700000) : 0 ≤ x.tdiv u ∧ x.tdiv u ≤ 92700000 := by
  rw [Int.tdiv_eq_ediv_of_nonneg h0]
  exact ⟨Int.ediv_nonneg h0 (by omega), (down_le hu (show -92700000 ≤ x by omega) h1).2⟩
theorem in_yes {n : Nat} (pts : Nat → P3) (hv : vS n pts = true) : ∀ i j, i < n - 1 → j < 1 → inI64 (fi pts i j) := fun i j hi hj => by
  have hl := len_le (vS_rg hv i (by omega)) (vS_rg hv (i + 1) (by omega))
  have hd := wLongestPause.dt_pos hv (i := i) (by omega)
  have := quo_le hd (x := 1000 * ((len (pts i) (pts (i + 1)) : Nat) : Int)) (by omega) (by omega)
  unfold fi inI64 sp
  omega
theorem in_no {n : Nat} (pts : Nat → P3) (hv : vS n pts = false) : ∀ i j, i < 0 → j < 1 → inI64 (fi pts i j) := fun i j hi _ => absurd hi (by omega)
theorem le_yes {n : Nat} (pts : Nat → P3) (hv : vS n pts = true) : (n - 1) * 1 ≤ 1000 := by have := (vS_of hv).2.1; omega
theorem le_no {n : Nat} (pts : Nat → P3) (hv : vS n pts = false) : 0 * 1 ≤ 1000 := by omega
theorem ty_of (n : Nat) (f : Nat → Nat → Int) : tyrInt64S (datRows n 1 f) := ⟨n, _, rfl, fun i _ => ⟨_, rfl⟩⟩
set_option maxRecDepth 100000 in
set_option maxHeartbeats 4000000 in
theorem spec_no {c : Nat} (A : Option Addr) (n : Nat) (pts : Nat → P3) (w : World) (hcap : n ≤ 1048576) (hp : PtsAt w A n pts) (hv : vS n pts = false) :
    Calls Try.prog 29 #[.agg #[.slice A n c]] w fun e w' => ∃ v, e = .returned (.tuple #[v, .int .i64 1]) ∧ w'.ownsRow w.heap.size 2 1 v (0) (rws (spr pts) (0)) ∧ Below w.heap.size w w' := by
  have B0 := Lib.hid (below_alloc1 w (.cells #[.slice A n c] 31))
  have HS := Lib.hid (l02Stroke_calls (c := c) (o := 0) A w.heap.size n pts (w.alloc (.cells #[.slice A n c] 31)) hcap (by simp) (by simp) (hp.kept B0.out))
  rw [hv] at HS
  clear hp hv
  go_enter Try.func29, Try.ntmps29
  go_wp2_with fail
  refine HS.out.mono ?_
  rintro e w1 ⟨rfl, hb1⟩
  have B1 := Lib.hid (B0.out.trans (hb1.mono B0.out.size))
  clear hb1 HS
  go_wp2
  go_ret2
  exact ⟨.slice none 0 0, rfl, World.ownsRow_nil _ _ _ _, B1.out⟩
set_option maxRecDepth 100000 in
set_option maxHeartbeats 4000000 in
theorem impl_no {c : Nat} (A : Option Addr) (n : Nat) (pts : Nat → P3) (w : World) (hcap : n ≤ 1048576) (hp : PtsAt w A n pts) (hv : vS n pts = false) :
    Calls Try.prog 30 #[.agg #[.slice A n c]] w fun e w' => ∃ v, e = .returned (.tuple #[v, .int .i64 1]) ∧ w'.ownsRow w.heap.size 2 1 v (0) (rws (spr pts) (0)) ∧ Below w.heap.size w w' := by
  have B0 := Lib.hid (below_alloc1 w (.cells #[.slice A n c] 31))
  have HS := Lib.hid (implValid_calls (c := c) A n pts (w.alloc (.cells #[.slice A n c] 31)) hcap (hp.kept B0.out))
  rw [hv] at HS
  clear hp hv
  go_enter Try.func30, Try.ntmps30
  go_wp2_with fail
  refine HS.out.mono ?_
  rintro e w1 ⟨rfl, hb1⟩
  have B1 := Lib.hid (B0.out.trans (hb1.mono B0.out.size))
  clear hb1 HS
  go_wp2
  go_ret2
  exact ⟨.slice none 0 0, rfl, World.ownsRow_nil _ _ _ _, B1.out⟩
set_option maxRecDepth 100000 in
set_option maxHeartbeats 4000000 in
theorem spec_yes {c : Nat} (A : Option Addr) (n : Nat) (pts : Nat → P3) (w : World) (hcap : n ≤ 1048576) (hp : PtsAt w A n pts) (hv : vS n pts = true) :
    Calls Try.prog 29 #[.agg #[.slice A n c]] w fun e w' => ∃ v, e = .returned (.tuple #[v, .int .i64 0]) ∧ w'.ownsRow w.heap.size 2 1 v (n - 1) (rws (spr pts) (n - 1)) ∧ Below w.heap.size w w' := by
  obtain ⟨h1, h60, -⟩ := vS_of hv
  obtain ⟨i0, hi0, hz0, hz1, hz2⟩ := rown.info_get arcs.infoInt
  have HTR := Lib.hid (wLongestPause.t_rg hv)
  have HDP := Lib.hid (fun i (hi : i + 1 < n) => wLongestPause.dt_pos hv hi)
  have HR := Lib.hid (vS_rg hv)
  have HV := Lib.hid hv
  have B0 := Lib.hid (below_alloc1 w (.cells #[.slice A n c] 31))
  have HS := Lib.hid (l02Stroke_calls (c := c) (o := 0) A w.heap.size n pts (w.alloc (.cells #[.slice A n c] 31)) hcap (by simp) (by simp) (hp.kept B0.out))
  rw [hv] at HS
  have HP := Lib.hid (hp.kept B0.out)
  clear hp hv
  go_enter Try.func29, Try.ntmps29
  go_wp2_with fail
  refine HS.out.mono ?_
  rintro e w1 ⟨rfl, hb1⟩
  have C0 := Lib.hid ((hb1.cell (p := ⟨w.heap.size, 0, none⟩) (by simp)).trans (show _ = some (.slice A n c) by simp))
  have Z1 := Lib.hid (show w.heap.size < w1.heap.size by have := hb1.size; simp at this; omega)
  have B1 := Lib.hid (B0.out.trans (hb1.mono B0.out.size))
  have HP1 := Lib.hid (HP.out.kept hb1)
  clear hb1 HS HP B0
  go_wp2
  go_loopw [4, 5] (fun s i w' => ∃ (k d : Nat) (B : Option Addr), k + 1 ≤ n ∧ i = .int .i64 ((k + 1 : Nat) : Int) ∧ s = .slice B k d ∧ Hid (w'.ownsRow w1.heap.size 2 1 (.slice B k d) k (rws (spr pts) k)) ∧ Hid (Below w1.heap.size w1 w')) (fun _ i _ => n - (intOf i).toNat)
  case atStart => exact ⟨0, 0, _, h1, rfl, rfl, Lib.hid (empty_row w1 _ _), Lib.hid (below_alloc1 _ _)⟩
  case round =>
    obtain ⟨k, d, B, hk, rfl, rfl, HO, HB⟩ := hrel
    have hs := (HB.out.cell (p := ⟨w.heap.size, 0, none⟩) Z1.out).trans C0.out
    by_cases hlt : k + 1 < n
    · obtain ⟨g, o', rfl, hg, p0, p1, p2⟩ := HP1.out k (by omega)
      obtain ⟨g2, o2, e2, -, q0, q1, q2⟩ := HP1.out (k + 1) hlt
      injection e2 with e2
      injection e2 with e2 e3
      subst e2 e3
      have HL := Lib.hid (fun W => specLen (pts k) (pts (k + 1)) (HR.out k (by omega)) (HR.out (k + 1) hlt) W)
      have HE := Lib.hid (show rws (spr pts) (k + 1) = rws (spr pts) k ++ [.int .i64 (sp pts k)] from rfl)
      have hll := len_le (HR.out k (by omega)) (HR.out (k + 1) hlt)
      have t1 := HTR.out k (by omega)
      have t2 := HTR.out (k + 1) hlt
      have hu0 := HDP.out k hlt
      have hsp : (1000 * ((len (pts k) (pts (k + 1)) : Nat) : Int)).tdiv ((pts (k + 1)).2.2 - (pts k).2.2) = sp pts k := rfl
      have hu0 : 0 < (pts (k + 1)).2.2 - (pts k).2.2 := hu0
      generalize sp pts k = v at *
      generalize len (pts k) (pts (k + 1)) = L at *
      obtain ⟨p, hpk⟩ : ∃ p, pts k = p := ⟨_, rfl⟩
      obtain ⟨q, hqk⟩ : ∃ q, pts (k + 1) = q := ⟨_, rfl⟩
      rw [hpk] at p0 p1 p2 HL t1
      rw [hqk] at q0 q1 q2 HL t2
      rw [hpk, hqk] at hsp hu0
      clear hpk hqk
      obtain ⟨u, hu⟩ : ∃ u, q.2.2 - p.2.2 = u := ⟨_, rfl⟩
      rw [hu] at hsp hu0
      obtain ⟨z, hz⟩ : ∃ z : Int, 1000 * (L : Int) = z := ⟨_, rfl⟩
      rw [hz] at hsp
      have E1 : IntKind.i64.wrap (q.2.2 - p.2.2) = u := by rw [hu]; exact IntWalk.i64_in _ (by omega)
      have F1 : wrap64 (q.2.2 - p.2.2) = u := by rw [← IntWalk.i64_left]; exact E1
      have G1 : IntKind.i64.wrap (1000 * (L : Int)) = z := by rw [hz]; exact IntWalk.i64_in _ (by omega)
      have G2 : wrap64 (1000 * (L : Int)) = z := by rw [← IntWalk.i64_left]; exact G1
      have hqb := quo_le hu0 (x := z) (by omega) (by omega)
      rw [hsp] at hqb
      have J1 : IntKind.i64.wrap v = v := IntWalk.i64_in _ (by omega)
      have hu1 : ¬ u = 0 := by omega
      have hu2 : (u == 0) = false := by simp; omega
      have hw1 : IntKind.i64.wrap (k : Int) = (k : Int) := IntWalk.i64_in _ (by omega)
      have hli : ((k + 1 : Nat) : Int) < (n : Int) := by omega
      have hkn : k < n := by omega
      have hk1n : k + 1 < n := hlt
      have hk0 : (0 : Int) ≤ (k : Int) + 1 := by omega
      have HSS := Lib.hid (show ∀ W, Below w1.heap.size w1 W → (fun W => W.cell? ⟨w.heap.size, 0, none⟩ = some (.slice (some ⟨g, o', none⟩) n c) ∧ W.cell? ⟨g, o' + k * 3, none⟩ = some (.int .i64 p.1) ∧ W.cell? ⟨g, o' + k * 3 + 1, none⟩ = some (.int .i64 p.2.1) ∧ W.cell? ⟨g, o' + k * 3 + 2, none⟩ = some (.int .i64 p.2.2) ∧ W.cell? ⟨g, o' + (k + 1) * 3, none⟩ = some (.int .i64 q.1) ∧ W.cell? ⟨g, o' + (k + 1) * 3 + 1, none⟩ = some (.int .i64 q.2.1) ∧ W.cell? ⟨g, o' + (k + 1) * 3 + 2, none⟩ = some (.int .i64 q.2.2)) W from fun W hW => ⟨(hW.cell (p := ⟨w.heap.size, 0, none⟩) Z1.out).trans C0.out, (hW.cell (p := ⟨g, _, none⟩) hg).trans p0, (hW.cell (p := ⟨g, _, none⟩) hg).trans p1, (hW.cell (p := ⟨g, _, none⟩) hg).trans p2, (hW.cell (p := ⟨g, _, none⟩) hg).trans q0, (hW.cell (p := ⟨g, _, none⟩) hg).trans q1, (hW.cell (p := ⟨g, _, none⟩) hg).trans q2⟩)
      clear hu hz t1 t2 hll hu0 hg p0 p1 p2 q0 q1 q2
      go_wp2
      clear hs
      have hkd := HSS.out wr.drew HB.out.drew
      have hkw := HSS.out wr HB.out
      try dsimp only at hkd
      try dsimp only at hkw
      go_region_held_law (fun W => W.cell? ⟨w.heap.size, 0, none⟩ = some (.slice (some ⟨g, o', none⟩) n c) ∧ W.cell? ⟨g, o' + k * 3, none⟩ = some (.int .i64 p.1) ∧ W.cell? ⟨g, o' + k * 3 + 1, none⟩ = some (.int .i64 p.2.1) ∧ W.cell? ⟨g, o' + k * 3 + 2, none⟩ = some (.int .i64 p.2.2) ∧ W.cell? ⟨g, o' + (k + 1) * 3, none⟩ = some (.int .i64 q.1) ∧ W.cell? ⟨g, o' + (k + 1) * 3 + 1, none⟩ = some (.int .i64 q.2.1) ∧ W.cell? ⟨g, o' + (k + 1) * 3 + 2, none⟩ = some (.int .i64 q.2.2)) (first | assumption | exact hkd | exact hkw | go_keep) (first
        | (refine step_append_lies _ rfl (.tmp 16) (.tmp 45) _ rfl w1.heap.size 2 i0 (.int .i64 0) 1 8 Try.underlying38 hi0 hz0 hz1 hz2 rfl (by omega) (.slice B k d) k _ (by simp [Act.eval]) (rown.ownsRow_kept HO2.out (below_alloc1 _ _)) ⟨w2.heap.size, 0, none⟩ 1 1 [.int .i64 v] (by simp [Act.eval]) (by simp) (arcs.one_new rfl) (by simp [Value.oneCell']) (by omega) (by simp only [maxLen]; omega) (by omega) (Nat.le_trans HB2.out.size (by simp)) _ rfl ?_; intro g3 cap3 w3 hown hgr hat hlt3; have HO3 := Lib.hid hown; have HB3 := Lib.hid (HB2.out.trans (rown.under HO2.out HB2.out.size hgr)); have hk3 := HSS.out _ HB3.out; (try dsimp only at hk3); clear hown hgr hat)
        | (go_at_call 59; (with_reducible refine (HL.out _).mono ?_); rintro e w2 ⟨rfl, hb2⟩; have hb2' := (Below.refl wr.heap.size wr).drew.trans hb2; have HB2 := Lib.hid (HB.out.trans (hb2'.mono HB.out.size)); have HO2 := Lib.hid (rown.ownsRow_kept HO.out hb2'); have hk2 := HSS.out _ HB2.out; (try dsimp only at hk2); clear hb2 hb2')
        | (go_simp; go_at_call 59; (with_reducible refine (HL.out _).mono ?_); rintro e w2 ⟨rfl, hb2⟩; have hb2' := (Below.refl wr.heap.size wr).drew.trans hb2; have HB2 := Lib.hid (HB.out.trans (hb2'.mono HB.out.size)); have HO2 := Lib.hid (rown.ownsRow_kept HO.out hb2'); have hk2 := HSS.out _ HB2.out; (try dsimp only at hk2); clear hb2 hb2'))
      all_goals
        clear hkd hkw hw1 E1 F1 G1 G2 J1 hsp hu1 hu2
        go_wp2
        go_roundw
        case rel => exact ⟨k + 1, cap3, some ⟨g3, 0, none⟩, by omega, by go_num, rfl, Lib.hid (by rw [HE.out]; exact HO3.out), HB3⟩
        case measure => simp [intOf]; omega
    · obtain rfl : n = k + 1 := by omega
      go_wp2
      go_ret2
      exact ⟨_, rfl, row_low HO.out (Nat.le_of_lt Z1.out), B1.out.trans (HB.out.mono (Nat.le_of_lt Z1.out))⟩
set_option maxRecDepth 100000 in
set_option maxHeartbeats 4000000 in
theorem impl_yes {c : Nat} (A : Option Addr) (n : Nat) (pts : Nat → P3) (w : World) (hcap : n ≤ 1048576) (hp : PtsAt w A n pts) (hv : vS n pts = true) :
    Calls Try.prog 30 #[.agg #[.slice A n c]] w fun e w' => ∃ v, e = .returned (.tuple #[v, .int .i64 0]) ∧ w'.ownsRow w.heap.size 2 1 v (n - 1) (rws (spr pts) (n - 1)) ∧ Below w.heap.size w w' := by
  obtain ⟨h1, h60, -⟩ := vS_of hv
  obtain ⟨i0, hi0, hz0, hz1, hz2⟩ := rown.info_get arcs.infoInt
  have HTR := Lib.hid (wLongestPause.t_rg hv)
  have HDP := Lib.hid (fun i (hi : i + 1 < n) => wLongestPause.dt_pos hv hi)
  have HR := Lib.hid (vS_rg hv)
  have HV := Lib.hid hv
  have B0 := Lib.hid (below_alloc1 w (.cells #[.slice A n c] 31))
  have HS := Lib.hid (implValid_calls (c := c) A n pts (w.alloc (.cells #[.slice A n c] 31)) hcap (hp.kept B0.out))
  rw [hv] at HS
  have HP := Lib.hid (hp.kept B0.out)
  clear hp hv
  go_enter Try.func30, Try.ntmps30
  go_wp2_with fail
  refine HS.out.mono ?_
  rintro e w1 ⟨rfl, hb1⟩
  have C0 := Lib.hid ((hb1.cell (p := ⟨w.heap.size, 0, none⟩) (by simp)).trans (show _ = some (.slice A n c) by simp))
  have Z1 := Lib.hid (show w.heap.size < w1.heap.size by have := hb1.size; simp at this; omega)
  have B1 := Lib.hid (B0.out.trans (hb1.mono B0.out.size))
  have HP1 := Lib.hid (HP.out.kept hb1)
  clear hb1 HS HP B0
  have HG0 := Lib.hid (segs_calls (c := c) A n pts w1 h1 h60 HP1.out)
  obtain ⟨m, hm⟩ : ∃ m, n - 1 = m := ⟨_, rfl⟩
  have HMN := Lib.hid (show n = m + 1 by omega)
  have HM2 := Lib.hid hm
  have hm59 : m ≤ 59 := by omega
  rw [hm] at HG0
  clear hm
  have c0 := C0.out
  go_wp2_with fail
  refine HG0.out.mono ?_
  rintro e w2 ⟨B, dS, rfl, hsg, hb⟩
  have B2 := Lib.hid (B1.out.trans (hb.mono B1.out.size))
  have HG := Lib.hid hsg
  clear hsg hb HG0 c0
  go_wp2
  go_loopw [4, 13] (fun s i w' => ∃ (k d : Nat) (C : Option Addr), k ≤ m ∧ i = .int .i64 (k : Int) ∧ s = .slice C k d ∧ Hid (w'.ownsRow w2.heap.size 2 1 (.slice C k d) k (rws (spr pts) k)) ∧ Hid (Below w2.heap.size w2 w')) (fun _ i _ => m - (intOf i).toNat)
  case atStart => exact ⟨0, 0, none, Nat.zero_le _, rfl, rfl, Lib.hid (World.ownsRow_nil _ _ _ _), Lib.hid (Below.refl _ _)⟩
  case round =>
    obtain ⟨k, d, C, hk, rfl, rfl, HO, HB⟩ := hrel
    by_cases hlt : k < m
    · obtain ⟨g, rfl, hg, c0, c1, c2, c3, c4, c5⟩ := (HG.out.kept HB.out) k hlt
      have hli : (k : Int) < (m : Int) := by omega
      have hkm : k + 1 < n := by have := HMN.out; omega
      have HL := Lib.hid (fun W => side.length_calls (pts k) (pts (k + 1)) (HR.out k (by omega)) (HR.out (k + 1) hkm) W)
      have HT := Lib.hid (fun W => wLongestPause.time_calls (pts k) (pts (k + 1)) (HTR.out k (by omega)) (HTR.out (k + 1) hkm) W)
      have HE := Lib.hid (show rws (spr pts) (k + 1) = rws (spr pts) k ++ [.int .i64 (sp pts k)] from rfl)
      have hll := len_le (HR.out k (by omega)) (HR.out (k + 1) hkm)
      have hu0 : 0 < (pts (k + 1)).2.2 - (pts k).2.2 := HDP.out k hkm
      have hsp : (1000 * ((len (pts k) (pts (k + 1)) : Nat) : Int)).tdiv ((pts (k + 1)).2.2 - (pts k).2.2) = sp pts k := rfl
      generalize sp pts k = v at *
      generalize len (pts k) (pts (k + 1)) = L at *
      obtain ⟨p, hpk⟩ : ∃ p, pts k = p := ⟨_, rfl⟩
      obtain ⟨q, hqk⟩ : ∃ q, pts (k + 1) = q := ⟨_, rfl⟩
      rw [hpk] at c0 c1 c2 HL HT
      rw [hqk] at c3 c4 c5 HL HT
      rw [hpk, hqk] at hsp hu0
      clear hpk hqk
      obtain ⟨u, hu⟩ : ∃ u, q.2.2 - p.2.2 = u := ⟨_, rfl⟩
      rw [hu] at hsp hu0 HT
      obtain ⟨z, hz⟩ : ∃ z : Int, 1000 * (L : Int) = z := ⟨_, rfl⟩
      rw [hz] at hsp
      have G1 : IntKind.i64.wrap (1000 * (L : Int)) = z := by rw [hz]; exact IntWalk.i64_in _ (by omega)
      have G2 : wrap64 (1000 * (L : Int)) = z := by rw [← IntWalk.i64_left]; exact G1
      have hqb := quo_le hu0 (x := z) (by omega) (by omega)
      rw [hsp] at hqb
      have J1 : IntKind.i64.wrap v = v := IntWalk.i64_in _ (by omega)
      have hu1 : ¬ u = 0 := by omega
      have hu2 : (u == 0) = false := by simp; omega
      have BX := Lib.hid (below_alloc1 wr (.cells #[.int .i64 p.1, .int .i64 p.2.1, .int .i64 p.2.2, .int .i64 q.1, .int .i64 q.2.1, .int .i64 q.2.2] 76))
      have BK := Lib.hid (heap_alloc_new wr (.cells #[.int .i64 p.1, .int .i64 p.2.1, .int .i64 p.2.2, .int .i64 q.1, .int .i64 q.2.1, .int .i64 q.2.2] 76))
      clear hu hz hll hu0
      go_wp2
      clear c0 c1 c2 c3 c4 c5
      obtain ⟨wo, hwo⟩ : ∃ wo : World, wo = wr.alloc (.cells #[.int .i64 p.1, .int .i64 p.2.1, .int .i64 p.2.2, .int .i64 q.1, .int .i64 q.2.1, .int .i64 q.2.2] 76) := ⟨_, rfl⟩
      rw [← hwo] at BX BK ⊢
      obtain ⟨gr, hgr⟩ : ∃ gr, wr.heap.size = gr := ⟨_, rfl⟩
      rw [hgr] at BK ⊢
      have HBO := Lib.hid (HB.out.trans (BX.out.mono HB.out.size))
      have HOO := Lib.hid (rown.ownsRow_kept HO.out BX.out)
      have hgo : gr < wo.heap.size := (Array.getElem?_eq_some_iff.1 BK.out).1
      have x0 : wo.cell? ⟨gr, 0, none⟩ = some (.int .i64 p.1) := by rw [cell_of_block BK.out]; rfl
      have x1 : wo.cell? ⟨gr, 1, none⟩ = some (.int .i64 p.2.1) := by rw [cell_of_block BK.out]; rfl
      have x2 : wo.cell? ⟨gr, 2, none⟩ = some (.int .i64 p.2.2) := by rw [cell_of_block BK.out]; rfl
      have x3 : wo.cell? ⟨gr, 3, none⟩ = some (.int .i64 q.1) := by rw [cell_of_block BK.out]; rfl
      have x4 : wo.cell? ⟨gr, 4, none⟩ = some (.int .i64 q.2.1) := by rw [cell_of_block BK.out]; rfl
      have x5 : wo.cell? ⟨gr, 5, none⟩ = some (.int .i64 q.2.2) := by rw [cell_of_block BK.out]; rfl
      clear BX hwo hgr
      have LA : ∀ (W : World), Below wo.heap.size wo W → Calls Try.prog 60 #[.agg #[.int .i64 p.1, .int .i64 p.2.1, .int .i64 p.2.2, .int .i64 q.1, .int .i64 q.2.1, .int .i64 q.2.2]] W fun e w' => e = .returned (.int .i64 (L : Int)) ∧ Below wo.heap.size wo w' := fun W hW => (HL.out W).mono fun e w' h => ⟨h.1, hW.trans (h.2.mono hW.size)⟩
      have TA : ∀ (W : World), Below wo.heap.size wo W → Calls Try.prog 58 #[.agg #[.int .i64 p.1, .int .i64 p.2.1, .int .i64 p.2.2, .int .i64 q.1, .int .i64 q.2.1, .int .i64 q.2.2]] W fun e w' => e = .returned (.int .i64 u) ∧ Below wo.heap.size wo w' := fun W hW => (HT.out W).mono fun e w' h => ⟨h.1, hW.trans (h.2.mono hW.size)⟩
      have HLA := Lib.hid LA
      have HTA := Lib.hid TA
      have HX := Lib.hid (show ∀ (W : World), Below wo.heap.size wo W → W.cell? ⟨gr, 0, none⟩ = some (.int .i64 p.1) ∧ W.cell? ⟨gr, 1, none⟩ = some (.int .i64 p.2.1) ∧ W.cell? ⟨gr, 2, none⟩ = some (.int .i64 p.2.2) ∧ W.cell? ⟨gr, 3, none⟩ = some (.int .i64 q.1) ∧ W.cell? ⟨gr, 4, none⟩ = some (.int .i64 q.2.1) ∧ W.cell? ⟨gr, 5, none⟩ = some (.int .i64 q.2.2) from fun W hW => ⟨(hW.cell (p := ⟨gr, 0, none⟩) hgo).trans x0, (hW.cell (p := ⟨gr, 1, none⟩) hgo).trans x1, (hW.cell (p := ⟨gr, 2, none⟩) hgo).trans x2, (hW.cell (p := ⟨gr, 3, none⟩) hgo).trans x3, (hW.cell (p := ⟨gr, 4, none⟩) hgo).trans x4, (hW.cell (p := ⟨gr, 5, none⟩) hgo).trans x5⟩)
      clear LA TA HL HT
      have hb0 : Below wo.heap.size wo wo.drew := (Below.refl _ _).drew
      go_region_law (first
        | (refine step_append_lies _ rfl (.tmp 17) (.tmp 24) _ rfl w2.heap.size 2 i0 (.int .i64 0) 1 8 Try.underlying38 hi0 hz0 hz1 hz2 rfl (by omega) (.slice C k d) k _ (by simp [Act.eval]) (rown.ownsRow_kept (rown.ownsRow_kept HOO.out (by assumption)) (below_alloc1 _ _)) ⟨_, 0, none⟩ 1 1 [.int .i64 v] (by simp [Act.eval]) (by simp) (arcs.one_new rfl) (by simp [Value.oneCell']) (by omega) (by simp only [maxLen]; omega) (by omega) (Nat.le_trans (HBO.out.trans ((show Below wo.heap.size wo _ by assumption).mono HBO.out.size)).size (by simp)) _ rfl ?_; intro g3 cap3 w3 hown hgr hat hlt3; have HO3 := Lib.hid hown; have HB3 := Lib.hid ((HBO.out.trans ((show Below wo.heap.size wo _ by assumption).mono HBO.out.size)).trans (rown.under (rown.ownsRow_kept HOO.out (by assumption)) (HBO.out.trans ((show Below wo.heap.size wo _ by assumption).mono HBO.out.size)).size hgr)); clear hown hgr hat)
        | (go_simp; go_at_call 60; (with_reducible refine (HLA.out _ (by assumption)).mono ?_); rintro e wl ⟨rfl, hbl⟩; obtain ⟨y0, y1, y2, y3, y4, y5⟩ := HX.out _ hbl)
        | (go_simp; go_at_call 58; (with_reducible refine (HTA.out _ (by assumption)).mono ?_); rintro e wl ⟨rfl, hbl⟩; obtain ⟨y0, y1, y2, y3, y4, y5⟩ := HX.out _ hbl))
      all_goals
        clear hb0 x0 x1 x2 x3 x4 x5 G1 G2 J1 hsp hu1 hu2
        go_wp2
        go_roundw
        case rel => exact ⟨k + 1, cap3, some ⟨g3, 0, none⟩, by omega, by go_num, rfl, Lib.hid (by rw [HE.out]; exact HO3.out), HB3⟩
        case measure => simp [intOf]; omega
    · obtain rfl : m = k := by omega
      go_wp2
      go_ret2
      exact ⟨_, rfl, by rw [HM2.out]; exact row_low HO.out B2.out.size, B2.out.trans (HB.out.mono B2.out.size)⟩
theorem meat (vs0 : Nat → Value) (g0 : Nat → Dat) (ht0 : tyrStroke g0) :
    costRec 1 g0 ≤ 1048576 → ∃ (R : Nat → Dat) (r1 : Int), tyrInt64S R ∧ cntRec 1 R ≤ 100000000000 ∧ (∀ (W : World) (us0 : Nat → Value), ReadsRec W 1 us0 g0 → Calls Try.prog 29 #[.agg #[us0 0]] W fun e W' => ∃ xs : Nat → Value, e = .returned (.tuple #[xs 0, .int .i64 r1]) ∧ OwnRec W' 1 xs R (iv W.heap.size W'.heap.size) ∧ Below W.heap.size W W') ∧ (∀ (W : World) (us0 : Nat → Value), ReadsRec W 1 us0 g0 → Calls Try.prog 30 #[.agg #[us0 0]] W fun e W' => ∃ xs : Nat → Value, e = .returned (.tuple #[xs 0, .int .i64 r1]) ∧ OwnRec W' 1 xs R (iv W.heap.size W'.heap.size) ∧ Below W.heap.size W W') := by
  intro hq
  cases hv : vS (strN g0) (strP g0) with
  | true =>
    have hin := in_yes (strP g0) hv
    refine ⟨datRows ((strN g0) - 1) 1 (fi (strP g0)), 0, ty_of _ _, Nat.le_trans (datRows_cnt _ _ _) (by have := le_yes (strP g0) hv; omega), fun W us0 h0 => by
        obtain ⟨A, c, e, hn, hp⟩ := reads_str h0 ht0 hq
        rw [e]; exact fin (T := fun v => .tuple #[v, .int .i64 0]) (row_len (strP g0)) (row_get (strP g0)) (hin) (spec_yes A _ _ W hn hp hv), fun W us0 h0 => by
        obtain ⟨A, c, e, hn, hp⟩ := reads_str h0 ht0 hq
        rw [e]; exact fin (T := fun v => .tuple #[v, .int .i64 0]) (row_len (strP g0)) (row_get (strP g0)) (hin) (impl_yes A _ _ W hn hp hv)⟩
  | false =>
    have hin := in_no (strP g0) hv
    refine ⟨datRows (0) 1 (fi (strP g0)), 1, ty_of _ _, Nat.le_trans (datRows_cnt _ _ _) (by have := le_no (strP g0) hv; omega), fun W us0 h0 => by
        obtain ⟨A, c, e, hn, hp⟩ := reads_str h0 ht0 hq
        rw [e]; exact fin (T := fun v => .tuple #[v, .int .i64 1]) (row_len (strP g0)) (row_get (strP g0)) (hin) (spec_no A _ _ W hn hp hv), fun W us0 h0 => by
        obtain ⟨A, c, e, hn, hp⟩ := reads_str h0 ht0 hq
        rw [e]; exact fin (T := fun v => .tuple #[v, .int .i64 1]) (row_len (strP g0)) (row_get (strP g0)) (hin) (impl_no A _ _ W hn hp hv)⟩
end Go.Proofs.Ytmphnhffelfbgaa.wSpeedsOf
