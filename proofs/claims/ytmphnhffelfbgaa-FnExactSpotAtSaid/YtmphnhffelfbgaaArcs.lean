/-
  Proved: the lists of lengths that both programs make of a stroke's points.
  Conditions: the points are in their range, and no more than 60.
-/
import Derived.Test.YtmphnhffelfbgaaLenI
import Derived.Test.YtmphnhffelfbgaaRowN
namespace Go.Proofs.Ytmphnhffelfbgaa.arcs
open Go.ChangeShapes Go.WideShapes Go.ChangeAt Go.RowKit Go.Joins
open Go.Proofs.Ytmphnhffelfbgaa.core Go.Proofs.Ytmphnhffelfbgaa.geoM Go.Proofs.Ytmphnhffelfbgaa.stk Go.Proofs.Ytmphnhffelfbgaa.seg Go.Proofs.Ytmphnhffelfbgaa.side Go.Proofs.Ytmphnhffelfbgaa.all Go.Proofs.Ytmphnhffelfbgaa.lenS Go.Proofs.Ytmphnhffelfbgaa.segs Go.Proofs.Ytmphnhffelfbgaa.lenI Go.Proofs.Ytmphnhffelfbgaa.rown
set_option linter.unusedVariables false
set_option linter.unusedSimpArgs false
theorem infoInt : (Try.prog.info? 2).map (fun i => (i.zero, i.size, i.bytes)) = some (some (.int .i64 0), 1, 8) := by kernel_rfl
def arc (pts : Nat → P3) (i : Nat) : List Value := [.int .i64 (lens pts i : Nat)]
def fi (pts : Nat → P3) (i j : Nat) : Int := (lens pts i : Nat)
theorem row_len (pts : Nat → P3) : ∀ i, (arc pts i).length = 1 := fun i => rfl
theorem row_get (pts : Nat → P3) : ∀ i j, j < 1 → (arc pts i)[j]? = some (.int .i64 (fi pts i j)) := fun i j hj => by
  obtain rfl : j = 0 := by omega
  rfl
theorem one_new {w : World} {a : Value} {E H : Nat} (h : w.heap.size = H) : ∀ j u, [a][j]? = some u → (w.alloc (.cells #[a] E)).cell? ((⟨H, 0, none⟩ : Addr).add j) = some u := by
  subst h
  exact new_cells (l := [a])
theorem one_row (w : World) (E : Nat) (v : Value) (h1 : v.oneCell' = true) : (w.alloc (.cells #[v] E)).ownsRow w.heap.size E 1 (.slice (some ⟨w.heap.size, 0, none⟩) 1 1) 1 [v] :=
  ⟨by simp, .inr ⟨w.heap.size, 1, #[v], rfl, Nat.le_refl _, heap_alloc_new _ _, Nat.le_refl _, by simp [maxLen], by simp, by simp⟩⟩
theorem row_cell1 {w : World} {base n E g c : Nat} {pts : Nat → P3} (h : w.ownsRow base E 1 (.slice (some ⟨g, 0, none⟩) n c) n (rws (arc pts) n)) {i : Nat} (hi : i < n) : w.cell? ⟨g, i, none⟩ = some (.int .i64 (lens pts i : Nat)) := by
  have := row_cell h (row_len pts) hi (show 0 < 1 by omega) rfl
  simpa using this
set_option maxRecDepth 100000 in
set_option maxHeartbeats 4000000 in
theorem specArcs {c o : Nat} (A : Option Addr) (b n : Nat) (pts : Nat → P3) (w : World) (h1 : 1 ≤ n) (h60 : n ≤ 60) (hr : ∀ i, i < n → Rg (pts i)) (hbz : b < w.heap.size) (hs : w.cell? ⟨b, o, none⟩ = some (.slice A n c)) (hp : PtsAt w A n pts) :
    Calls Try.prog 55 #[.pointer (some ⟨b, o, none⟩)] w fun e w' => ∃ v, e = .returned v ∧ w'.ownsRow w.heap.size 2 1 v n (rws (arc pts) n) ∧ Below w.heap.size w w' := by
  obtain ⟨i0, hi0, hz0, hz1, hz2⟩ := rown.info_get infoInt
  have HP := Lib.hid hp
  have HS := Lib.hid hs
  have HR := Lib.hid hr
  have HLE := Lib.hid (lens_le hr)
  clear hp hs hr
  go_enter Try.func55, Try.ntmps55
  go_wp2
  go_loopw [3, 4] (fun s i w' => ∃ (k d g : Nat), k + 1 ≤ n ∧ i = .int .i64 ((k + 1 : Nat) : Int) ∧ s = .slice (some ⟨g, 0, none⟩) (k + 1) d ∧ Hid (w'.ownsRow w.heap.size 2 1 (.slice (some ⟨g, 0, none⟩) (k + 1) d) (k + 1) (rws (arc pts) (k + 1))) ∧ Hid (Below w.heap.size w w')) (fun _ i _ => n - (intOf i).toNat)
  case atStart => exact ⟨0, _, _, h1, rfl, rfl, Lib.hid (one_row w _ _ rfl), Lib.hid (below_alloc1 _ _)⟩
  case round =>
    obtain ⟨k, d, g0, hk, rfl, rfl, HO, HB⟩ := hrel
    have hs := (HB.out.cell (p := ⟨b, o, none⟩) hbz).trans HS.out
    by_cases hlt : k + 1 < n
    · obtain ⟨g, o', rfl, hg, p0, p1, p2⟩ := (HP.out.kept HB.out) k (by omega)
      obtain ⟨g2, o2, e2, -, q0, q1, q2⟩ := (HP.out.kept HB.out) (k + 1) hlt
      injection e2 with e2
      injection e2 with e2 e3
      subst e2 e3
      have HL := Lib.hid (fun W => specLen (pts k) (pts (k + 1)) (HR.out k (by omega)) (HR.out (k + 1) hlt) W)
      have HE := Lib.hid (show rws (arc pts) (k + 1 + 1) = rws (arc pts) (k + 1) ++ [.int .i64 ((lens pts k + len (pts k) (pts (k + 1)) : Nat) : Int)] from rfl)
      have hle := HLE.out k (by omega)
      have hll := len_le (HR.out k (by omega)) (HR.out (k + 1) hlt)
      have hgl := rown.row_lt HO.out
      have x0 := row_cell1 HO.out (show k < k + 1 by omega)
      have hbz' : b < wr.heap.size := Nat.lt_of_lt_of_le hbz HB.out.size
      generalize lens pts k = S at *
      generalize len (pts k) (pts (k + 1)) = L at *
      obtain ⟨p, hpk⟩ : ∃ p, pts k = p := ⟨_, rfl⟩
      obtain ⟨q, hqk⟩ : ∃ q, pts (k + 1) = q := ⟨_, rfl⟩
      rw [hpk] at p0 p1 p2 HL
      rw [hqk] at q0 q1 q2 HL
      clear hpk hqk
      have E1 := Lib.hid (show wrap64 ((S : Int) + (L : Int)) = ((S + L : Nat) : Int) by unfold wrap64; omega)
      have E2 := Lib.hid (show IntKind.i64.wrap ((S : Int) + (L : Int)) = ((S + L : Nat) : Int) by rw [IntWalk.i64_left]; exact E1.out)
      have E3 := Lib.hid (show (S : Int) + (L : Int) = ((S + L : Nat) : Int) by omega)
      have hw1 : IntKind.i64.wrap (k : Int) = (k : Int) := IntWalk.i64_in _ (by omega)
      have hli : ((k + 1 : Nat) : Int) < (n : Int) := by omega
      have hk1 : (k : Int) < (k : Int) + 1 := by omega
      have hkn : k < n := by omega
      have hk1n : k + 1 < n := hlt
      have hk0 : (0 : Int) ≤ (k : Int) + 1 := by omega

      have HX := Lib.hid x0
      have HGL := Lib.hid hgl
      have HOD := Lib.hid (rown.ownsRow_kept HO.out (Below.refl _ _).drew)
      clear hgl
      go_wp2
      go_region_law (first
        | (refine step_append_lies _ rfl (.tmp 15) (.tmp 38) _ rfl w.heap.size 2 i0 (.int .i64 0) 1 8 Try.underlying38 hi0 hz0 hz1 hz2 rfl (by omega) (.slice (some ⟨g0, 0, none⟩) (k + 1) d) (k + 1) _ (by simp [Act.eval]) (rown.ownsRow_kept HO2.out (below_alloc1 _ _)) ⟨w2.heap.size, 0, none⟩ 1 1 [.int .i64 _] (by simp [Act.eval]) (by simp) (one_new rfl) (by simp [Value.oneCell']) (by omega) (by simp only [maxLen]; omega) (by omega) (Nat.le_trans HB2.out.size (by simp)) _ rfl ?_; intro g3 cap3 w3 hown hgr hat hlt3; (first | rw [E1.out] at hown | rw [E2.out] at hown | rw [E3.out] at hown | skip); have HO3 := Lib.hid hown; have HB3 := Lib.hid (HB2.out.trans (rown.under HO2.out HB2.out.size hgr)); clear hown hgr hat)
        | (go_simp; go_at_call 59; (with_reducible refine (HL.out _).mono ?_); rintro e w2 ⟨rfl, hb2⟩; have hb2' := (Below.refl wr.heap.size wr).drew.trans hb2; have HB2 := Lib.hid (HB.out.trans (hb2'.mono HB.out.size)); have HO2 := Lib.hid (rown.ownsRow_kept HO.out hb2'); have x2 := (hb2'.cell (p := ⟨g0, k, none⟩) HGL.out).trans HX.out; clear hb2 hb2'))
      all_goals
        clear p0 p1 p2 q0 q1 q2 hs hw1 x0
        go_wp2
        go_roundw
        case rel => exact ⟨k + 1, cap3, g3, by omega, by go_num, rfl, Lib.hid (by rw [HE.out]; exact HO3.out), HB3⟩
        case measure => simp [intOf]; omega
    · obtain rfl : n = k + 1 := by omega
      go_wp2
      go_ret
      exact ⟨_, rfl, HO.out, HB.out⟩
set_option maxRecDepth 100000 in
set_option maxHeartbeats 4000000 in
theorem implArcs {c : Nat} (A : Option Addr) (n : Nat) (pts : Nat → P3) (w : World) (h1 : 1 ≤ n) (h60 : n ≤ 60) (hr : ∀ i, i < n → Rg (pts i)) (hp : PtsAt w A n pts) :
    Calls Try.prog 56 #[.agg #[.slice A n c]] w fun e w' => ∃ v, e = .returned v ∧ w'.ownsRow w.heap.size 2 1 v n (rws (arc pts) n) ∧ Below w.heap.size w w' := by
  obtain ⟨i0, hi0, hz0, hz1, hz2⟩ := rown.info_get infoInt
  have B0 := Lib.hid (below_alloc2 w (.cells #[.slice A n c] 31) (.cells #[.int .i64 0] 2))
  have HS := Lib.hid (segs_own (c := c) A n pts ((w.alloc (.cells #[.slice A n c] 31)).alloc (.cells #[.int .i64 0] 2)) h1 h60 (hp.kept B0.out))
  have HR := Lib.hid hr
  have HLE := Lib.hid (lens_le hr)
  have HO0 := Lib.hid (one_row (w.alloc (.cells #[.slice A n c] 31)) 2 (.int .i64 0) rfl)
  obtain ⟨m, hm⟩ : ∃ m, n - 1 = m := ⟨_, rfl⟩
  have hm59 : m ≤ 59 := by omega
  have HM := Lib.hid (show n = m + 1 by omega)
  rw [hm] at HS
  clear hp hr hm h1 h60
  go_enter Try.func56, Try.ntmps56
  go_wp2_with fail
  refine HS.out.mono ?_
  rintro e w1 ⟨B, dS, rfl, hsg, hb⟩
  have HG1 := Lib.hid (row_down hsg (show w.heap.size ≤ ((w.alloc (.cells #[.slice A n c] 31)).alloc (.cells #[.int .i64 0] 2)).heap.size by simp; omega))
  have B1 := Lib.hid (B0.out.trans (hb.mono B0.out.size))
  have HO1 := Lib.hid (row_low (rown.ownsRow_kept HO0.out hb) (show w.heap.size ≤ (w.alloc (.cells #[.slice A n c] 31)).heap.size by simp))
  simp only [World.size_alloc] at HO1
  clear hsg hb HS HO0
  go_wp2
  go_loopw [3, 4, 12] (fun t s i w' => ∃ (k d g : Nat), k ≤ m ∧ i = .int .i64 (k : Int) ∧ t = .int .i64 (lens pts k : Nat) ∧ s = .slice (some ⟨g, 0, none⟩) (k + 1) d ∧ Hid (w'.ownsRow w.heap.size 2 1 (.slice (some ⟨g, 0, none⟩) (k + 1) d) (k + 1) (rws (arc pts) (k + 1))) ∧ Hid (w'.ownsRow w.heap.size 76 6 (.slice B m dS) m (cellsS pts m)) ∧ Hid (Below w.heap.size w w')) (fun _ _ i _ => m - (intOf i).toNat)
  case atStart => exact ⟨0, _, _, Nat.zero_le _, rfl, rfl, rfl, HO1, HG1, B1⟩
  case round =>
    obtain ⟨k, d2, g0, hk, rfl, rfl, rfl, HO, HG, HBW⟩ := hrel
    by_cases hlt : k < m
    · obtain ⟨g, rfl, hg, c0, c1, c2, c3, c4, c5⟩ := (segs_of_row HG.out) k hlt
      have hli : (k : Int) < (m : Int) := by omega
      have HL := Lib.hid (fun W => side.length_calls (pts k) (pts (k + 1)) (HR.out k (by have := HM.out; omega)) (HR.out (k + 1) (by have := HM.out; omega)) W)
      have HSU := Lib.hid (lens_succ pts k)
      have HE := Lib.hid (show rws (arc pts) (k + 1 + 1) = rws (arc pts) (k + 1) ++ [.int .i64 ((lens pts k + len (pts k) (pts (k + 1)) : Nat) : Int)] from rfl)
      have hle := HLE.out k (by have := HM.out; omega)
      have hll := len_le (HR.out k (by have := HM.out; omega)) (HR.out (k + 1) (by have := HM.out; omega))
      generalize lens pts k = S at *
      generalize len (pts k) (pts (k + 1)) = L at *
      obtain ⟨p, hpk⟩ : ∃ p, pts k = p := ⟨_, rfl⟩
      obtain ⟨q, hqk⟩ : ∃ q, pts (k + 1) = q := ⟨_, rfl⟩
      rw [hpk] at c0 c1 c2 HL
      rw [hqk] at c3 c4 c5 HL
      clear hpk hqk
      obtain ⟨T, hT⟩ : ∃ T : Int, (S : Int) + (L : Int) = T := ⟨_, rfl⟩
      have E3 := Lib.hid (show T = ((S + L : Nat) : Int) by omega)
      have hT0 : 0 ≤ T ∧ T ≤ 100000000 := by omega
      go_wp2_with fail
      with_reducible refine (HL.out _).mono ?_
      rintro e w2 ⟨rfl, hb2⟩
      have hb3 := (below_alloc1 wr _).trans (hb2.mono (below_alloc1 wr _).size)
      have HG2 := Lib.hid (rown.ownsRow_kept HG.out hb3)
      have HBW2 := Lib.hid (HBW.out.trans (hb3.mono HBW.out.size))
      have HO2 := Lib.hid (rown.ownsRow_kept HO.out hb3)
      clear hb2 hb3 c0 c1 c2 c3 c4 c5 HL
      go_wp2_with (first
        | (at_builtin
           have z0 := rown.ownsRow_kept HO2.out (below_alloc1 w2 (.cells #[.int .i64 T] 2))
           have z2 : ∀ u ∈ [Value.int .i64 T], u.oneCell' = true := (by simp [Value.oneCell'])
           have z3 : k + 1 + 1 ≤ maxLen := (by simp only [maxLen]; omega)
           have z4 : (k + 1 + 1) * 8 ≤ 140737488355328 := (by omega)
           have z5 : w.heap.size ≤ (w2.alloc (.cells #[.int .i64 T] 2)).heap.size := (Nat.le_trans HBW2.out.size (by simp))
           refine wpList_append_lies (w2.alloc (.cells #[.int .i64 T] 2)) rfl _ _ 38 rfl w.heap.size 2 i0 (.int .i64 0) 1 8 Try.underlying38 hi0 hz0 hz1 hz2 rfl (by decide) (.slice (some ⟨g0, 0, none⟩) (k + 1) d2) (k + 1) _ rfl z0 ⟨w2.heap.size, 0, none⟩ 1 1 [.int .i64 T] rfl rfl (one_new rfl) z2 (by decide) z3 z4 z5 _ rfl ?_
           intro g3 cap3 w5 hown hgr hat hlt3
           rw [E3.out] at hown
           have HO4 := Lib.hid hown
           have hu := rown.under HO2.out HBW2.out.size hgr
           have HBW4 := Lib.hid (HBW2.out.trans hu)
           have HG4 := Lib.hid (own_other (by decide) HO2.out HG2.out hgr)
           clear hown hgr hat z0 z2 z3 z4 z5 hu))
      go_roundw
      case rel => exact ⟨k + 1, cap3, g3, by omega, by go_num, by rw [HSU.out]; go_num, rfl, Lib.hid (by rw [HE.out]; exact HO4.out), HG4, HBW4⟩
      case measure => simp [intOf]; omega
    · obtain rfl : m = k := by omega
      go_wp2
      go_ret
      have := HM.out
      subst this
      exact ⟨_, rfl, HO.out, HBW.out⟩
end Go.Proofs.Ytmphnhffelfbgaa.arcs
