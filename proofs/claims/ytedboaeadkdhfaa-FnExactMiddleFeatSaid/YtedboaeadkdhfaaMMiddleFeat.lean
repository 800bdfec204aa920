/-
  Proved: both functions that tell the mean place of features return the same place.
  Conditions: none.
-/
import Derived.Test.YtedboaeadkdhfaaMid
namespace Go.Proofs.Ytedboaeadkdhfaa.wMiddleFeat
open Go.ChangeShapes Go.WideShapes Go.ChangeAt Go.RowKit Go.Joins
open Go.Proofs.Ytedboaeadkdhfaa.core Go.Proofs.Ytedboaeadkdhfaa.rown Go.Proofs.Ytedboaeadkdhfaa.stk Go.Proofs.Ytedboaeadkdhfaa.boxed Go.Proofs.Ytedboaeadkdhfaa.ft Go.Proofs.Ytedboaeadkdhfaa.near Go.Proofs.Ytedboaeadkdhfaa.mid
set_option linter.unusedVariables false
set_option linter.unusedSimpArgs false
/-- The places of features. -/
def pl (f : Nat → P3) (i : Nat) : P2 := ((f i).1, (f i).2.1)
theorem pl_in {n : Nat} {f : Nat → P3} (h : ∀ i, i < n → inF (f i) = true) : ∀ i, i < n → inQ (pl f i) := fun i hi => by
  have := inF_of (h i hi)
  unfold inQ pl
  simp only
  omega
theorem infoSpot : (Try.prog.info? 45).map (fun i => (i.zero, i.size, i.bytes)) = some (some (.agg #[.int .i64 0, .int .i64 0]), 2, 16) := by kernel_rfl
theorem make2 (w : World) (E n : Nat) (cur : Array Value) (hc : cur.size = n * 2) (hn : n ≤ maxLen) : (w.alloc (.cells cur E)).ownsRow w.heap.size E 2 (.slice (some ⟨w.heap.size, 0, none⟩) 0 n) 0 [] :=
  ⟨by simp, .inr ⟨w.heap.size, n, _, rfl, Nat.le_refl _, heap_alloc_new _ _, Nat.zero_le _, hn, hc, by simp⟩⟩
theorem make0 (n : Nat) (hn : n ≤ 1048576) (w : World) : ∃ cur : Array Value, cur.size = n * 2 ∧
    (Instr.makeSlice 69 (.int .i64 0) (.int .i64 (n : Int))).run Try.prog w = .ok (.slice (some ⟨w.heap.size, 0, none⟩) 0 n) (w.alloc (.cells cur 45)) := by
  obtain ⟨i0, hi, hz0, hz1, hz2⟩ := rown.info_get infoSpot
  have hr := run_make (P := Try.prog) w 69 45 i0 _ Try.underlying69 hi hz0 .i64 .i64 0 n (by omega) (by omega) (by rw [hz2]; omega) (by omega)
  simp only [Int.toNat_natCast] at hr
  refine ⟨_, ?_, hr⟩
  rw [hz1]
  simp [madeCells]
theorem spot_calls (x y d : Int) (w : World) : Calls Try.prog 56 #[pt x y d] w fun e w' => e = .returned (.agg #[.int .i64 x, .int .i64 y]) ∧ Below w.heap.size w w' := by
  go_enter Try.func56, Try.ntmps56
  go_wp2
  exact bodyPost_ret (v := .agg #[.int .i64 x, .int .i64 y]) (by simp [results, Try.results56, go_sem]) rfl ⟨rfl, below_alloc2 _ _ _⟩
set_option maxRecDepth 100000 in
set_option maxHeartbeats 4000000 in
theorem spec_no {c : Nat} (A : Option Addr) (n : Nat) (f : Nat → P3) (w : World) (hcap : n ≤ 1048576) (hp : PtsAt w A n f) (hv : okF n f = false) :
    Calls Try.prog 34 #[.slice A n c] w fun e w' => e = .returned (.tuple #[.agg #[.int .i64 0, .int .i64 0], .int .i64 1]) ∧ Below w.heap.size w w' := by
  have B0 := Lib.hid (below_alloc1 w (.cells #[.int .i64 0, .int .i64 0] 45))
  have K0 := Lib.hid (heap_alloc_new w (.cells #[.int .i64 0, .int .i64 0] 45))
  have HS := Lib.hid (okS (c := c) A n f (w.alloc (.cells #[.int .i64 0, .int .i64 0] 45)) hcap (hp.kept B0.out))
  rw [hv] at HS
  clear hp hv
  go_enter Try.func34, Try.ntmps34
  go_wp2_with fail
  refine HS.out.mono ?_
  rintro e w1 ⟨rfl, hb⟩
  have B1 := Lib.hid (B0.out.trans (hb.mono B0.out.size))
  have L0 := Lib.hid ((hb.block _ (block_lt K0.out)).trans K0.out)
  clear hb HS
  have r0 : w1.cell? ⟨w.heap.size, 0, none⟩ = some (.int .i64 0) := by rw [cell_of_block L0.out]; rfl
  have r1 : w1.cell? ⟨w.heap.size, 1, none⟩ = some (.int .i64 0) := by rw [cell_of_block L0.out]; rfl
  have rf := unfrozen_of_block L0.out
  have rz : w.heap.size < w1.heap.size := block_lt L0.out
  go_wp2
  exact bodyPost_ret (v := .tuple #[.agg #[.int .i64 0, .int .i64 0], .int .i64 1]) (by simp [results, Try.results34, go_sem, r0, r1]) rfl ⟨rfl, (B1.out.setCell (Nat.le_refl _) _).setCell (Nat.le_refl _) _⟩
set_option maxRecDepth 100000 in
set_option maxHeartbeats 4000000 in
theorem impl_no {c : Nat} (A : Option Addr) (n : Nat) (f : Nat → P3) (w : World) (hcap : n ≤ 1048576) (hp : PtsAt w A n f) (hv : okF n f = false) :
    Calls Try.prog 35 #[.slice A n c] w fun e w' => e = .returned (.tuple #[.agg #[.int .i64 0, .int .i64 0], .int .i64 1]) ∧ Below w.heap.size w w' := by
  have B0 := Lib.hid (below_alloc1 w (.cells #[.int .i64 0, .int .i64 0] 45))
  have K0 := Lib.hid (heap_alloc_new w (.cells #[.int .i64 0, .int .i64 0] 45))
  have HS := Lib.hid (okI (c := c) A n f (w.alloc (.cells #[.int .i64 0, .int .i64 0] 45)) hcap (hp.kept B0.out))
  rw [hv] at HS
  clear hp hv
  go_enter Try.func35, Try.ntmps35
  go_wp2_with fail
  refine HS.out.mono ?_
  rintro e w1 ⟨rfl, hb⟩
  have B1 := Lib.hid (B0.out.trans (hb.mono B0.out.size))
  have L0 := Lib.hid ((hb.block _ (block_lt K0.out)).trans K0.out)
  clear hb HS
  have r0 : w1.cell? ⟨w.heap.size, 0, none⟩ = some (.int .i64 0) := by rw [cell_of_block L0.out]; rfl
  have r1 : w1.cell? ⟨w.heap.size, 1, none⟩ = some (.int .i64 0) := by rw [cell_of_block L0.out]; rfl
  have rf := unfrozen_of_block L0.out
  have rz : w.heap.size < w1.heap.size := block_lt L0.out
  go_wp2
  exact bodyPost_ret (v := .tuple #[.agg #[.int .i64 0, .int .i64 0], .int .i64 1]) (by simp [results, Try.results35, go_sem, r0, r1]) rfl ⟨rfl, (B1.out.setCell (Nat.le_refl _) _).setCell (Nat.le_refl _) _⟩
set_option maxRecDepth 100000 in
set_option maxHeartbeats 4000000 in
theorem spec_yes {c : Nat} (A : Option Addr) (n : Nat) (f : Nat → P3) (w : World) (hcap : n ≤ 1048576) (hp : PtsAt w A n f) (hv : okF n f = true) :
    Calls Try.prog 34 #[.slice A n c] w fun e w' => e = .returned (.tuple #[.agg #[.int .i64 (nr (mx (pl f) n) (n : Int)), .int .i64 (nr (my (pl f) n) (n : Int))], .int .i64 0]) ∧ Below w.heap.size w w' := by
  obtain ⟨h1, h384, hall⟩ := okF_of hv
  have B0 := Lib.hid (below_alloc1 w (.cells #[.int .i64 0, .int .i64 0] 45))
  have K0 := Lib.hid (heap_alloc_new w (.cells #[.int .i64 0, .int .i64 0] 45))
  have HS := Lib.hid (okS (c := c) A n f (w.alloc (.cells #[.int .i64 0, .int .i64 0] 45)) hcap (hp.kept B0.out))
  rw [hv] at HS
  have HP := Lib.hid hp
  have HQ := Lib.hid (pl_in hall)
  have HC := Lib.hid (m_le (pl_in hall))
  clear hp hv hall
  go_enter Try.func34, Try.ntmps34
  go_wp2_with fail
  refine HS.out.mono ?_
  rintro e w1 ⟨rfl, hb⟩
  have B1 := Lib.hid (B0.out.trans (hb.mono B0.out.size))
  have L0 := Lib.hid ((hb.block _ (block_lt K0.out)).trans K0.out)
  have HP1 := Lib.hid (HP.out.kept B1.out)
  clear hb HS B0 K0 HP
  go_wp2
  go_loopw [4, 5, 6] (fun u v i w' => ∃ k : Nat, k ≤ n ∧ i = .int .i64 (k : Int) ∧ u = .int .i64 (mx (pl f) k) ∧ v = .int .i64 (my (pl f) k) ∧ w1 = w') (fun _ _ i _ => n - (intOf i).toNat)
  case atStart => exact ⟨0, Nat.zero_le _, rfl, rfl, rfl, rfl⟩
  case round =>
    obtain ⟨k, hk, rfl, rfl, rfl, rfl⟩ := hrel
    by_cases hlt : k < n
    · obtain ⟨g, o, rfl, hg, p0, p1, -⟩ := HP1.out k hlt
      have hcm := HC.out k hk
      have hrg := HQ.out k hlt
      have HX := Lib.hid (show mx (pl f) (k + 1) = mx (pl f) k + (f k).1 from rfl)
      have HY := Lib.hid (show my (pl f) (k + 1) = my (pl f) k + (f k).2.1 from rfl)
      unfold inQ pl at hrg
      obtain ⟨p, hpk⟩ : ∃ p, f k = p := ⟨_, rfl⟩
      rw [hpk] at p0 p1 hrg HX HY
      simp only at hrg
      generalize mx (pl f) k = sx at *
      generalize my (pl f) k = sy at *
      have hki : (k : Int) < (n : Int) := by omega
      clear hpk
      go_wp2
      go_roundw
      case rel => exact ⟨k + 1, by omega, by go_num, by rw [HX.out], by rw [HY.out], trivial⟩
      case measure => simp [intOf]; omega
    · obtain rfl : k = n := by omega
      have hcm := HC.out k (Nat.le_refl _)
      obtain ⟨sx, hsx⟩ : ∃ x, mx (pl f) k = x := ⟨_, rfl⟩
      obtain ⟨sy, hsy⟩ : ∃ x, my (pl f) k = x := ⟨_, rfl⟩
      have HSX := Lib.hid hsx
      have HSY := Lib.hid hsy
      rw [hsx, hsy] at hcm ⊢
      clear hsx hsy
      have HNX := Lib.hid (fun W => specNear sx (k : Int) (by omega) (by omega) (by omega) (by omega) W)
      have HNY := Lib.hid (fun W => specNear sy (k : Int) (by omega) (by omega) (by omega) (by omega) W)
      have r0 : w1.cell? ⟨w.heap.size, 0, none⟩ = some (.int .i64 0) := by rw [cell_of_block L0.out]; rfl
      have r1 : w1.cell? ⟨w.heap.size, 1, none⟩ = some (.int .i64 0) := by rw [cell_of_block L0.out]; rfl
      have rf := unfrozen_of_block L0.out
      have rz : w.heap.size < w1.heap.size := block_lt L0.out
      go_wp2_with fail
      refine (HNX.out _).mono ?_
      rintro e w2 ⟨rfl, rfl⟩
      go_wp2_with fail
      refine (HNY.out _).mono ?_
      rintro e w2 ⟨rfl, rfl⟩
      go_wp2
      exact bodyPost_ret (v := .tuple #[.agg #[.int .i64 (nr sx (k : Int)), .int .i64 (nr sy (k : Int))], .int .i64 0]) (by simp [results, Try.results34, go_sem, r0, r1]) rfl ⟨by rw [HSX.out, HSY.out], (B1.out.setCell (Nat.le_refl _) _).setCell (Nat.le_refl _) _⟩
set_option maxRecDepth 100000 in
set_option maxHeartbeats 4000000 in
theorem impl_yes {c : Nat} (A : Option Addr) (n : Nat) (f : Nat → P3) (w : World) (hcap : n ≤ 1048576) (hp : PtsAt w A n f) (hv : okF n f = true) :
    Calls Try.prog 35 #[.slice A n c] w fun e w' => e = .returned (.tuple #[.agg #[.int .i64 (nr (mx (pl f) n) (n : Int)), .int .i64 (nr (my (pl f) n) (n : Int))], .int .i64 0]) ∧ Below w.heap.size w w' := by
  obtain ⟨h1, h384, hall⟩ := okF_of hv
  obtain ⟨i0, hi0, hz0, hz1, hz2⟩ := rown.info_get infoSpot
  have B0 := Lib.hid (below_alloc1 w (.cells #[.int .i64 0, .int .i64 0] 45))
  have K0 := Lib.hid (heap_alloc_new w (.cells #[.int .i64 0, .int .i64 0] 45))
  have HS := Lib.hid (okI (c := c) A n f (w.alloc (.cells #[.int .i64 0, .int .i64 0] 45)) hcap (hp.kept B0.out))
  rw [hv] at HS
  have HP := Lib.hid hp
  have HQ := Lib.hid (pl_in hall)
  clear hp hv hall
  go_enter Try.func35, Try.ntmps35
  go_wp2_with fail
  refine HS.out.mono ?_
  rintro e w1 ⟨rfl, hb⟩
  have B1 := Lib.hid (B0.out.trans (hb.mono B0.out.size))
  have L0 := Lib.hid ((hb.block _ (block_lt K0.out)).trans K0.out)
  have HP1 := Lib.hid (HP.out.kept B1.out)
  clear hb HS B0 K0 HP
  obtain ⟨cur, hcu, hmk⟩ := make0 n hcap w1
  have HCU := Lib.hid hcu
  clear hcu
  go_wp2
  clear hmk
  go_loopw [4, 16] (fun o i w' => ∃ (k d : Nat) (B : Option Addr), k ≤ n ∧ i = .int .i64 (k : Int) ∧ o = .slice B k d ∧ Hid (w'.ownsRow w1.heap.size 45 2 (.slice B k d) k (rws (sp2 (pl f)) k)) ∧ Hid (Below w1.heap.size w1 w')) (fun _ i _ => n - (intOf i).toNat)
  case atStart => exact ⟨0, n, _, Nat.zero_le _, rfl, rfl, Lib.hid (make2 _ _ _ _ HCU.out (by simp only [maxLen]; omega)), Lib.hid (below_alloc1 _ _)⟩
  case round =>
    obtain ⟨k, d, B, hk, rfl, rfl, HO, HB⟩ := hrel
    by_cases hlt : k < n
    · obtain ⟨g, o', rfl, hg, p0, p1, p2⟩ := (HP1.out.kept HB.out) k hlt
      have HE := Lib.hid (show rws (sp2 (pl f)) (k + 1) = rws (sp2 (pl f)) k ++ [.int .i64 (f k).1, .int .i64 (f k).2.1] from rfl)
      obtain ⟨p, hpk⟩ : ∃ p, f k = p := ⟨_, rfl⟩
      rw [hpk] at p0 p1 p2 HE
      clear hpk
      have hli : (k : Int) < (n : Int) := by omega
      go_wp2_with (first
        | (go_at_call 56; (with_reducible refine (spot_calls _ _ _ _).mono ?_); rintro e w3 ⟨rfl, hb⟩; have HK := Lib.hid ((below_alloc1 wr _).trans (hb.mono (below_alloc1 wr _).size)); clear hb; have HB3 := Lib.hid (HB.out.trans (HK.out.mono HB.out.size)); have HO3 := Lib.hid (rown.ownsRow_kept HO.out HK.out))
        | (at_builtin
           have z0 := rown.ownsRow_kept HO3.out (below_alloc1 w3 (.cells #[.int .i64 p.1, .int .i64 p.2.1] 45))
           have z2 : ∀ u ∈ [Value.int .i64 p.1, Value.int .i64 p.2.1], u.oneCell' = true := (by simp [Value.oneCell'])
           have z3 : k + 1 ≤ maxLen := (by simp only [maxLen]; omega)
           have z4 : (k + 1) * 16 ≤ 140737488355328 := (by omega)
           have z5 : w1.heap.size ≤ (w3.alloc (.cells #[.int .i64 p.1, .int .i64 p.2.1] 45)).heap.size := (Nat.le_trans HB3.out.size (by simp))
           refine wpList_append_lies (w3.alloc (.cells #[.int .i64 p.1, .int .i64 p.2.1] 45)) rfl _ _ 69 rfl w1.heap.size 45 i0 _ 2 16 Try.underlying69 hi0 hz0 hz1 hz2 rfl (by decide) (.slice B k d) k _ rfl z0 ⟨w3.heap.size, 0, none⟩ 1 1 [.int .i64 p.1, .int .i64 p.2.1] rfl rfl (two_new rfl) z2 (by decide) z3 z4 z5 _ rfl ?_
           intro g3 cap3 w5 hown hgr hat hlt3
           have HO4 := Lib.hid hown
           have HB4 := Lib.hid (HB3.out.trans (rown.under HO3.out HB3.out.size hgr))
           clear hown hgr hat z0 z2 z3 z4 z5))
      go_roundw
      case rel => exact ⟨k + 1, cap3, some ⟨g3, 0, none⟩, by omega, by go_num, rfl, Lib.hid (by rw [HE.out]; exact HO4.out), HB4⟩
      case measure => simp [intOf]; omega
    · obtain rfl : k = n := by omega
      have HM := Lib.hid (mid_calls (c := d) B k (pl f) wr h1 (by omega) (sp_row HO.out) HQ.out)
      go_wp2_with fail
      refine HM.out.mono ?_
      rintro e w2 ⟨rfl, hb⟩
      have HB2 := Lib.hid (HB.out.trans (hb.mono HB.out.size))
      have M0 := Lib.hid ((HB2.out.block _ (block_lt L0.out)).trans L0.out)
      have BE := Lib.hid (B1.out.trans (HB2.out.mono B1.out.size))
      clear hb
      have r0 : w2.cell? ⟨w.heap.size, 0, none⟩ = some (.int .i64 0) := by rw [cell_of_block M0.out]; rfl
      have r1 : w2.cell? ⟨w.heap.size, 1, none⟩ = some (.int .i64 0) := by rw [cell_of_block M0.out]; rfl
      have rf := unfrozen_of_block M0.out
      have rz : w.heap.size < w2.heap.size := block_lt M0.out
      obtain ⟨a, ha⟩ : ∃ a, nr (mx (pl f) k) (k : Int) = a := ⟨_, rfl⟩
      obtain ⟨b, hb⟩ : ∃ a, nr (my (pl f) k) (k : Int) = a := ⟨_, rfl⟩
      have HA := Lib.hid ha
      have HB9 := Lib.hid hb
      rw [ha, hb]
      clear ha hb
      go_wp2
      exact bodyPost_ret (v := .tuple #[.agg #[.int .i64 a, .int .i64 b], .int .i64 0]) (by simp [results, Try.results35, go_sem, r0, r1]) rfl ⟨by rw [HA.out, HB9.out], (BE.out.setCell (Nat.le_refl _) _).setCell (Nat.le_refl _) _⟩
theorem meat (vs0 : Nat → Value) (g0 : Nat → Dat) (ht0 : tyrFeatS g0) :
    costRec 1 g0 ≤ 1048576 → ∃ (x0 : Int) (x1 : Int) (r1 : Int), (∀ (W : World) (us0 : Nat → Value), ReadsRec W 1 us0 g0 → (∃ (A : Option Addr) (n c : Nat), us0 0 = .slice A n c ∧ n ≤ c) → Calls Try.prog 34 #[us0 0] W fun e W' => e = .returned (.tuple #[.agg #[.int .i64 x0, .int .i64 x1], .int .i64 r1]) ∧ Below W.heap.size W W') ∧ (∀ (W : World) (us0 : Nat → Value), ReadsRec W 1 us0 g0 → (∃ (A : Option Addr) (n c : Nat), us0 0 = .slice A n c ∧ n ≤ c) → Calls Try.prog 35 #[us0 0] W fun e W' => e = .returned (.tuple #[.agg #[.int .i64 x0, .int .i64 x1], .int .i64 r1]) ∧ Below W.heap.size W W') := by
  intro hq
  cases hv : okF (ftN g0) (ftF g0) with
  | true =>
    exact ⟨_, _, _, fun W us0 h0 _ => by
        obtain ⟨A, c, e, hn, hp⟩ := reads_fts h0 ht0 hq
        rw [e]; exact spec_yes A _ _ W hn hp hv, fun W us0 h0 _ => by
        obtain ⟨A, c, e, hn, hp⟩ := reads_fts h0 ht0 hq
        rw [e]; exact impl_yes A _ _ W hn hp hv⟩
  | false =>
    exact ⟨_, _, _, fun W us0 h0 _ => by
        obtain ⟨A, c, e, hn, hp⟩ := reads_fts h0 ht0 hq
        rw [e]; exact spec_no A _ _ W hn hp hv, fun W us0 h0 _ => by
        obtain ⟨A, c, e, hn, hp⟩ := reads_fts h0 ht0 hq
        rw [e]; exact impl_no A _ _ W hn hp hv⟩
end Go.Proofs.Ytedboaeadkdhfaa.wMiddleFeat
