/-
  Proved: the list of directions that the program makes of a stroke's points is the document's.
  Conditions: the points are in their range, and no more than 60; the table of directions holds what the program's text lays in it.
-/
import Derived.Test.YtmlibfmbbkmeeaaDoorDirL
namespace Go.Proofs.YtmlibfmbbkmeeaaDoor.dirl
open Go.ChangeShapes Go.WideShapes Go.ChangeAt Go.RowKit Go.Joins
open Go.Proofs.YtmlibfmbbkmeeaaDoor.core Go.Proofs.YtmlibfmbbkmeeaaDoor.geoM Go.Proofs.YtmlibfmbbkmeeaaDoor.stk Go.Proofs.YtmlibfmbbkmeeaaDoor.seg Go.Proofs.YtmlibfmbbkmeeaaDoor.side Go.Proofs.YtmlibfmbbkmeeaaDoor.segs
set_option linter.unusedVariables false
set_option linter.unusedSimpArgs false
set_option maxRecDepth 100000 in
set_option maxHeartbeats 2000000 in
theorem square_calls (a b : P3) (ha : Rg a) (hb : Rg b) (w : World) :
    Calls Tryd.prog 27 #[sg a b] w fun e w' => e = .returned (.int .i64 (far a b : Nat)) ∧ Below w.heap.size w w' := by
  have hc := far_cast a b
  unfold farI at hc
  obtain ⟨a1, a2, a3, a4⟩ := ha
  obtain ⟨b1, b2, b3, b4⟩ := hb
  obtain ⟨⟨x, hx⟩, ⟨y, hy⟩⟩ : (∃ x, x = b.1 - a.1) ∧ (∃ y, y = b.2.1 - a.2.1) := ⟨⟨_, rfl⟩, ⟨_, rfl⟩⟩
  rw [← hx, ← hy] at hc
  have h1 := sq_small (x := x) (by omega) (by omega)
  have h2 := sq_small (x := y) (by omega) (by omega)
  have x1 : IntKind.i64.wrap (b.1 - a.1) = x := by rw [← hx]; exact IntWalk.i64_in _ (by omega)
  have y1 : IntKind.i64.wrap (b.2.1 - a.2.1) = y := by rw [← hy]; exact IntWalk.i64_in _ (by omega)
  have hxx : -4095 ≤ x ∧ x ≤ 4095 := by omega
  have hyy : -4095 ≤ y ∧ y ≤ 4095 := by omega
  have HC := Lib.hid hc
  obtain ⟨q1, e1⟩ : ∃ q, x * x = q := ⟨_, rfl⟩
  obtain ⟨q2, e2⟩ : ∃ q, y * y = q := ⟨_, rfl⟩
  rw [e1] at h1
  rw [e2] at h2
  clear hx hy hc a1 a2 a3 a4 b1 b2 b3 b4
  have hm := mixedO
  go_enter Tryd.func27, Tryd.ntmps27
  go_wp2
  go_quiet (fail)
  go_wp2
  go_ret
  exact ⟨stk.ret_int (by rw [HC.out]; omega), below_drewN (below_alloc1 _ _) _⟩

theorem far_still (p q : P3) (h : q.1 - p.1 = 0 ∧ q.2.1 - p.2.1 = 0) : far p q = 0 := by
  have := far_cast p q
  unfold farI at this
  rw [h.1, h.2] at this
  omega
theorem far_moves (p q : P3) (h : ¬ (q.1 - p.1 = 0 ∧ q.2.1 - p.2.1 = 0)) : 0 < far p q := by
  have hc := far_cast p q
  unfold farI at hc
  rcases Nat.eq_zero_or_pos (far p q) with h0 | h0
  · have h1 := sq_nonneg (q.1 - p.1)
    have h2 := sq_nonneg (q.2.1 - p.2.1)
    exact absurd ⟨sq0 (by omega), sq0 (by omega)⟩ h
  · exact h0
def TabAt (w : World) : Prop := ∀ r c : Nat, r < 3 → c < 3 → w.cell? ⟨0, r * 3 + c, none⟩ = some (.int .i64 (sect r c))
theorem TabAt.kept {w w' : World} (h : TabAt w) (hz : 0 < w.heap.size) (hb : Below w.heap.size w w') : TabAt w' := fun r c hr hc => (hb.cell (p := ⟨0, _, none⟩) hz).trans (h r c hr hc)
set_option maxRecDepth 100000 in
set_option maxHeartbeats 4000000 in
theorem impl_calls {c : Nat} (A : Option Addr) (n : Nat) (pts : Nat → P3) (w : World) (h1 : 1 ≤ n) (h60 : n ≤ 60) (hr : ∀ i, i < n → Rg (pts i)) (hp : PtsAt w A n pts) (hz : 0 < w.heap.size) (ht : TabAt w) :
    Calls Tryd.prog 18 #[.agg #[.slice A n c]] w fun e w' => ∃ B d m L, m = (dirsL pts (n - 1)).length ∧ e = .returned (.slice B m d) ∧ w'.ownsRow L 2 1 (.slice B m d) m ((dirsL pts (n - 1)).map (Value.int .i64)) ∧ Below w.heap.size w w' ∧ w.heap.size ≤ L := by
  obtain ⟨i0, hi0, hz0, hz1, hz2⟩ := info_get infoInt
  have B0 := Lib.hid (below_alloc1 w (.cells #[.slice A n c] 31))
  have HS := Lib.hid (segs_calls (c := c) A n pts (w.alloc (.cells #[.slice A n c] 31)) h1 h60 (hp.kept B0.out))
  have HR := Lib.hid hr
  have HT := Lib.hid ht
  have HZ := Lib.hid hz
  obtain ⟨m, hm⟩ : ∃ m, n - 1 = m := ⟨_, rfl⟩
  have hm59 : m ≤ 59 := by omega
  have HM := Lib.hid (show n = m + 1 by omega)
  rw [hm] at HS ⊢
  clear hp hr hm h1 h60 ht hz
  go_enter Tryd.func18, Tryd.ntmps18
  go_wp2_with fail
  refine HS.out.mono ?_
  rintro e w1 ⟨B, d, rfl, hsg, hb⟩
  have B1 := Lib.hid (B0.out.trans (hb.mono B0.out.size))
  have HG := Lib.hid hsg
  have HT1 := Lib.hid (HT.out.kept HZ.out B1.out)
  have HZ1 := Lib.hid (Nat.lt_of_lt_of_le HZ.out B1.out.size)
  clear hsg hb HS
  go_wp2
  go_loopw [3, 9] (fun s i w' => ∃ (k u d : Nat) (B : Option Addr), k ≤ m ∧ i = .int .i64 (k : Int) ∧ s = .slice B u d ∧ u ≤ k ∧ Hid (u = (dirsL pts k).length) ∧ Hid (w'.ownsRow w1.heap.size 2 1 (.slice B u d) u ((dirsL pts k).map (Value.int .i64))) ∧ Hid (Below w1.heap.size w1 w')) (fun _ i _ => m - (intOf i).toNat)
  case atStart => exact ⟨0, 0, 0, none, Nat.zero_le _, rfl, rfl, Nat.le_refl _, Lib.hid rfl, Lib.hid ⟨rfl, .inl ⟨rfl, rfl⟩⟩, Lib.hid (Below.refl _ _)⟩
  case round =>
    obtain ⟨k, u, d2, B2, hk, rfl, rfl, huk, HU, HO, HB⟩ := hrel
    by_cases hlt : k < m
    · obtain ⟨g, rfl, hg, c0, c1, c2, c3, c4, c5⟩ := (HG.out.kept HB.out) k hlt
      have hli : (k : Int) < (m : Int) := by omega
      have rg1 := HR.out k (by have := HM.out; omega)
      have rg2 := HR.out (k + 1) (by have := HM.out; omega)
      have HL := Lib.hid (fun W => square_calls (pts k) (pts (k + 1)) rg1 rg2 W)
      have HD := Lib.hid (show dirsL pts (k + 1) = if still (pts k) (pts (k + 1)) then dirsL pts k else dirsL pts k ++ [dirN ((pts (k + 1)).1 - (pts k).1) ((pts (k + 1)).2.1 - (pts k).2.1)] from rfl)
      obtain ⟨p, hpk⟩ : ∃ p, pts k = p := ⟨_, rfl⟩
      obtain ⟨q, hqk⟩ : ∃ q, pts (k + 1) = q := ⟨_, rfl⟩
      rw [hpk] at c0 c1 c2 HL rg1 HD
      rw [hqk] at c3 c4 c5 HL rg2 HD
      clear hpk hqk
      by_cases h0 : q.1 - p.1 = 0 ∧ q.2.1 - p.2.1 = 0
      · have HE := Lib.hid (show dirsL pts (k + 1) = dirsL pts k by rw [HD.out, if_pos (show still p q = true from decide_eq_true h0)])
        have HL2 := Lib.hid (fun W => (HL.out W).mono fun e W' h => (show e = .returned (.int .i64 0) ∧ Below W.heap.size W W' from ⟨by rw [h.1, far_still p q h0]; rfl, h.2⟩))
        clear HL HD h0
        go_wp2_with fail
        with_reducible refine (HL2.out _).mono ?_
        rintro e w2 ⟨rfl, hb2⟩
        have hb3 := (below_alloc1 wr _).trans (hb2.mono (below_alloc1 wr _).size)
        have HB2 := Lib.hid (HB.out.trans (hb3.mono HB.out.size))
        have HO2 := Lib.hid (ownsRow_kept HO.out hb3)
        clear hb2 hb3 c0 c1 c2 c3 c4 c5 HL2
        go_wp2
        go_roundw
        case rel => exact ⟨k + 1, u, d2, B2, by omega, by go_num, rfl, by omega, Lib.hid (by rw [HE.out]; exact HU.out), Lib.hid (by rw [HE.out]; exact HO2.out), HB2⟩
        case measure => simp [intOf]; omega
      · have HE := Lib.hid (show dirsL pts (k + 1) = dirsL pts k ++ [dirN (q.1 - p.1) (q.2.1 - p.2.1)] by rw [HD.out, if_neg (by unfold still; rw [decide_eq_false h0]; exact Bool.false_ne_true)])
        have hF := far_moves p q h0
        obtain ⟨u1, u2, u3, u4⟩ := rg1
        obtain ⟨v1, v2, v3, v4⟩ := rg2
        obtain ⟨dx, hdx⟩ : ∃ dx, q.1 - p.1 = dx := ⟨_, rfl⟩
        obtain ⟨dy, hdy⟩ : ∃ dy, q.2.1 - p.2.1 = dy := ⟨_, rfl⟩
        have b1 : -4095 ≤ dx ∧ dx ≤ 4095 := by omega
        have b2 : -4095 ≤ dy ∧ dy ≤ 4095 := by omega
        have E1 : IntKind.i64.wrap (q.1 - p.1) = dx := by rw [hdx]; exact IntWalk.i64_in _ (by omega)
        have E2 : IntKind.i64.wrap (q.2.1 - p.2.1) = dy := by rw [hdy]; exact IntWalk.i64_in _ (by omega)
        have F1 : wrap64 (q.1 - p.1) = dx := by rw [← IntWalk.i64_left]; exact E1
        have F2 : wrap64 (q.2.1 - p.2.1) = dy := by rw [← IntWalk.i64_left]; exact E2
        rw [hdx, hdy] at h0
        have HE1 := HE.out
        rw [hdx, hdy] at HE1
        have HC := Lib.hid (fun W (hz : 0 < W.heap.size) (ht : TabAt W) => dir.dir_calls dx dy b1.1 b1.2 b2.1 b2.2 h0 W hz ht)
        generalize dirN dx dy = y0 at *
        have HE2 := Lib.hid (show (dirsL pts (k + 1)).map (Value.int .i64) = (dirsL pts k).map (Value.int .i64) ++ [.int .i64 y0] by rw [HE1]; simp)
        have HU2 := Lib.hid (show u + 1 = (dirsL pts (k + 1)).length by rw [HE1, List.length_append, ← HU.out]; rfl)
        have hFi : (0 : Int) < ((far p q : Nat) : Int) := by omega
        generalize far p q = F at *
        clear HE HE1 HD h0 hdx hdy u1 u2 u3 u4 v1 v2 v3 v4 b1 b2
        go_wp2_with fail
        with_reducible refine (HL.out _).mono ?_
        rintro e w2 ⟨rfl, hb2⟩
        have a0 : w2.cell? ⟨wr.heap.size, 0, none⟩ = some (.int .i64 p.1) := (hb2.cell (by simp)).trans (by simp)
        have a1 : w2.cell? ⟨wr.heap.size, 1, none⟩ = some (.int .i64 p.2.1) := (hb2.cell (by simp)).trans (by simp)
        have a3 : w2.cell? ⟨wr.heap.size, 3, none⟩ = some (.int .i64 q.1) := (hb2.cell (by simp)).trans (by simp)
        have a4 : w2.cell? ⟨wr.heap.size, 4, none⟩ = some (.int .i64 q.2.1) := (hb2.cell (by simp)).trans (by simp)
        have hb3 := (below_alloc1 wr _).trans (hb2.mono (below_alloc1 wr _).size)
        have HB2 := Lib.hid (HB.out.trans (hb3.mono HB.out.size))
        have HO2 := Lib.hid (ownsRow_kept HO.out hb3)
        have HC2 := Lib.hid (HC.out w2 (Nat.lt_of_lt_of_le HZ1.out HB2.out.size) (HT1.out.kept HZ1.out HB2.out))
        clear hb2 hb3 c0 c1 c2 c3 c4 c5 HL HC
        go_wp2_with (first
          | (go_at_call 28; (refine HC2.out.mono ?_); rintro e w3 ⟨rfl, hb⟩; have HB3 := Lib.hid (HB2.out.trans (hb.mono HB2.out.size)); have HO3 := Lib.hid (ownsRow_kept HO2.out hb); clear hb)
          | (at_builtin
             have z0 := ownsRow_kept HO3.out (below_alloc1 w3 (.cells #[.int .i64 y0] 2))
             have z2 : ∀ u ∈ [Value.int .i64 y0], u.oneCell' = true := (by simp [Value.oneCell'])
             have z3 : u + 1 ≤ maxLen := (by simp only [maxLen]; omega)
             have z4 : (u + 1) * 8 ≤ 140737488355328 := (by omega)
             have z5 : w1.heap.size ≤ (w3.alloc (.cells #[.int .i64 y0] 2)).heap.size := (Nat.le_trans HB3.out.size (by simp))
             refine wpList_append_lies (w3.alloc (.cells #[.int .i64 y0] 2)) rfl _ _ 26 rfl w1.heap.size 2 i0 (.int .i64 0) 1 8 Tryd.underlying26 hi0 hz0 hz1 hz2 rfl (by decide) (.slice B2 u d2) u _ rfl z0 ⟨w3.heap.size, 0, none⟩ 1 1 [.int .i64 y0] rfl rfl one_new z2 (by decide) z3 z4 z5 _ rfl ?_
             intro g3 cap3 w5 hown hgr hat hlt3
             have HO4 := Lib.hid hown
             have HB4 := Lib.hid (HB3.out.trans ((under HO3.out HB3.out.size hgr)))
             clear hown hgr hat z0 z2 z3 z4 z5))
        go_roundw
        case rel => exact ⟨k + 1, u + 1, cap3, some ⟨g3, 0, none⟩, by omega, by go_num, rfl, by omega, HU2, Lib.hid (by rw [HE2.out]; exact HO4.out), HB4⟩
        case measure => simp [intOf]; omega
    · obtain rfl : m = k := by omega
      go_wp2
      go_ret
      exact ⟨B2, d2, u, w1.heap.size, HU.out, rfl, HO.out, B1.out.trans (HB.out.mono B1.out.size), B1.out.size⟩
end Go.Proofs.YtmlibfmbbkmeeaaDoor.dirl
