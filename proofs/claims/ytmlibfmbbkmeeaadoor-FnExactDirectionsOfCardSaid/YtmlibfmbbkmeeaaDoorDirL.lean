/-
  Proved: the lists of directions that both programs make of a stroke's points.
  Conditions: the points are in their range, and no more than 60; the table of directions holds what the program's text lays in it.
-/
import Derived.Test.YtmlibfmbbkmeeaaDoorDirI
import Derived.Test.YtmlibfmbbkmeeaaDoorLenI
namespace Go.Proofs.YtmlibfmbbkmeeaaDoor.dirl
open Go.ChangeShapes Go.WideShapes Go.ChangeAt Go.RowKit Go.Joins
open Go.Proofs.YtmlibfmbbkmeeaaDoor.core Go.Proofs.YtmlibfmbbkmeeaaDoor.geoM Go.Proofs.YtmlibfmbbkmeeaaDoor.stk Go.Proofs.YtmlibfmbbkmeeaaDoor.seg Go.Proofs.YtmlibfmbbkmeeaaDoor.segs
set_option linter.unusedVariables false
set_option linter.unusedSimpArgs false
theorem one_new {w : World} {v : Value} {E : Nat} : ∀ j u, [v][j]? = some u → (w.alloc (.cells #[v] E)).cell? ((⟨w.heap.size, 0, none⟩ : Addr).add j) = some u := by
  intro j u hu
  rw [add_at]
  match j, hu with
  | 0, hu => simp at hu; subst hu; simp
theorem empty_row (w : World) (E : Nat) : (w.alloc (.cells #[] E)).ownsRow w.heap.size E 1 (.slice (some ⟨w.heap.size, 0, none⟩) 0 0) 0 [] :=
  ⟨by simp, .inr ⟨w.heap.size, 0, #[], rfl, Nat.le_refl _, heap_alloc_new _ _, Nat.le_refl _, by simp [maxLen], by simp, by simp⟩⟩
theorem infoInt : (Tryd.prog.info? 2).map (fun i => (i.zero, i.size, i.bytes)) = some (some (.int .i64 0), 1, 8) := by kernel_rfl
def dxP (p q : P3) : Int := q.1 - p.1
def dyP (p q : P3) : Int := q.2.1 - p.2.1
def still (p q : P3) : Bool := decide (q.1 - p.1 = 0 ∧ q.2.1 - p.2.1 = 0)
/-- The directions of the first k segments that have one. -/
def dirsL (pts : Nat → P3) : Nat → List Int
  | 0 => []
  | k + 1 => if still (pts k) (pts (k + 1)) then dirsL pts k else dirsL pts k ++ [dirN ((pts (k + 1)).1 - (pts k).1) ((pts (k + 1)).2.1 - (pts k).2.1)]
theorem dirsL_len (pts : Nat → P3) : ∀ k, (dirsL pts k).length ≤ k
  | 0 => Nat.le_refl _
  | k + 1 => by
    have := dirsL_len pts k
    unfold dirsL
    split
    · omega
    · simp; omega
theorem dirsL_rng (pts : Nat → P3) : ∀ k, ∀ x ∈ dirsL pts k, 0 ≤ x ∧ x ≤ 7
  | 0, x, h => by simp [dirsL] at h
  | k + 1, x, h => by
    unfold dirsL at h
    split at h
    · exact dirsL_rng pts k x h
    · rcases List.mem_append.1 h with h | h
      · exact dirsL_rng pts k x h
      · simp at h
        rw [h]
        exact dirN_rng _ _
set_option maxRecDepth 100000 in
set_option maxHeartbeats 4000000 in
theorem spec_calls {c o : Nat} (A : Option Addr) (b n : Nat) (pts : Nat → P3) (w : World) (h1 : 1 ≤ n) (h60 : n ≤ 60) (hr : ∀ i, i < n → Rg (pts i)) (hbz : b < w.heap.size) (hs : w.cell? ⟨b, o, none⟩ = some (.slice A n c)) (hp : PtsAt w A n pts) :
    Calls Tryd.prog 15 #[.pointer (some ⟨b, o, none⟩)] w fun e w' => ∃ B d m, m = (dirsL pts (n - 1)).length ∧ e = .returned (.slice B m d) ∧ w'.ownsRow w.heap.size 2 1 (.slice B m d) m ((dirsL pts (n - 1)).map (Value.int .i64)) ∧ Below w.heap.size w w' := by
  obtain ⟨i0, hi0, hz0, hz1, hz2⟩ := info_get infoInt
  have HP := Lib.hid hp
  have HS := Lib.hid hs
  have HR := Lib.hid hr
  have hm := dir.mixedO
  clear hp hs hr
  go_enter Tryd.func15, Tryd.ntmps15
  go_wp2
  go_loopw [3, 4] (fun s i w' => ∃ (k m d : Nat) (B : Option Addr), k + 1 ≤ n ∧ i = .int .i64 ((k + 1 : Nat) : Int) ∧ s = .slice B m d ∧ m ≤ k ∧ Hid (m = (dirsL pts k).length) ∧ Hid (w'.ownsRow w.heap.size 2 1 (.slice B m d) m ((dirsL pts k).map (Value.int .i64))) ∧ Hid (Below w.heap.size w w')) (fun _ i _ => n - (intOf i).toNat)
  case atStart => exact ⟨0, 0, 0, _, h1, rfl, rfl, Nat.le_refl _, Lib.hid rfl, Lib.hid (empty_row w 2), Lib.hid (below_alloc1 _ _)⟩
  case round =>
    obtain ⟨k, m, d, B, hk, rfl, rfl, hmk, HM, HO, HB⟩ := hrel
    have hs := (HB.out.cell (p := ⟨b, o, none⟩) hbz).trans HS.out
    by_cases hlt : k + 1 < n
    · obtain ⟨g, o', rfl, hg, p0, p1, p2⟩ := HP.out k (by omega)
      obtain ⟨g2, o2, e2, -, q0, q1, q2⟩ := HP.out (k + 1) hlt
      injection e2 with e2
      injection e2 with e2 e3
      subst e2 e3
      have hgz : g < wr.heap.size := Nat.lt_of_lt_of_le hg HB.out.size
      have hbz' : b < wr.heap.size := Nat.lt_of_lt_of_le hbz HB.out.size
      obtain ⟨u1, u2, u3, u4⟩ := HR.out k (by omega)
      obtain ⟨v1, v2, v3, v4⟩ := HR.out (k + 1) hlt
      have HD := Lib.hid (show dirsL pts (k + 1) = if still (pts k) (pts (k + 1)) then dirsL pts k else dirsL pts k ++ [dirN ((pts (k + 1)).1 - (pts k).1) ((pts (k + 1)).2.1 - (pts k).2.1)] from rfl)
      have HX : still (pts k) (pts (k + 1)) = decide ((pts (k + 1)).1 - (pts k).1 = 0 ∧ (pts (k + 1)).2.1 - (pts k).2.1 = 0) := rfl
      have c0 := cell_kept (w := wr) (a := ⟨g, o' + k * 3, none⟩) hgz ((HB.out.cell hg).trans p0)
      have c1 := cell_kept (w := wr) (a := ⟨g, o' + k * 3 + 1, none⟩) hgz ((HB.out.cell hg).trans p1)
      have d0 := cell_kept (w := wr) (a := ⟨g, o' + (k + 1) * 3, none⟩) hgz ((HB.out.cell hg).trans q0)
      have d1 := cell_kept (w := wr) (a := ⟨g, o' + (k + 1) * 3 + 1, none⟩) hgz ((HB.out.cell hg).trans q1)
      have c4 := cell_kept (w := wr) (a := ⟨b, o, none⟩) hbz' hs
      clear p0 p1 p2 q0 q1 q2
      generalize still (pts k) (pts (k + 1)) = z at *
      generalize (pts k).1 = x at *
      generalize (pts k).2.1 = y at *
      generalize (pts (k + 1)).1 = x' at *
      generalize (pts (k + 1)).2.1 = y' at *
      have hli : ((k + 1 : Nat) : Int) < (n : Int) := by omega
      obtain ⟨dx, hdx⟩ : ∃ dx, x' - x = dx := ⟨_, rfl⟩
      obtain ⟨dy, hdy⟩ : ∃ dy, y' - y = dy := ⟨_, rfl⟩
      have b1 : -4095 ≤ dx ∧ dx ≤ 4095 := by omega
      have b2 : -4095 ≤ dy ∧ dy ≤ 4095 := by omega
      rw [hdx, hdy] at HX
      have HD2 := HD.out
      rw [hdx, hdy] at HD2
      have HDD := Lib.hid HD2
      have HXX := Lib.hid HX
      have E1 : IntKind.i64.wrap (x' - x) = dx := by rw [hdx]; exact IntWalk.i64_in _ (by omega)
      have E2 : IntKind.i64.wrap (y' - y) = dy := by rw [hdy]; exact IntWalk.i64_in _ (by omega)
      have F1 : wrap64 (x' - x) = dx := by rw [← IntWalk.i64_left]; exact E1
      have F2 : wrap64 (y' - y) = dy := by rw [← IntWalk.i64_left]; exact E2
      have E3 : IntKind.i64.wrap (k : Int) = (k : Int) := IntWalk.i64_in _ (by omega)
      have HL := Lib.hid (fun W => dir.sector_calls dx dy b1.1 b1.2 b2.1 b2.2 W)
      have HBB := Lib.hid (And.intro b1 b2)
      clear HX u1 u2 u3 u4 v1 v2 v3 v4 HD HD2 hdx hdy b1 b2
      go_wp2
      clear hs
      refine wp_region_quiet_kept (by assumption) (by kernel_rfl) ?_
      repeat (first | go_big_quiet_step (fail) | quiet_step (fail))
      refine wpQuiet_nil ?_
      intro w2 hw'
      have hb0 : Below wr.heap.size wr w2 := by obtain ⟨⟨wk, hb0⟩, hw''⟩ := hw'; rw [hw'']; exact hb0
      clear hw'
      have hgz2 : g < w2.heap.size := Nat.lt_of_lt_of_le hgz hb0.size
      have hbz2 : b < w2.heap.size := Nat.lt_of_lt_of_le hbz' hb0.size
      have c1' := fun p : Kept w2 => c1 ⟨p.world, hb0.trans (p.below.mono hb0.size)⟩
      have d1' := fun p : Kept w2 => d1 ⟨p.world, hb0.trans (p.below.mono hb0.size)⟩
      have c4' := fun p : Kept w2 => c4 ⟨p.world, hb0.trans (p.below.mono hb0.size)⟩
      dsimp only at c1' d1' c4'
      have HB2 := Lib.hid (HB.out.trans (hb0.mono HB.out.size))
      have HO2 := Lib.hid (ownsRow_kept HO.out hb0)
      clear c0 c1 d0 d1 c4 HB HO hb0 E1 F1
      go_wp2
      refine wp_region_quiet_kept (by assumption) (by kernel_rfl) ?_
      repeat (first | go_big_quiet_step (fail) | quiet_step (fail))
      refine wpQuiet_nil ?_
      intro w3 hw'
      have hb0 : Below w2.heap.size w2 w3 := by obtain ⟨⟨wk, hb0⟩, hw''⟩ := hw'; rw [hw'']; exact hb0
      clear hw'
      have HB3 := Lib.hid (HB2.out.trans (hb0.mono HB2.out.size))
      have HO3 := Lib.hid (ownsRow_kept HO2.out hb0)
      clear c1' d1' c4' HB2 HO2 hb0 E2 F2 E3
      by_cases h0 : dx = 0 ∧ dy = 0
      · have hz : z = true := by rw [HXX.out]; exact decide_eq_true h0
        have HE := Lib.hid (show dirsL pts (k + 1) = dirsL pts k by rw [HDD.out, if_pos hz])
        obtain ⟨rfl, rfl⟩ := h0
        go_wp2
        go_roundw
        case rel => exact ⟨k + 1, m, d, B, by omega, by go_num, rfl, by omega, Lib.hid (by rw [HE.out]; exact HM.out), Lib.hid (by rw [HE.out]; exact HO3.out), HB3⟩
        case measure => simp [intOf]; omega
      · have hz : z = false := by rw [HXX.out]; exact decide_eq_false h0
        have HE := Lib.hid (show dirsL pts (k + 1) = dirsL pts k ++ [dirN dx dy] by rw [HDD.out, if_neg (by rw [hz]; exact Bool.false_ne_true)])
        generalize dirN dx dy = y0 at *
        have HE2 := Lib.hid (show (dirsL pts (k + 1)).map (Value.int .i64) = (dirsL pts k).map (Value.int .i64) ++ [.int .i64 y0] by rw [HE.out]; simp)
        have HM2 := Lib.hid (show m + 1 = (dirsL pts (k + 1)).length by rw [HE.out, List.length_append, ← HM.out]; rfl)
        have HZ3 := Lib.hid (HB3.out.size)
        have hc : dx ≠ 0 ∨ (dx = 0 ∧ dy ≠ 0) := by omega
        clear h0 hz HDD HXX
        rcases hc with hc | ⟨rfl, hc⟩
        all_goals
          go_wp2_with (first
            | (go_at_call 23; (with_reducible refine (HL.out _).mono ?_); rintro e w4 ⟨rfl, rfl⟩)
            | (at_builtin
               have z0 := ownsRow_kept HO3.out (below_alloc1 w3 (.cells #[.int .i64 y0] 2))
               have z2 : ∀ u ∈ [Value.int .i64 y0], u.oneCell' = true := (by simp [Value.oneCell'])
               have z3 : m + 1 ≤ maxLen := (by simp only [maxLen]; omega)
               have z4 : (m + 1) * 8 ≤ 140737488355328 := (by omega)
               have z5 : w.heap.size ≤ (w3.alloc (.cells #[.int .i64 y0] 2)).heap.size := (Nat.le_trans HZ3.out (by simp))
               refine wpList_append_lies (w3.alloc (.cells #[.int .i64 y0] 2)) rfl _ _ 26 rfl w.heap.size 2 i0 (.int .i64 0) 1 8 Tryd.underlying26 hi0 hz0 hz1 hz2 rfl (by decide) (.slice B m d) m _ rfl z0 ⟨w3.heap.size, 0, none⟩ 1 1 [.int .i64 y0] rfl rfl one_new z2 (by decide) z3 z4 z5 _ rfl ?_
               intro g3 cap3 w5 hown hgr hat hlt3
               have HO4 := Lib.hid hown
               have HB4 := Lib.hid (HB3.out.trans ((under HO3.out HZ3.out hgr)))
               clear hown hgr hat z0 z2 z3 z4 z5))
          go_roundw
          case rel => exact ⟨k + 1, m + 1, cap3, some ⟨g3, 0, none⟩, by omega, by go_num, rfl, by omega, HM2, Lib.hid (by rw [HE2.out]; exact HO4.out), HB4⟩
          case measure => simp [intOf]; omega
    · obtain rfl : n = k + 1 := by omega
      go_wp2
      go_ret
      exact ⟨B, d, m, HM.out, rfl, HO.out, HB.out⟩
end Go.Proofs.YtmlibfmbbkmeeaaDoor.dirl
