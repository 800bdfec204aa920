/-
  Proved: both functions that turn a list of features round return the same list, in memory of its own.
  Conditions: none.
-/
import Derived.Test.YthpmckfjlbiiiabFt
import Derived.Test.YthpmckfjlbiiiabRevF
namespace Go.Proofs.Ythpmckfjlbiiiab.wBackFeats
open Go.ChangeShapes Go.WideShapes Go.ChangeAt Go.RowKit Go.Joins
open Go.Proofs.Ythpmckfjlbiiiab.core Go.Proofs.Ythpmckfjlbiiiab.rown Go.Proofs.Ythpmckfjlbiiiab.stk Go.Proofs.Ythpmckfjlbiiiab.boxed Go.Proofs.Ythpmckfjlbiiiab.ft
set_option linter.unusedVariables false
set_option linter.unusedSimpArgs false
def bck (p : P3) : P3 := (p.1, p.2.1, (p.2.2 + 4) % 8)
set_option maxRecDepth 100000 in
set_option maxHeartbeats 4000000 in
theorem spec_no {c : Nat} (A : Option Addr) (n : Nat) (f : Nat → P3) (w : World) (hcap : n ≤ 1048576) (hp : PtsAt w A n f) (hv : okF n f = false) :
    Calls Try.prog 25 #[.slice A n c] w fun e w' => ∃ v, e = .returned (.tuple #[v, .int .i64 1]) ∧ w'.ownsRow w.heap.size 65 3 v (0) (rws (row3 (fun _ => (0, 0, 0))) (0)) ∧ Below w.heap.size w w' := by
  have HS := Lib.hid (okS (c := c) A n f w hcap hp)
  rw [hv] at HS
  clear hp hv
  go_enter Try.func25, Try.ntmps25
  go_wp2_with fail
  refine HS.out.mono ?_
  rintro e w1 ⟨rfl, hb1⟩
  have B1 := Lib.hid hb1
  clear hb1 HS
  go_wp2
  go_ret2
  exact ⟨.slice none 0 0, rfl, World.ownsRow_nil _ _ _ _, B1.out⟩
set_option maxRecDepth 100000 in
set_option maxHeartbeats 4000000 in
theorem spec_yes {c : Nat} (A : Option Addr) (n : Nat) (f : Nat → P3) (w : World) (hcap : n ≤ 1048576) (hp : PtsAt w A n f) (hv : okF n f = true) :
    Calls Try.prog 25 #[.slice A n c] w fun e w' => ∃ v, e = .returned (.tuple #[v, .int .i64 0]) ∧ w'.ownsRow w.heap.size 65 3 v (n) (rws (row3 (fun j => bck (f (n - 1 - j)))) (n)) ∧ Below w.heap.size w w' := by
  obtain ⟨h1, h384, hall⟩ := okF_of hv
  obtain ⟨i0, hi0, hz0, hz1, hz2⟩ := rown.info_get infoFeat
  have HV := Lib.hid hall
  have HS := Lib.hid (okS (c := c) A n f w hcap hp)
  rw [hv] at HS
  have HP := Lib.hid hp
  obtain ⟨F, hF⟩ : ∃ F : Nat → P3, F = fun j => bck (f (n - 1 - j)) := ⟨_, rfl⟩
  have HF := Lib.hid (show ∀ j, bck (f (n - 1 - j)) = F j from fun j => by rw [hF])
  rw [← hF]
  clear hp hv hall hF
  go_enter Try.func25, Try.ntmps25
  go_wp2_with fail
  refine HS.out.mono ?_
  rintro e w1 ⟨rfl, hb1⟩
  have B1 := Lib.hid hb1
  have HP1 := Lib.hid (HP.out.kept hb1)
  clear hb1 HS HP
  go_wp2
  go_loopw [4, 5] (fun o i w' => ∃ (k m d : Nat) (z : Int) (B : Option Addr), k + m = n ∧ i = .int .i64 z ∧ z + 1 = (m : Int) ∧ o = .slice B k d ∧ Hid (w'.ownsRow w1.heap.size 65 3 (.slice B k d) k (rws (row3 F) k)) ∧ Hid (Below w1.heap.size w1 w')) (fun _ i _ => (intOf i + 1).toNat)
  case atStart => exact ⟨0, n, 0, _, _, by omega, rfl, by omega, rfl, Lib.hid (empty_row w1 _ _), Lib.hid (below_alloc1 _ _)⟩
  case round =>
    obtain ⟨k, m, d, z, B, hk, rfl, hz, rfl, HO, HB⟩ := hrel
    by_cases hlt : 0 < m
    · obtain ⟨i, rfl⟩ : ∃ i, m = i + 1 := ⟨m - 1, by omega⟩
      obtain rfl : z = (i : Int) := by omega
      have hin' : i < n := by omega
      obtain ⟨g0, o', rfl, hg, p0, p1, p2⟩ := (HP1.out.kept HB.out) i hin'
      have hin := inF_of (HV.out i hin')
      have HE := Lib.hid (show rws (row3 F) (k + 1) = rws (row3 F) k ++ c3 (bck (f i)) by rw [rws_succ]; unfold row3; rw [← HF.out k, show n - 1 - k = i by omega])
      have hkn : k < n := by omega
      have HKM := Lib.hid hk
      clear hk hz hlt
      obtain ⟨p, hpk⟩ : ∃ p, f i = p := ⟨_, rfl⟩
      rw [hpk] at p0 p1 p2 hin HE
      clear hpk
      have hli : (i : Int) < (n : Int) := by omega
      have hli0 : (0 : Int) ≤ (i : Int) := by omega
      have B3 := Lib.hid (below_alloc1 wr (.cells #[.int .i64 p.1, .int .i64 p.2.1, .int .i64 p.2.2] 65))
      have HB3 := Lib.hid (HB.out.trans (B3.out.mono HB.out.size))
      have HO3 := Lib.hid (rown.ownsRow_kept HO.out B3.out)
      go_wp2_with (at_builtin
                   have z0 := rown.ownsRow_kept HO3.out (below_alloc1 (wr.alloc (.cells #[.int .i64 p.1, .int .i64 p.2.1, .int .i64 p.2.2] 65)) (.cells #[.int .i64 (p.1), .int .i64 (p.2.1), .int .i64 ((p.2.2 + 4) % 8)] 65))
                   have z2 : ∀ u ∈ [Value.int .i64 (p.1), Value.int .i64 (p.2.1), Value.int .i64 ((p.2.2 + 4) % 8)], u.oneCell' = true := (by simp [Value.oneCell'])
                   have z3 : k + 1 ≤ maxLen := (by simp only [maxLen]; omega)
                   have z4 : (k + 1) * 24 ≤ 140737488355328 := (by omega)
                   have z5 : w1.heap.size ≤ ((wr.alloc (.cells #[.int .i64 p.1, .int .i64 p.2.1, .int .i64 p.2.2] 65)).alloc (.cells #[.int .i64 (p.1), .int .i64 (p.2.1), .int .i64 ((p.2.2 + 4) % 8)] 65)).heap.size := (Nat.le_trans HB3.out.size (by simp))
                   refine wpList_append_lies ((wr.alloc (.cells #[.int .i64 p.1, .int .i64 p.2.1, .int .i64 p.2.2] 65)).alloc (.cells #[.int .i64 (p.1), .int .i64 (p.2.1), .int .i64 ((p.2.2 + 4) % 8)] 65)) rfl _ _ 24 rfl w1.heap.size 65 i0 _ 3 24 Try.underlying24 hi0 hz0 hz1 hz2 rfl (by decide) (.slice B k d) k _ rfl z0 ⟨wr.heap.size + 1, 0, none⟩ 1 1 [.int .i64 (p.1), .int .i64 (p.2.1), .int .i64 ((p.2.2 + 4) % 8)] rfl rfl (three_new (by simp)) z2 (by decide) z3 z4 z5 _ rfl ?_
                   intro g3 cap3 w5 hown hgr hat hlt3
                   have HO4 := Lib.hid hown
                   have HB4 := Lib.hid (HB3.out.trans (rown.under HO3.out HB3.out.size hgr))
                   clear hown hgr hat z0 z2 z3 z4 z5)
      go_roundw
      case rel => exact ⟨k + 1, i, cap3, (i : Int) - 1, some ⟨g3, 0, none⟩, by have := HKM.out; omega, by go_num, by omega, rfl, Lib.hid (by rw [HE.out]; exact HO4.out), HB4⟩
      case measure => first | (simp [intOf]; done) | (simp [intOf]; omega)
    · obtain rfl : m = 0 := by omega
      obtain rfl : z = -1 := by omega
      obtain rfl : k = n := by omega
      go_wp2
      go_ret2
      exact ⟨_, rfl, row_low HO.out B1.out.size, B1.out.trans (HB.out.mono B1.out.size)⟩
theorem in_all (f : Nat → P3) (n : Nat) (hv : okF n f = true) : ∀ i j, i < n → j < 3 → inI64 (fi3 (fun j => bck (f (n - 1 - j))) i j) := fun i j hi hj => by
  have h := inF_of ((okF_of hv).2.2 (n - 1 - i) (by omega))
  unfold fi3 inI64 bck
  split
  · simp only; omega
  · split <;> (simp only; omega)
theorem rev_nil (w : World) : Calls Try.prog 102 #[.slice none 0 0] w fun e w' => e = .returned (.tuple #[]) ∧ Below w.heap.size w w' := by
  go_enter Try.func102, Try.ntmps102
  go_wp2
  refine wp_loop_rounds 1 ?_
  rw [rounds_succ]
  go_wp2
  go_end0
  exact ⟨rfl, Below.refl _ _⟩
end Go.Proofs.Ythpmckfjlbiiiab.wBackFeats
