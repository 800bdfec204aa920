/-
  Proved: what the program's functions that turn a list of features round, and that find the least number of a row and its place, return.
  Conditions: the lists are not empty and not longer than 72.
-/
import Derived.Test.YthpmckfjlbiiiabLast
import Derived.Test.YthpmckfjlbiiiabRevF
import Derived.Laws.Cover3
namespace Go.Proofs.Ythpmckfjlbiiiab.dp
open Go.ChangeShapes Go.WideShapes Go.ChangeAt Go.RowKit Go.Joins
open Go.Proofs.Ythpmckfjlbiiiab.core Go.Proofs.Ythpmckfjlbiiiab.rown Go.Proofs.Ythpmckfjlbiiiab.stk Go.Proofs.Ythpmckfjlbiiiab.boxed Go.Proofs.Ythpmckfjlbiiiab.ft Go.Proofs.Ythpmckfjlbiiiab.seq Go.Proofs.Ythpmckfjlbiiiab.tab Go.Proofs.Ythpmckfjlbiiiab.put3
set_option linter.unusedVariables false
set_option linter.unusedSimpArgs false
theorem add_off (b o j : Nat) : (⟨b, o, none⟩ : Addr).add j = ⟨b, o + j, none⟩ := by unfold Addr.add; split <;> simp_all
theorem pts_news {w : World} {b o n : Nat} {pts : Nat → P3} (hp : PtsAt w (some ⟨b, o, none⟩) n pts) : ∀ j u, (rws (row3 pts) n)[j]? = some u → w.cell? ((⟨b, o, none⟩ : Addr).add j) = some u := by
  intro j u hu
  have hl : j < n * 3 := by
    have := (List.getElem?_eq_some_iff.1 hu).1
    rwa [rws_len (row3_len pts)] at this
  obtain ⟨i, r, hr, rfl⟩ : ∃ i r, r < 3 ∧ j = i * 3 + r := ⟨j / 3, j % 3, by omega, by omega⟩
  have hi : i < n := by omega
  rw [rws_get (row3_len pts) i r hr n hi] at hu
  obtain ⟨b', o', e, hb, c0, c1, c2⟩ := hp i hi
  injection e with e
  injection e with e1 e2
  subst e1 e2
  rw [add_off]
  rcases (by omega : r = 0 ∨ r = 1 ∨ r = 2) with rfl | rfl | rfl
  · rw [show o + (i * 3 + 0) = o + i * 3 by omega, c0, ← hu]; rfl
  · rw [show o + (i * 3 + 1) = o + i * 3 + 1 by omega, c1, ← hu]; rfl
  · rw [show o + (i * 3 + 2) = o + i * 3 + 2 by omega, c2, ← hu]; rfl
theorem some_not_nil (a : Addr) (n c : Nat) (w : World) : (binOp .eql 24 (.slice (some a) n c) (.slice none 0 0)).run Try.prog w = .ok (.bool false) w := by
  show ((do pure (.bool (← Op.equal 24 (.slice (some a) n c) (.slice none 0 0))) : Sem Value)).run Try.prog w = _
  simp [run_equal_slice_nil w 24 65 (some a) n c Try.underlying24]
set_option maxRecDepth 100000 in
set_option maxHeartbeats 2000000 in
theorem cloneI {c : Nat} (A : Option Addr) (n : Nat) (f : Nat → P3) (w : World) (h1 : 1 ≤ n) (h72 : n ≤ 72) (hp : PtsAt w A n f) :
    Calls Try.prog 101 #[.slice A n c] w fun e w' => ∃ g d, e = .returned (.slice (some ⟨g, 0, none⟩) n d) ∧ w'.ownsRow w.heap.size 65 3 (.slice (some ⟨g, 0, none⟩) n d) n (rws (row3 f) n) ∧ Below w.heap.size w w' := by
  obtain ⟨i0, hi0, hz0, hz1, hz2⟩ := rown.info_get infoFeat
  obtain ⟨g0, o0, rfl, hg0, -, -, -⟩ := hp 0 (by omega)
  have B0 := Lib.hid (below_alloc1 w (.cells #[] 65))
  have HP := Lib.hid (hp.kept B0.out)
  have HO := Lib.hid (empty_row w 65 3)
  have hnil := fun W => some_not_nil ⟨g0, o0, none⟩ n c W
  clear hp hg0
  go_enter Try.func101, Try.ntmps101
  go_wp2_with (first
    | (at_builtin
       have z1 : ∀ u ∈ rws (row3 f) n, u.oneCell' = true := rws_one f n
       have z2 : 0 + n ≤ maxLen := (by simp only [maxLen]; omega)
       have z3 : (0 + n) * 24 ≤ 140737488355328 := (by omega)
       have z4 : w.heap.size ≤ (w.alloc (.cells #[] 65)).heap.size := B0.out.size
       refine wpList_append_lies (w.alloc (.cells #[] 65)) rfl _ _ 24 rfl w.heap.size 65 i0 _ 3 24 Try.underlying24 hi0 hz0 hz1 hz2 rfl (by decide) (.slice (some ⟨w.heap.size, 0, none⟩) 0 0) 0 [] rfl HO.out ⟨g0, o0, none⟩ n c (rws (row3 f) n) rfl (rws_len (row3_len f) n) (pts_news HP.out) z1 (by omega) z2 z3 z4 _ rfl ?_
       intro g3 cap3 w4 hown hgr hat hlt3
       have HO4 := Lib.hid hown
       have HB4 := Lib.hid (B0.out.grown hgr B0.out.size (fun kk hkk => (by simp [Value.ownBlock] at hkk; omega)))
       clear hown hgr hat z1 z2 z3 z4)
)
  go_ret
  exact ⟨g3, cap3, by simp, by simpa using HO4.out, HB4.out⟩
set_option maxRecDepth 100000 in
set_option maxHeartbeats 2000000 in
theorem reversedI {c : Nat} (A : Option Addr) (n : Nat) (f : Nat → P3) (w : World) (h1 : 1 ≤ n) (h72 : n ≤ 72) (hp : PtsAt w A n f) :
    Calls Try.prog 71 #[.slice A n c] w fun e w' => ∃ g d, e = .returned (.slice (some ⟨g, 0, none⟩) n d) ∧ w'.ownsRow w.heap.size 65 3 (.slice (some ⟨g, 0, none⟩) n d) n (rws (row3 fun j => f (n - 1 - j)) n) ∧ Below w.heap.size w w' := by
  have HC := Lib.hid (cloneI (c := c) A n f w h1 h72 hp)
  obtain ⟨N, rfl⟩ : ∃ N, n = N + 1 := ⟨n - 1, by omega⟩
  have HR := Lib.hid (fun g d W ho => revF.rev_calls (base := w.heap.size) (g := g) (d := d) (N := N) (f := f) W (by omega) ho)
  clear hp
  go_enter Try.func71, Try.ntmps71
  go_wp2_with fail
  refine HC.out.mono ?_
  rintro e w1 ⟨g, d, rfl, ho, hb1⟩
  have HR1 := Lib.hid (HR.out g d w1 ho)
  have B1 := Lib.hid hb1
  have hbg := Lib.hid (base_le ho)
  clear ho hb1 HC HR
  go_wp2_with fail
  refine HR1.out.mono ?_
  rintro e w2 ⟨rfl, ho, hf⟩
  have HO := Lib.hid ho
  have HB := Lib.hid (B1.out.trans (hf.below (fun x hx => by subst hx; exact hbg.out) B1.out.size))
  clear ho hf
  go_wp2
  go_ret
  exact ⟨g, d, rfl, own_cast HO.out (fun j hj => by show f (N - j) = f (N + 1 - 1 - j); rw [Nat.add_sub_cancel]), HB.out⟩
/-- The least one of the first n numbers. -/
def leastZ (F : Nat → Int) : Nat → Int
  | 0 => F 0
  | n + 1 => min (leastZ F n) (F (n + 1))
theorem leastZ_le {F : Nat → Int} {n i : Nat} (h : i ≤ n) : leastZ F n ≤ F i := by
  induction n with
  | zero => obtain rfl : i = 0 := by omega
            exact Int.le_refl _
  | succ n ih =>
    unfold leastZ
    by_cases e : i = n + 1
    · subst e; omega
    · have := ih (by omega); omega
theorem leastZ_at (F : Nat → Int) (n : Nat) : ∃ i, i ≤ n ∧ leastZ F n = F i := by
  induction n with
  | zero => exact ⟨0, Nat.le_refl _, rfl⟩
  | succ n ih =>
    obtain ⟨i, hi, e⟩ := ih
    unfold leastZ
    by_cases h : F (n + 1) < leastZ F n
    · exact ⟨n + 1, Nat.le_refl _, by omega⟩
    · exact ⟨i, by omega, by omega⟩
set_option maxRecDepth 100000 in
set_option maxHeartbeats 2000000 in
theorem minRowI (g n : Nat) (F : Nat → Int) (w : World) (hn : n ≤ 1000) (hr : rowAt w g n F) :
    Calls Try.prog 69 #[.slice (some ⟨g, 0, none⟩) (n + 1) (n + 1)] w fun e w' => e = .returned (.int .i64 (leastZ F n)) ∧ Below w.heap.size w w' := by
  have HR := Lib.hid hr
  have x0 := hr 0 (by omega)
  have xz := World.block_lt_of_cell? w ⟨g, 0, none⟩ x0
  have h0 : (0 : Int) < (n : Int) + 1 := by omega
  have h1 : ¬ (n : Int) + 1 < 1 := by omega
  clear hr
  go_enter Try.func69, Try.ntmps69
  go_wp2
  clear x0
  go_loopw [3, 4] (fun m i w' => ∃ k : Nat, k ≤ n ∧ i = .int .i64 ((k : Int) + 1) ∧ m = .int .i64 (leastZ F k) ∧ w' = w) (fun _ i _ => n + 1 - (intOf i).toNat)
  case atStart => exact ⟨0, Nat.zero_le _, by first | rfl | go_num, rfl, rfl⟩
  case round =>
    obtain ⟨k, hk, rfl, rfl, rfl⟩ := hrel
    by_cases hlt : k < n
    · have hli : (k : Int) + 1 < (n : Int) + 1 := by omega
      have hkn : k + 1 < n + 1 := by omega
      have x0 := HR.out (k + 1) (by omega)
      have HM := Lib.hid (show min (leastZ F k) (F (k + 1)) = leastZ F (k + 1) from rfl)
      have hmin : ∀ (W : World), (Builtin.min_ #[2, 2] 2 #[.int .i64 (leastZ F k), .int .i64 (F (k + 1))]).run Try.prog W = .ok (.int .i64 (leastZ F (k + 1))) W := fun W => by rw [run_min2, HM.out]
      go_wp2
      go_roundw
      case rel => exact ⟨k + 1, by omega, by go_num, rfl, trivial⟩
      case measure => simp [intOf]; omega
    · obtain rfl : k = n := by omega
      have hli : ¬ (k : Int) + 1 < (k : Int) + 1 := by omega
      go_wp2
      go_ret
      exact ⟨rfl, Below.refl _ _⟩
set_option maxRecDepth 100000 in
set_option maxHeartbeats 2000000 in
theorem indexI (g n : Nat) (F : Nat → Int) (v : Int) (i : Nat) (w : World) (hn : n ≤ 1000) (hr : rowAt w g n F) (hi : i ≤ n) (hv : F i = v) (hno : ∀ j, j < i → F j ≠ v) :
    Calls Try.prog 70 #[.slice (some ⟨g, 0, none⟩) (n + 1) (n + 1), .int .i64 v] w fun e w' => e = .returned (.int .i64 (i : Int)) ∧ Below w.heap.size w w' := by
  have HR := Lib.hid hr
  have HNO := Lib.hid hno
  have HV := Lib.hid hv
  clear hr hno hv
  go_enter Try.func70, Try.ntmps70
  go_wp2
  go_loopw [8] (fun j w' => ∃ k : Nat, k ≤ i ∧ j = .int .i64 (k : Int) ∧ w' = w) (fun j _ => n + 1 - (intOf j).toNat)
  case atStart => exact ⟨0, Nat.zero_le _, rfl, rfl⟩
  case round =>
    obtain ⟨k, hk, rfl, rfl⟩ := hrel
    have hli : (k : Int) < (n : Int) + 1 := by omega
    have hkn : k < n + 1 := by omega
    have x0 := HR.out k (by omega)
    have xz := World.block_lt_of_cell? _ ⟨g, k, none⟩ x0
    by_cases hlt : k < i
    · have hne := HNO.out k hlt
      have hne1 : ¬ v = F k := fun e => hne e.symm
      obtain ⟨u, hu⟩ : ∃ u, F k = u := ⟨_, rfl⟩
      rw [hu] at x0 hne hne1
      have hne2 : (v == u) = false := by simpa using hne1
      clear hu
      go_wp2
      go_roundw
      case rel => exact ⟨k + 1, by omega, by go_num, trivial⟩
      case measure => simp [intOf]; omega
    · obtain rfl : k = i := by omega
      rw [HV.out] at x0
      go_wp2
      go_ret
      exact ⟨rfl, Below.refl _ _⟩
end Go.Proofs.Ythpmckfjlbiiiab.dp
