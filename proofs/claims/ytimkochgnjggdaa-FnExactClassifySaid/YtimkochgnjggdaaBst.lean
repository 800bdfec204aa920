/-
  Proved: both functions that return the place of the greatest number return the first one of several.
  Conditions: the list is not empty and not long.
-/
import Derived.Test.YtimkochgnjggdaaOne
import Derived.Test.YtimkochgnjggdaaSco
namespace Go.Proofs.Ytimkochgnjggdaa.bst
open Go.ChangeShapes Go.WideShapes Go.ChangeAt Go.RowKit Go.Joins
open Go.Proofs.Ytimkochgnjggdaa.core Go.Proofs.Ytimkochgnjggdaa.rown Go.Proofs.Ytimkochgnjggdaa.stk Go.Proofs.Ytimkochgnjggdaa.boxed Go.Proofs.Ytimkochgnjggdaa.ft Go.Proofs.Ytimkochgnjggdaa.one1
set_option linter.unusedVariables false
set_option linter.unusedSimpArgs false
/-- The first greatest one of the places 0 to k. -/
def bst (F : Nat → Int) : Nat → Nat
  | 0 => 0
  | k + 1 => if F (bst F k) < F (k + 1) then k + 1 else bst F k
theorem bst_le (F : Nat → Int) : ∀ k, bst F k ≤ k
  | 0 => Nat.le_refl _
  | k + 1 => by
    have := bst_le F k
    unfold bst
    split <;> omega
theorem bst_max (F : Nat → Int) : ∀ k i, i ≤ k → F i ≤ F (bst F k)
  | 0, i, hi => by
    obtain rfl : i = 0 := by omega
    exact Int.le_refl _
  | k + 1, i, hi => by
    unfold bst
    rcases Nat.lt_or_ge i (k + 1) with h | h
    · have := bst_max F k i (by omega)
      split <;> omega
    · obtain rfl : i = k + 1 := by omega
      split <;> omega
theorem bst_first (F : Nat → Int) : ∀ k i, i < bst F k → F i < F (bst F k)
  | 0, i, hi => absurd hi (by unfold bst; omega)
  | k + 1, i, hi => by
    unfold bst at hi ⊢
    split
    · rename_i h
      rw [if_pos h] at hi
      have := bst_max F k i (by omega)
      omega
    · rename_i h
      rw [if_neg h] at hi
      exact bst_first F k i hi
theorem bst_step (F : Nat → Int) (k : Nat) : max (F (bst F k)) (F (k + 1)) = F (bst F (k + 1)) := by
  rw [bst]
  split <;> omega
theorem run_max2 {P : Program} (w : World) (ts : Array TypeId) (t : TypeId) (x y : Int) : (Builtin.max_ ts t #[.int .i64 x, .int .i64 y]).run P w = .ok (.int .i64 (max x y)) w := by
  have e : ∀ p q : Int, (if q > p then q else p) = max p q := fun p q => by
    rw [Int.max_def]
    split <;> split <;> omega
  have e' : ∀ p q : Int, (if p < q then q else p) = max p q := e
  simp [Builtin.max_, Builtin.max2, e, e', go_sem]
theorem mixedB : Try.prog.follows .mixedOrders = true := by kernel_rfl
set_option maxRecDepth 100000 in
set_option maxHeartbeats 2000000 in
theorem bestS {c : Nat} (A : Option Addr) (n : Nat) (F : Nat → Int) (w : World) (hn : n ≤ 1000) (hp : NumAt w A (n + 1) F) :
    Calls Try.prog 82 #[.slice A (n + 1) c] w fun e w' => e = .returned (.int .i64 ((bst F n : Nat) : Int)) ∧ Below w.heap.size w w' := by
  have HP := Lib.hid hp
  have hmix := mixedB
  clear hp
  go_enter Try.func82, Try.ntmps82
  go_wp2
  go_loopw [3, 4] (fun m i w' => ∃ k : Nat, k ≤ n ∧ m = .int .i64 ((bst F k : Nat) : Int) ∧ i = .int .i64 ((k : Int) + 1) ∧ Hid (Below w.heap.size w w')) (fun _ i _ => n + 1 - (intOf i).toNat)
  case atStart => exact ⟨0, Nat.zero_le _, rfl, by first | rfl | go_num, Lib.hid (Below.refl _ _)⟩
  case round =>
    obtain ⟨k, hk, rfl, rfl, HB⟩ := hrel
    by_cases hlt : k < n
    · have hli : (k : Int) + 1 < (n : Int) + 1 := by omega
      have hble := bst_le F k
      obtain ⟨b1, o1, rfl, hb1, p0⟩ := (HP.out.kept HB.out) (k + 1) (by omega)
      obtain ⟨b2, o2, e2, hb2, p1⟩ := (HP.out.kept HB.out) (bst F k) (by omega)
      obtain ⟨rfl, rfl⟩ : b2 = b1 ∧ o2 = o1 := by
        injection e2 with e2
        injection e2 with e3 e4
        exact ⟨e3.symm, e4.symm⟩
      have HST := Lib.hid (show bst F (k + 1) = if F (bst F k) < F (k + 1) then k + 1 else bst F k from rfl)
      have hkn : k + 1 < n + 1 := by omega
      obtain ⟨q, hq⟩ : ∃ q, bst F k = q := ⟨_, rfl⟩
      rw [hq] at p1 HST hble ⊢
      have hqn : q < n + 1 := by omega
      obtain ⟨u, hu⟩ : ∃ u, F q = u := ⟨_, rfl⟩
      obtain ⟨v, hv⟩ : ∃ v, F (k + 1) = v := ⟨_, rfl⟩
      rw [hu, hv] at HST
      rw [hu] at p1
      rw [hv] at p0
      clear hq hu hv
      replace p0 := cell_kept hb1 p0
      replace p1 := cell_kept hb1 p1
      by_cases h : u < v
      · have HN := Lib.hid (show bst F (k + 1) = k + 1 by rw [HST.out, if_pos h])
        go_wp2
        refine wp_region_quiet_kept (by assumption) (by kernel_rfl) ?_
        repeat (first | go_big_quiet_step (fail) | quiet_step (fail))
        refine wpQuiet_nil ?_
        intro w2 hw'
        have hB : Below wr.heap.size wr w2 := by obtain ⟨⟨wk, hb0⟩, hw''⟩ := hw'; rw [hw'']; exact hb0
        have HB2 := Lib.hid (HB.out.trans (hB.mono HB.out.size))
        clear hw' hB p0 p1
        go_wp2
        go_roundw
        case rel => exact ⟨k + 1, by omega, by rw [HN.out]; go_num, by go_num, HB2⟩
        case measure => simp [intOf]; omega
      · have HN := Lib.hid (show bst F (k + 1) = q by rw [HST.out, if_neg h])
        have d0 : decide (u < v) = false := decide_eq_false h
        go_wp2
        refine wp_region_quiet_kept (by assumption) (by kernel_rfl) ?_
        repeat (first | go_big_quiet_step (fail) | quiet_step (fail))
        refine wpQuiet_nil ?_
        intro w2 hw'
        have hB : Below wr.heap.size wr w2 := by obtain ⟨⟨wk, hb0⟩, hw''⟩ := hw'; rw [hw'']; exact hb0
        have HB2 := Lib.hid (HB.out.trans (hB.mono HB.out.size))
        clear hw' hB p0 p1
        go_wp2
        go_roundw
        case rel => exact ⟨k + 1, by omega, by rw [HN.out], by go_num, HB2⟩
        case measure => simp [intOf]; omega
    · obtain rfl : k = n := by omega
      have hli : ¬ (k : Int) + 1 < (k : Int) + 1 := by omega
      go_wp2
      go_ret
      exact ⟨rfl, HB.out⟩
set_option maxRecDepth 100000 in
set_option maxHeartbeats 2000000 in
theorem maxI {c : Nat} (A : Option Addr) (n : Nat) (F : Nat → Int) (w : World) (hn : n ≤ 1000) (hp : NumAt w A (n + 1) F) :
    Calls Try.prog 110 #[.slice A (n + 1) c] w fun e w' => e = .returned (.int .i64 (F (bst F n))) ∧ w = w' := by
  obtain ⟨b, o, rfl, hb, x0⟩ := hp 0 (by omega)
  rw [Nat.add_zero] at x0
  have HP := Lib.hid hp
  have h0 : (0 : Int) < (n : Int) + 1 := by omega
  have h1 : ¬ (n : Int) + 1 < 1 := by omega
  have h2 : (0 : Nat) < n + 1 := by omega
  clear hp
  go_enter Try.func110, Try.ntmps110
  go_wp2
  clear x0
  go_loop [3, 4] (fun m i => ∃ k : Nat, k ≤ n ∧ i = .int .i64 ((k : Int) + 1) ∧ m = .int .i64 (F (bst F k))) (fun _ i => n + 1 - (intOf i).toNat)
  case atStart => exact ⟨0, Nat.zero_le _, by first | rfl | go_num, rfl⟩
  case round =>
    obtain ⟨k, hk, rfl, rfl⟩ := hrel
    by_cases hlt : k < n
    · have hli : (k : Int) + 1 < (n : Int) + 1 := by omega
      have hkn : k + 1 < n + 1 := by omega
      obtain ⟨b2, o2, e2, hb2, x0⟩ := HP.out (k + 1) (by omega)
      obtain ⟨rfl, rfl⟩ : b2 = b ∧ o2 = o := by
        injection e2 with e2
        injection e2 with e3 e4
        exact ⟨e3.symm, e4.symm⟩
      have HM := Lib.hid (bst_step F k)
      have hmax : ∀ (W : World), (Builtin.max_ #[2, 2] 2 #[.int .i64 (F (bst F k)), .int .i64 (F (k + 1))]).run Try.prog W = .ok (.int .i64 (F (bst F (k + 1)))) W := fun W => by rw [run_max2, HM.out]
      go_wp2
      go_round
      case rel => exact ⟨k + 1, by omega, by go_num, rfl⟩
      case measure => simp [intOf]; omega
    · obtain rfl : k = n := by omega
      have hli : ¬ (k : Int) + 1 < (k : Int) + 1 := by omega
      go_wp2
      go_ret
      exact ⟨rfl, rfl⟩
set_option maxRecDepth 100000 in
set_option maxHeartbeats 2000000 in
theorem indexI {c : Nat} (A : Option Addr) (n : Nat) (F : Nat → Int) (v : Int) (i : Nat) (w : World) (hn : n ≤ 1000) (hp : NumAt w A (n + 1) F) (hi : i ≤ n) (hv : F i = v) (hno : ∀ j, j < i → F j ≠ v) :
    Calls Try.prog 109 #[.slice A (n + 1) c, .int .i64 v] w fun e w' => e = .returned (.int .i64 (i : Int)) ∧ w = w' := by
  have HP := Lib.hid hp
  have HNO := Lib.hid hno
  have HV := Lib.hid hv
  clear hp hno hv
  go_enter Try.func109, Try.ntmps109
  go_wp2
  go_loop [8] (fun j => ∃ k : Nat, k ≤ i ∧ j = .int .i64 (k : Int)) (fun j => n + 1 - (intOf j).toNat)
  case atStart => exact ⟨0, Nat.zero_le _, rfl⟩
  case round =>
    obtain ⟨k, hk, rfl⟩ := hrel
    have hli : (k : Int) < (n : Int) + 1 := by omega
    have hkn : k < n + 1 := by omega
    obtain ⟨b2, o2, rfl, hb2, x0⟩ := HP.out k (by omega)
    by_cases hlt : k < i
    · have hne := HNO.out k hlt
      have hne1 : ¬ v = F k := fun e => hne e.symm
      obtain ⟨u, hu⟩ : ∃ u, F k = u := ⟨_, rfl⟩
      rw [hu] at x0 hne hne1
      have hne2 : (v == u) = false := by simpa using hne1
      clear hu
      go_wp2
      go_round
      case rel => exact ⟨k + 1, by omega, by go_num⟩
      case measure => simp [intOf]; omega
    · obtain rfl : k = i := by omega
      rw [HV.out] at x0
      go_wp2
      go_ret
      exact ⟨rfl, rfl⟩
set_option maxRecDepth 100000 in
set_option maxHeartbeats 2000000 in
theorem bestI {c : Nat} (A : Option Addr) (n : Nat) (F : Nat → Int) (w : World) (hn : n ≤ 1000) (hp : NumAt w A (n + 1) F) :
    Calls Try.prog 84 #[.slice A (n + 1) c] w fun e w' => e = .returned (.int .i64 ((bst F n : Nat) : Int)) ∧ w = w' := by
  have HM := Lib.hid (maxI (c := c) A n F w hn hp)
  have HI := Lib.hid (indexI (c := c) A n F (F (bst F n)) (bst F n) w hn hp (bst_le F n) rfl (fun j hj => by have := bst_first F n j hj; omega))
  clear hp
  go_enter Try.func84, Try.ntmps84
  go_wp2_with fail
  with_reducible refine HM.out.mono ?_
  rintro e _ ⟨rfl, rfl⟩
  go_wp2_with fail
  with_reducible refine HI.out.mono ?_
  rintro e _ ⟨rfl, rfl⟩
  go_wp2
  go_ret
  exact ⟨rfl, rfl⟩
end Go.Proofs.Ytimkochgnjggdaa.bst
