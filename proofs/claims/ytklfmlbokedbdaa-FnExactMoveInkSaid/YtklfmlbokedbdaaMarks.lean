/-
  Proved: marking all points of ink in blocks of its own leaves the marks there, and they are found again (contracts of callees of the laws on functions that return ink).
  Conditions: the ink lies in blocks of its own.
-/
import Derived.Test.YtklfmlbokedbdaaOwned
namespace Go.Proofs.Ytklfmlbokedbdaa.owned
open Go.ChangeShapes Go.WideShapes Go.ChangeAt Go.RowKit Go.Joins
open Go.Proofs.Ytklfmlbokedbdaa.join Go.Proofs.Ytklfmlbokedbdaa.strokes Go.Proofs.Ytklfmlbokedbdaa.valid Go.Proofs.Ytklfmlbokedbdaa.inks
set_option linter.unusedVariables false

set_option maxRecDepth 100000 in
set_option maxHeartbeats 2000000 in
theorem heldPointS_calls {c : Nat} (g n k : Nat) (w : World) (hcap : k + 3 * n ≤ 9000000000000000000) (hp : OwnPts w g (mP k n)) :
    Calls Try.prog 87 #[.slice (some ⟨g, 0, none⟩) n c, .int .i64 (k : Int)] w fun e w' => e = .returned (.int .i64 ((k + 3 * n : Nat) : Int)) ∧ w = w' := by
  have HP := Lib.hid hp
  have hgz := hp.lt
  clear hp
  go_enter Try.func87, Try.ntmps87
  go_wp2
  go_loopw [1, 5] (fun m i w' => ∃ j : Nat, j ≤ n ∧ i = .int .i64 (j : Int) ∧ m = .int .i64 ((k + 3 * j : Nat) : Int) ∧ w = w') (fun _ i _ => n - (intOf i).toNat)
  case atStart => exact ⟨0, Nat.zero_le _, rfl, rfl, rfl⟩
  case round =>
    obtain ⟨j, hj, rfl, rfl, rfl⟩ := hrel
    by_cases hlt : j < n
    · obtain ⟨c0, c1, c2⟩ := HP.out.1 j _ (mP_at hlt)
      have hli : (j : Int) < (n : Int) := by omega
      dsimp only at c0 c1 c2
      have e1 : ((k + 3 * j + 1 : Nat) : Int) = ((k + 3 * j : Nat) : Int) + 1 := by omega
      have e2 : ((k + 3 * j + 2 : Nat) : Int) = ((k + 3 * j : Nat) : Int) + 1 + 1 := by omega
      rw [e1] at c1
      rw [e2] at c2
      clear e1 e2
      obtain ⟨m, hm⟩ : ∃ m, m = k + 3 * j := ⟨_, rfl⟩
      rw [← hm] at c0 c1 c2
      rw [← hm]
      have hmc : m ≤ 9000000000000000000 - 3 := by omega
      go_wp2
      go_roundw
      case rel => exact ⟨j + 1, by omega, by go_num, by go_num, by trivial⟩
      case measure => simp [intOf]; omega
    · obtain rfl : j = n := by omega
      go_wp2
      go_ret
      exact ⟨rfl, by trivial⟩

theorem pre_mono {F : Nat → List P3} {i n : Nat} (h : i ≤ n) : pre F i ≤ pre F n := by
  induction n with
  | zero => obtain rfl : i = 0 := by omega
            exact Nat.le_refl _
  | succ n ih =>
    by_cases e : i = n + 1
    · subst e; exact Nat.le_refl _
    · have := ih (by omega)
      simp only [pre]
      omega
theorem pre_succ (F : Nat → List P3) (i : Nat) : pre F (i + 1) = pre F i + (F i).length := rfl
theorem mI_len (k : Nat) (F : Nat → List P3) (i : Nat) : (mI k F i).length = (F i).length := by simp [mI, mP_len]
theorem pre_same {F F' : Nat → List P3} {n : Nat} (h : ∀ i, i < n → (F' i).length = (F i).length) : pre F' n = pre F n := by
  induction n with
  | zero => rfl
  | succ n ih => simp only [pre]; rw [ih fun i hi => h i (by omega), h n (by omega)]

set_option maxRecDepth 100000 in
set_option maxHeartbeats 2000000 in
theorem markStrokeS_some {lo hi c : Nat} (G : Nat) (gs : Nat → Nat) (n k : Nat) (F : Nat → List P3) (w : World) (hn : n ≤ 1048576) (hcap : k + 3 * pre F n ≤ 9000000000000000000) (hp : Own lo hi w G gs n F) :
    Calls Try.prog 71 #[.slice (some ⟨G, 0, none⟩) n c, .int .i64 (k : Int)] w fun e w' => e = .returned (.int .i64 ((k + 3 * pre F n : Nat) : Int)) ∧ Own lo hi w' G gs n (mI k F) ∧ Only lo hi w w' := by
  have HP := Lib.hid hp
  have HC := Lib.hid hcap
  clear hp hcap
  go_enter Try.func71, Try.ntmps71
  go_wp2
  go_loopw [1, 5] (fun m i w' => ∃ j : Nat, j ≤ n ∧ i = .int .i64 (j : Int) ∧ m = .int .i64 ((k + 3 * pre F j : Nat) : Int) ∧ Hid (Own lo hi w' G gs n (fun i => if i < j then mI k F i else F i)) ∧ Hid (Only lo hi w w')) (fun _ i _ => n - (intOf i).toNat)
  case atStart => exact ⟨0, Nat.zero_le _, rfl, rfl, Lib.hid (HP.out.cast fun i _ => by simp), Lib.hid (Only.refl _ _ _)⟩
  case round =>
    clear HP
    obtain ⟨j, hj, rfl, rfl, HG, HO⟩ := hrel
    by_cases hlt : j < n
    · obtain ⟨d, hc⟩ := HG.out.at_ j hlt
      have hpt := HG.out.pts j hlt
      simp only [Nat.lt_irrefl, if_false] at hc hpt
      have hgz : G < wr.heap.size := Nat.lt_of_lt_of_le HG.out.ghi HG.out.top
      have hin := HG.out.inn j hlt
      have hli : (j : Int) < (n : Int) := by omega
      have h1 : k + 3 * pre F j + 3 * (F j).length ≤ 9000000000000000000 := by
        have := HC.out
        have := pre_mono (F := F) (show j + 1 ≤ n by omega)
        rw [pre_succ] at this
        omega
      have HPT := Lib.hid hpt
      have H1 := Lib.hid h1
      clear hpt h1
      go_wp2_with fail
      refine (markPointS_calls (gs j) (F j).length (k + 3 * pre F j) (F j) _ rfl H1.out HPT.out).mono ?_
      rintro e w2 ⟨rfl, hq, ho⟩
      have HG2 := Lib.hid ((HG.out.turn hlt ho hq (by simp [mP_len])).cast (F' := fun i => if i < j + 1 then mI k F i else F i) fun i hi_ => by
        by_cases e : i = j
        · subst e
          simp [mI]
        · by_cases e' : i < j
          · simp [e, e', show i < j + 1 by omega]
          · simp [e, e', show ¬ i < j + 1 by omega])
      have HO2 := Lib.hid (HO.out.trans (ho.mono hin.1 (by omega)))
      clear hq ho HG HO hc
      have e3 : ((k + 3 * pre F j + 3 * (F j).length : Nat) : Int) = ((k + 3 * pre F (j + 1) : Nat) : Int) := by rw [pre_succ]; omega
      rw [e3]
      clear e3
      go_wp2
      go_roundw
      case rel => exact ⟨j + 1, by omega, by go_num, rfl, HG2, HO2⟩
      case measure => simp [intOf]; omega
    · obtain rfl : j = n := by omega
      have HF := Lib.hid (HG.out.cast (F' := mI k F) fun i hi_ => by simp [hi_])
      clear HG
      go_wp2
      go_ret
      exact ⟨rfl, HF.out, HO.out⟩

set_option maxHeartbeats 1000000 in
theorem markStrokeS_none {c k : Nat} (A : Option Addr) (w : World) :
    Calls Try.prog 71 #[.slice A 0 c, .int .i64 (k : Int)] w fun e w' => e = .returned (.int .i64 (k : Int)) ∧ w = w' := by
  go_enter Try.func71, Try.ntmps71
  go_wp2
  go_loopw [1, 5] (fun m i w' => i = .int .i64 0 ∧ m = .int .i64 (k : Int) ∧ w = w') (fun _ _ _ => 0)
  case atStart => exact ⟨rfl, rfl, rfl⟩
  case round =>
    obtain ⟨rfl, rfl, rfl⟩ := hrel
    go_wp2
    go_ret
    exact ⟨rfl, by trivial⟩

set_option maxHeartbeats 1000000 in
theorem markInk_calls {lo hi c : Nat} (A : Option Addr) (n k : Nat) (F : Nat → List P3) (w : World) (hn : n ≤ 1048576) (hcap : k + 3 * pre F n ≤ 9000000000000000000) (hp : OwnInk lo hi w A n F) :
    Calls Try.prog 38 #[.agg #[.slice A n c], .int .i64 (k : Int)] w fun e w' => e = .returned (.int .i64 ((k + 3 * pre F n : Nat) : Int)) ∧ OwnInk lo hi w' A n (mI k F) ∧ Only lo hi w w' := by
  rcases hp with rfl | ⟨G, gs, rfl, hp⟩
  · simp only [pre, Nat.mul_zero, Nat.add_zero]
    go_enter Try.func38, Try.ntmps38
    go_wp2_with fail
    refine (markStrokeS_none A _).mono ?_
    rintro e w1 ⟨rfl, rfl⟩
    go_wp2
    go_ret
    exact ⟨rfl, .inl rfl, Only.of_below (below_alloc1 _ _)⟩
  · have HP := Lib.hid (hp.kept (below_alloc1 w (.cells #[.slice (some ⟨G, 0, none⟩) n c] 40)))
    clear hp
    go_enter Try.func38, Try.ntmps38
    go_wp2_with fail
    refine (markStrokeS_some G gs n k F _ hn hcap HP.out).mono ?_
    rintro e w1 ⟨rfl, ho, hw⟩
    have HO := Lib.hid ho
    have HW := Lib.hid ((Only.of_below (below_alloc1 w _)).trans hw)
    clear ho hw
    go_wp2
    go_ret
    exact ⟨rfl, .inr ⟨G, gs, rfl, HO.out⟩, HW.out⟩

set_option maxHeartbeats 1000000 in
theorem markStroke_calls {c : Nat} (g n k : Nat) (pts : List P3) (w : World) (hn : pts.length = n) (hcap : k + 3 * n ≤ 9000000000000000000) (hp : OwnPts w g pts) :
    Calls Try.prog 39 #[.agg #[.slice (some ⟨g, 0, none⟩) n c], .int .i64 (k : Int)] w fun e w' => e = .returned (.int .i64 ((k + 3 * n : Nat) : Int)) ∧ Only g (g + 1) w w' := by
  have HP := Lib.hid (hp.same ((below_alloc1 w (.cells #[.slice (some ⟨g, 0, none⟩) n c] 29)).block _ hp.lt))
  clear hp
  go_enter Try.func39, Try.ntmps39
  go_wp2_with fail
  refine (markPointS_calls g n k pts _ hn hcap HP.out).mono ?_
  rintro e w1 ⟨rfl, -, hw⟩
  have HW := Lib.hid ((Only.of_below (below_alloc1 w _)).trans hw)
  clear hw
  go_wp2
  go_ret
  exact ⟨rfl, HW.out⟩

set_option maxRecDepth 100000 in
set_option maxHeartbeats 2000000 in
theorem heldStrokeS_some {lo hi c : Nat} (G : Nat) (gs : Nat → Nat) (n k : Nat) (F : Nat → List P3) (w : World) (hn : n ≤ 1048576) (hcap : k + 3 * pre F n ≤ 9000000000000000000) (hp : Own lo hi w G gs n (mI k F)) :
    Calls Try.prog 73 #[.slice (some ⟨G, 0, none⟩) n c, .int .i64 (k : Int)] w fun e w' => e = .returned (.int .i64 ((k + 3 * pre F n : Nat) : Int)) ∧ w = w' := by
  have HP := Lib.hid hp
  have HC := Lib.hid hcap
  have hgz : G < w.heap.size := Nat.lt_of_lt_of_le hp.ghi hp.top
  clear hp hcap
  go_enter Try.func73, Try.ntmps73
  go_wp2
  go_loopw [1, 5] (fun m i w' => ∃ j : Nat, j ≤ n ∧ i = .int .i64 (j : Int) ∧ m = .int .i64 ((k + 3 * pre F j : Nat) : Int) ∧ w = w') (fun _ i _ => n - (intOf i).toNat)
  case atStart => exact ⟨0, Nat.zero_le _, rfl, rfl, rfl⟩
  case round =>
    obtain ⟨j, hj, rfl, rfl, rfl⟩ := hrel
    by_cases hlt : j < n
    · obtain ⟨d, hc⟩ := HP.out.at_ j hlt
      have hpt := HP.out.pts j hlt
      rw [mI_len] at hc
      have hli : (j : Int) < (n : Int) := by omega
      have h1 : k + 3 * pre F j + 3 * (F j).length ≤ 9000000000000000000 := by
        have := HC.out
        have := pre_mono (F := F) (show j + 1 ≤ n by omega)
        rw [pre_succ] at this
        omega
      have HPT := Lib.hid hpt
      have H1 := Lib.hid h1
      clear hpt h1
      go_wp2_with fail
      refine (heldPointS_calls (gs j) (F j).length (k + 3 * pre F j) _ H1.out HPT.out).mono ?_
      rintro e w2 ⟨rfl, rfl⟩
      clear hc
      have e3 : ((k + 3 * pre F j + 3 * (F j).length : Nat) : Int) = ((k + 3 * pre F (j + 1) : Nat) : Int) := by rw [pre_succ]; omega
      rw [e3]
      clear e3
      have e4 : ¬ ((((k + 3 * pre F (j + 1) : Nat) : Int)) < 0) := by omega
      go_wp2
      go_roundw
      case rel => exact ⟨j + 1, by omega, by go_num, rfl, by trivial⟩
      case measure => simp [intOf]; omega
    · obtain rfl : j = n := by omega
      go_wp2
      go_ret
      exact ⟨rfl, by trivial⟩

set_option maxHeartbeats 1000000 in
theorem heldStrokeS_none {c k : Nat} (A : Option Addr) (w : World) :
    Calls Try.prog 73 #[.slice A 0 c, .int .i64 (k : Int)] w fun e w' => e = .returned (.int .i64 (k : Int)) ∧ w = w' := by
  go_enter Try.func73, Try.ntmps73
  go_wp2
  go_loopw [1, 5] (fun m i w' => i = .int .i64 0 ∧ m = .int .i64 (k : Int) ∧ w = w') (fun _ _ _ => 0)
  case atStart => exact ⟨rfl, rfl, rfl⟩
  case round =>
    obtain ⟨rfl, rfl, rfl⟩ := hrel
    go_wp2
    go_ret
    exact ⟨rfl, by trivial⟩

set_option maxHeartbeats 1000000 in
theorem heldInk_calls {lo hi c : Nat} (A : Option Addr) (n k : Nat) (F : Nat → List P3) (w : World) (hn : n ≤ 1048576) (hcap : k + 3 * pre F n ≤ 9000000000000000000) (hp : OwnInk lo hi w A n (mI k F)) :
    Calls Try.prog 40 #[.agg #[.slice A n c], .int .i64 (k : Int)] w fun e w' => e = .returned (.int .i64 ((k + 3 * pre F n : Nat) : Int)) ∧ Below w.heap.size w w' := by
  have e4 : ¬ ((((k + 3 * pre F n : Nat) : Int)) < 0) := by omega
  rcases hp with rfl | ⟨G, gs, rfl, hp⟩
  · simp only [pre, Nat.mul_zero, Nat.add_zero] at e4 ⊢
    go_enter Try.func40, Try.ntmps40
    go_wp2_with fail
    refine (heldStrokeS_none A _).mono ?_
    rintro e w1 ⟨rfl, rfl⟩
    go_wp2
    go_ret
    exact ⟨rfl, below_alloc1 _ _⟩
  · have HP := Lib.hid (hp.kept (below_alloc1 w (.cells #[.slice (some ⟨G, 0, none⟩) n c] 40)))
    clear hp
    go_enter Try.func40, Try.ntmps40
    go_wp2_with fail
    refine (heldStrokeS_some G gs n k F _ hn hcap HP.out).mono ?_
    rintro e w1 ⟨rfl, rfl⟩
    go_wp2
    go_ret
    exact ⟨rfl, below_alloc1 _ _⟩
end Go.Proofs.Ytklfmlbokedbdaa.owned
