/-
  Proved: what both functions that return the scores of all labels for an input return.
  Conditions: the perceptron is valid, and the input is small.
-/
import Derived.Test.YtimkochgnjggdaaInp
import Derived.Test.YtimkochgnjggdaaPerW
import Derived.Deep.RegionHeld3
import Derived.Deep.DeepCutAuto
namespace Go.Proofs.Ytimkochgnjggdaa.sco
open Go.ChangeShapes Go.WideShapes Go.ChangeAt Go.RowKit Go.Joins
open Go.Proofs.Ytimkochgnjggdaa.core Go.Proofs.Ytimkochgnjggdaa.rown Go.Proofs.Ytimkochgnjggdaa.stk Go.Proofs.Ytimkochgnjggdaa.boxed Go.Proofs.Ytimkochgnjggdaa.ft Go.Proofs.Ytimkochgnjggdaa.one1 Go.Proofs.Ytimkochgnjggdaa.inp Go.Proofs.Ytimkochgnjggdaa.per
set_option linter.unusedVariables false
set_option linter.unusedSimpArgs false
/-- The sum of the first k products. -/
def dot (f x : Nat → Int) : Nat → Int
  | 0 => 0
  | k + 1 => dot f x k + f k * x k
def InX (x : Nat → Int) : Prop := ∀ j, j < 25 → 0 ≤ x j ∧ x j ≤ 513
theorem mul_in {a b : Int} (ha : InW a) (hb : 0 ≤ b ∧ b ≤ 513) : -513000000 ≤ a * b ∧ a * b ≤ 513000000 := by
  unfold InW at ha
  have h1 := Int.mul_le_mul_of_nonneg_right ha.1 hb.1
  have h2 := Int.mul_le_mul_of_nonneg_right ha.2 hb.1
  constructor <;> omega
theorem dot_in {f x : Nat → Int} (hf : ∀ j, j < 25 → InW (f j)) (hx : InX x) : ∀ k : Nat, k ≤ 25 → -(513000000 * (k : Int)) ≤ dot f x k ∧ dot f x k ≤ 513000000 * (k : Int)
  | 0, _ => by unfold dot; omega
  | k + 1, hk => by
    have h1 := dot_in hf hx k (by omega)
    have h2 := mul_in (hf k (by omega)) (hx k (by omega))
    unfold dot
    omega
theorem step_in {f x : Nat → Int} (hf : ∀ j, j < 25 → InW (f j)) (hx : InX x) (k : Nat) (hk : k < 25) : IntKind.i64.wrap (f k * x k) = f k * x k ∧ IntKind.i64.wrap (dot f x k + f k * x k) = dot f x (k + 1) := by
  have h1 := dot_in hf hx k (by omega)
  have h2 := mul_in (hf k hk) (hx k hk)
  exact ⟨IntWalk.i64_in _ (by omega), by rw [IntWalk.i64_in _ (by omega)]; rfl⟩
set_option maxRecDepth 100000 in
set_option maxHeartbeats 2000000 in
theorem dotI {c d : Nat} (b : Nat) (A B : Option Addr) (f x : Nat → Int) (w : World) (hb : b < w.heap.size) (c0 : w.cell? ⟨b, 0, none⟩ = some (.slice B 25 d)) (hp : NumAt w A 25 f) (hq : NumAt w B 25 x) (hf : ∀ j, j < 25 → InW (f j)) (hx : InX x) :
    Calls Try.prog 126 #[.slice A 25 c, .pointer (some ⟨b, 0, none⟩)] w fun e w' => e = .returned (.int .i64 (dot f x 25)) ∧ w = w' := by
  have HP := Lib.hid hp
  have HQ := Lib.hid hq
  have HST := Lib.hid (step_in hf hx)
  clear hp hq hf hx
  go_enter Try.func126, Try.ntmps126
  go_wp2
  go_loop [4, 9] (fun s i => ∃ k : Nat, k ≤ 25 ∧ s = .int .i64 (dot f x k) ∧ i = .int .i64 (k : Int)) (fun _ i => 25 - (intOf i).toNat)
  case atStart => exact ⟨0, Nat.zero_le _, rfl, rfl⟩
  case round =>
    obtain ⟨k, hk, rfl, rfl⟩ := hrel
    by_cases hlt : k < 25
    · obtain ⟨b1, o1, rfl, hb1, p0⟩ := HP.out k hlt
      obtain ⟨b2, o2, rfl, hb2, p1⟩ := HQ.out k hlt
      have hli : (k : Int) < 25 := by omega
      obtain ⟨e1, e2⟩ := HST.out k hlt
      obtain ⟨u, hu⟩ : ∃ u, dot f x k = u := ⟨_, rfl⟩
      obtain ⟨v, hv⟩ : ∃ v, dot f x (k + 1) = v := ⟨_, rfl⟩
      obtain ⟨y, hy⟩ : ∃ y, f k = y := ⟨_, rfl⟩
      obtain ⟨z, hz⟩ : ∃ z, x k = z := ⟨_, rfl⟩
      rw [hu, hv, hy, hz] at e2
      rw [hy, hz] at e1
      rw [hy] at p0
      rw [hz] at p1
      rw [hu]
      have HV := Lib.hid hv
      clear hu hv hy hz
      go_wp2
      go_round
      case rel => exact ⟨k + 1, by omega, by rw [HV.out], by go_num⟩
      case measure => simp [intOf]; omega
    · obtain rfl : k = 25 := by omega
      go_wp2
      go_ret
      exact ⟨rfl, rfl⟩
theorem mixedC : Try.prog.follows .mixedOrders = true := by kernel_rfl
theorem one_newC {w : World} {a : Value} {E H : Nat} (h : w.heap.size = H) : ∀ j u, [a][j]? = some u → (w.alloc (.cells #[a] E)).cell? ((⟨H, 0, none⟩ : Addr).add j) = some u := by
  subst h
  exact new_cells (l := [a])
/-- The scores of all rows. -/
def scr (wf : Nat → Nat → Int) (x : Nat → Int) (i : Nat) : Int := dot (wf i) x 25
set_option maxRecDepth 100000 in
set_option maxHeartbeats 8000000 in
theorem scoresS {d dx : Nat} (b0 q : Nat) (B X : Option Addr) (n : Nat) (wn : Nat → Nat) (wf : Nat → Nat → Int) (x : Nat → Int) (w : World) (hb0 : b0 < w.heap.size) (c1 : w.cell? ⟨b0, q + 1, none⟩ = some (.slice B n d)) (hn : n ≤ 12) (hw : ∀ i, i < n → RowOk (wn i) (wf i)) (hx : InX x) (hp : WsAt w B n wn wf) (hq : NumAt w X 25 x) :
    Calls Try.prog 80 #[.pointer (some ⟨b0, q, none⟩), .slice X 25 dx] w fun e w' => ∃ v, e = .returned v ∧ w'.ownsRow w.heap.size 2 1 v n (rws (one (scr wf x)) n) ∧ Below w.heap.size w w' := by
  obtain ⟨i0, hi0, hz0, hz1, hz2⟩ := rown.info_get infoI
  have hmix := mixedC
  have HP := Lib.hid hp
  have HQ := Lib.hid hq
  have HW := Lib.hid hw
  have C1 := Lib.hid c1
  have HST := Lib.hid (fun i (hi : i < n) => step_in (hw i hi).2 hx)
  have HE := Lib.hid (empty_row w 2 1)
  have BE := Lib.hid (below_alloc1 w (.cells #[] 2))
  clear hp hq hw c1
  go_enter Try.func80, Try.ntmps80
  go_wp2
  go_loopw [5, 6] (fun o i w' => ∃ (j C : Nat) (D : Option Addr), j ≤ n ∧ i = .int .i64 (j : Int) ∧ o = .slice D j C ∧ Hid (w'.ownsRow w.heap.size 2 1 (.slice D j C) j (rws (one (scr wf x)) j)) ∧ Hid (Below w.heap.size w w')) (fun _ i _ => n - (intOf i).toNat)
  case atStart => exact ⟨0, 0, _, Nat.zero_le _, rfl, rfl, HE, BE⟩
  case round =>
    obtain ⟨j, C, D, hj, rfl, rfl, HO, HB⟩ := hrel
    have q1 := (HB.out.cell (p := ⟨b0, q + 1, none⟩) hb0).trans C1.out
    have hbr := Nat.lt_of_lt_of_le hb0 HB.out.size
    by_cases hlt : j < n
    · obtain ⟨b1, o1, Ai, ci, rfl, hb1, p0, hrow⟩ := (HP.out.kept HB.out) j hlt
      rw [(HW.out j hlt).1] at p0 hrow
      have HRW := Lib.hid hrow
      have HQR := Lib.hid (HQ.out.kept HB.out)
      have hli : (j : Int) < (n : Int) := by omega
      have HSJ := Lib.hid (HST.out j hlt)
      have HSE := Lib.hid (show dot (wf j) x 25 = scr wf x j from rfl)
      obtain ⟨f, hf⟩ : ∃ f, wf j = f := ⟨_, rfl⟩
      rw [hf] at HRW HSJ HSE
      have P0 := Lib.hid p0
      have Q1 := Lib.hid q1
      clear hrow hf
      go_wp2
      clear p0 q1
      go_loopw [7, 8] (fun s i w' => ∃ k : Nat, k ≤ 25 ∧ s = .int .i64 (dot f x k) ∧ i = .int .i64 (k : Int) ∧ Hid (Below wr.heap.size wr w')) (fun _ i _ => 25 - (intOf i).toNat)
      case atStart => exact ⟨0, Nat.zero_le _, rfl, rfl, Lib.hid (Below.refl _ _)⟩
      case round =>
        rename_i wq
        obtain ⟨k, hk, rfl, rfl, HB2⟩ := hrel
        by_cases hlt2 : k < 25
        · obtain ⟨b2, o2, rfl, hb2, p1⟩ := (HRW.out.kept HB2.out) k hlt2
          obtain ⟨b3, o3, rfl, hb3, p2⟩ := (HQR.out.kept HB2.out) k hlt2
          have p0 := (HB2.out.cell (p := ⟨b1, o1 + j, none⟩) hb1).trans P0.out
          have q1 := (HB2.out.cell (p := ⟨b0, q + 1, none⟩) hbr).trans Q1.out
          have hki : (k : Int) < 25 := by omega
          have z0 := Nat.lt_of_lt_of_le hbr HB2.out.size
          have z1 := Nat.lt_of_lt_of_le hb1 HB2.out.size
          obtain ⟨e1, e2⟩ := HSJ.out k hlt2
          obtain ⟨u, hu⟩ : ∃ u, dot f x k = u := ⟨_, rfl⟩
          obtain ⟨v, hv⟩ : ∃ v, dot f x (k + 1) = v := ⟨_, rfl⟩
          obtain ⟨y, hy⟩ : ∃ y, f k = y := ⟨_, rfl⟩
          obtain ⟨z, hz⟩ : ∃ z, x k = z := ⟨_, rfl⟩
          rw [hu, hv, hy, hz] at e2
          rw [hy, hz] at e1
          rw [hy] at p1
          rw [hz] at p2
          rw [hu]
          have HV := Lib.hid hv
          clear hu hv hy hz
          replace p0 := cell_kept z1 p0
          replace q1 := cell_kept z0 q1
          replace p1 := cell_kept hb2 p1
          replace p2 := cell_kept hb3 p2
          go_wp2
          refine wp_region_quiet_kept (by assumption) (by kernel_rfl) ?_
          repeat (first | go_big_quiet_step (fail) | quiet_step (fail))
          refine wpQuiet_nil ?_
          intro w2 hw'
          have hB : Below wr.heap.size wr w2 := by obtain ⟨⟨wk, hb0⟩, hw''⟩ := hw'; rw [hw'']; exact hb0
          have HB3 := Lib.hid (HB2.out.trans (hB.mono HB2.out.size))
          clear hw' hB p0 q1 p1 p2 e1 e2
          go_wp2
          go_roundw
          case rel => exact ⟨k + 1, by omega, by rw [HV.out], by go_num, HB3⟩
          case measure => simp [intOf]; omega
        · obtain rfl : k = 25 := by omega
          rw [HSE.out]
          obtain ⟨u, hu⟩ : ∃ u, scr wf x j = u := ⟨_, rfl⟩
          have HX := Lib.hid (show rws (one (scr wf x)) (j + 1) = rws (one (scr wf x)) j ++ [.int .i64 u] by rw [rws_succ]; unfold one; rw [hu])
          rw [hu]
          have HO2 := Lib.hid (rown.ownsRow_kept HO.out HB2.out)
          have HBX := Lib.hid (HB.out.trans (HB2.out.mono HB.out.size))
          clear hu
          go_wp2_with (first
            | (at_builtin
               have z0 := rown.ownsRow_kept HO2.out (below_alloc1 wr (.cells #[.int .i64 u] 2))
               have z2 : ∀ u' ∈ [Value.int .i64 u], u'.oneCell' = true := (by simp [Value.oneCell'])
               have z3 : j + 1 ≤ maxLen := (by simp only [maxLen]; omega)
               have z4 : (j + 1) * 8 ≤ 140737488355328 := (by omega)
               have z5 : w.heap.size ≤ (wr.alloc (.cells #[.int .i64 u] 2)).heap.size := (Nat.le_trans HBX.out.size (by simp))
               refine wpList_append_lies (wr.alloc (.cells #[.int .i64 u] 2)) rfl _ _ 24 rfl w.heap.size 2 i0 _ 1 8 Try.underlying24 hi0 hz0 hz1 hz2 rfl (by decide) (.slice D j C) j _ rfl z0 ⟨wr.heap.size, 0, none⟩ 1 1 [.int .i64 u] rfl rfl (one_newC rfl) z2 (by decide) z3 z4 z5 _ rfl ?_
               intro g3 cap3 w5 hown1 hgr hat hlt3
               have HO4 := Lib.hid hown1
               have HB4 := Lib.hid (HBX.out.trans (rown.under HO2.out HBX.out.size hgr))
               clear hown1 hgr hat z0 z2 z3 z4 z5))
          go_roundw
          case rel => exact ⟨j + 1, cap3, some ⟨g3, 0, none⟩, by omega, by go_num, rfl, Lib.hid (by rw [HX.out]; exact HO4.out), HB4⟩
          case measure => simp [intOf]; omega
    · obtain rfl : j = n := by omega
      go_wp2
      go_ret
      exact ⟨_, rfl, HO.out, HB.out⟩
end Go.Proofs.Ytimkochgnjggdaa.sco
