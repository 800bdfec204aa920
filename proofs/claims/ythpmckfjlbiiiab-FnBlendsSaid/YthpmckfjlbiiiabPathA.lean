/-
  Proved: what the document's source draws as a path for two sequences.
  Conditions: none.
-/
import Derived.Test.YthpmckfjlbiiiabDraw
import Derived.Test.YthpmckfjlbiiiabRevP
namespace Go.Proofs.Ythpmckfjlbiiiab.src
open Go.ChangeShapes Go.WideShapes Go.ChangeAt Go.RowKit Go.Joins
open Go.Proofs.Ythpmckfjlbiiiab.core Go.Proofs.Ythpmckfjlbiiiab.rown Go.Proofs.Ythpmckfjlbiiiab.stk Go.Proofs.Ythpmckfjlbiiiab.boxed Go.Proofs.Ythpmckfjlbiiiab.ft Go.Proofs.Ythpmckfjlbiiiab.seq Go.Proofs.Ythpmckfjlbiiiab.path
set_option linter.unusedVariables false
set_option linter.unusedSimpArgs false
theorem BytesAt.up {w : World} {L L' : Nat} {A : Option Addr} {n : Nat} (h : BytesAt w L A n) (hl : L ≤ L') : BytesAt w L' A n := fun i hi => by
  obtain ⟨b, o, v, e, h1, h2, h3, h4⟩ := h i hi
  exact ⟨b, o, v, e, by omega, h2, h3, h4⟩
def push2 (f : Nat → P2) (m : Nat) (p : P2) : Nat → P2 := fun j => if j = m then p else f j
theorem rws_push2 (f : Nat → P2) (m : Nat) (p : P2) : rws (sp2 (push2 f m p)) (m + 1) = rws (sp2 f) m ++ [.int .i64 p.1, .int .i64 p.2] := by
  rw [rws_succ]
  congr 1
  · exact rws_congr m fun i hi => by unfold sp2 push2; rw [if_neg (by omega)]
  · unfold sp2 push2; rw [if_pos rfl]
/-- The pairs lead from the first one to one of the lists'. -/
def preP (k : Nat) (f : Nat → P2) (i j N M : Nat) : Prop := ((f 0).1 = 0 ∧ (f 0).2 = 0) ∧ ((f k).1 = (i : Int) ∧ (f k).2 = (j : Int)) ∧ ∀ x, x < k + 1 → okAt f ((N : Int) + 1) ((M : Int) + 1) 72 x
theorem pre0 (N M : Nat) : preP 0 (fun _ => (0, 0)) 0 0 N M := by
  refine ⟨⟨rfl, rfl⟩, ⟨rfl, rfl⟩, fun x hx => ⟨?_, fun h => absurd h (by omega)⟩⟩
  unfold inP absv
  simp only
  omega
theorem pre_step {k i j i' j' N M : Nat} {f : Nat → P2} (h : preP k f i j N M) (h1 : i' ≤ N) (h2 : j' ≤ M) (hN : N ≤ 60) (hM : M ≤ 60) (hi : i ≤ i' ∧ i' ≤ i + 1) (hj : j ≤ j' ∧ j' ≤ j + 1) (hne : ¬ (i = i' ∧ j = j')) : preP (k + 1) (push2 f (k + 1) ((i' : Int), (j' : Int))) i' j' N M := by
  obtain ⟨a, ⟨b1, b2⟩, c⟩ := h
  refine ⟨by unfold push2; rw [if_neg (by omega)]; exact a, by unfold push2; rw [if_pos rfl]; exact ⟨rfl, rfl⟩, fun x hx => ?_⟩
  by_cases hxk : x < k + 1
  · obtain ⟨c1, c2⟩ := c x hxk
    refine ⟨by unfold push2; rw [if_neg (by omega)]; exact c1, fun h0 => ?_⟩
    have := c2 h0
    unfold push2
    rw [if_neg (by omega), if_neg (by omega)]
    exact this
  · obtain rfl : x = k + 1 := by omega
    refine ⟨?_, fun _ => ?_⟩
    · unfold push2
      rw [if_pos rfl]
      unfold inP absv
      simp only
      omega
    · unfold push2
      rw [if_pos rfl, Nat.add_sub_cancel, if_neg (by omega)]
      unfold stepP
      rw [b1, b2]
      simp only
      omega
theorem pre_end {k i j N M : Nat} {f : Nat → P2} (e : N = i ∧ M = j) (h : preP k f i j N M) : okPath (k + 1) f ((N : Int) + 1) ((M : Int) + 1) 72 = true := by
  obtain ⟨rfl, rfl⟩ := e
  obtain ⟨a, ⟨b1, b2⟩, c⟩ := h
  exact okPath_true ⟨by omega, a, by rw [Nat.add_sub_cancel]; omega, c⟩
theorem one_pair (w : World) (x y : Int) : (w.alloc (.cells #[.int .i64 x, .int .i64 y] 59)).ownsRow w.heap.size 59 2 (.slice (some ⟨w.heap.size, 0, none⟩) 1 1) 1 [.int .i64 x, .int .i64 y] :=
  ⟨by simp, .inr ⟨w.heap.size, 1, _, rfl, Nat.le_refl _, heap_alloc_new _ _, Nat.le_refl _, by simp only [maxLen]; omega, rfl, rfl⟩⟩
theorem grownP {w w' : World} {B M base : Nat} {A : Option Addr} {n c : Nat} {o : Obj} {v : Value} {m : Nat} {xs : List Value} (h : Src w B M A n c) (hB : B < base) (hbz : base ≤ w.heap.size) (hown : w.ownsRow base 59 2 v m xs) (hgr : (w.alloc o).grownBy w' v.ownBlock) : Src w' B M A n c ∧ OnlyF (fun k => base ≤ k) w w' := by
  have hl := h.lt
  have hu := under hown hbz hgr
  obtain ⟨⟨a, s, h1, h2, h3⟩, h4⟩ := h
  exact ⟨⟨⟨a, s, (hu.block B hB).trans h1, h2, h3⟩, h4.kept (hu.mono (Nat.le_of_lt hB))⟩, hu.os, hu.tape, hu.output, hu.size, fun k hk hf => hu.block k (by omega)⟩
set_option maxRecDepth 100000 in
set_option maxHeartbeats 16000000 in
theorem patha_calls (A : Option Addr) (n c na nb : Nat) (w : World) (hn : n ≤ 3000) (ha1 : 1 ≤ na) (ha : na ≤ 8) (hb1 : 1 ≤ nb) (hb : nb ≤ 8) (h : BytesAt w w.heap.size A n) :
    Calls Try.prog 26 #[.slice A n c, .int .i64 (na : Int), .int .i64 (nb : Int)] w fun e w' => ∃ (g C k : Nat) (f : Nat → P2), okPath k f (na : Int) (nb : Int) 72 = true ∧ 1 ≤ k ∧ k ≤ 16 ∧ e = .returned (.slice (some ⟨g, 0, none⟩) k C) ∧ w'.ownsRow w.heap.size 59 2 (.slice (some ⟨g, 0, none⟩) k C) k (rws (sp2 f) k) ∧ Below w.heap.size w w' := by
  obtain ⟨i0, hi0, hz0, hz1, hz2⟩ := rown.info_get infoPair
  obtain ⟨N, rfl⟩ : ∃ N, na = N + 1 := ⟨na - 1, by omega⟩
  obtain ⟨M, rfl⟩ : ∃ M, nb = M + 1 := ⟨nb - 1, by omega⟩
  have H0 := Lib.hid (from_calls A n c w h)
  have hcn : (((N + 1 : Nat)) : Int) = (N : Int) + 1 := by omega
  have hcm : (((M + 1 : Nat)) : Int) = (M : Int) + 1 := by omega
  rw [hcn, hcm]
  clear h hcn hcm
  go_enter Try.func26, Try.ntmps26
  go_wp2_with fail
  refine H0.out.mono ?_
  rintro e w1 ⟨rfl, hs, hb⟩
  have BB1 := Lib.hid hb
  have hsz : w.heap.size < w1.heap.size := hs.lt
  have b1 := below_alloc1 w1 (.cells #[.int .i64 0, .int .i64 0] 59)
  have HO1 := Lib.hid (one_pair w1 0 0)
  have HS1 := Lib.hid (hs.kept b1)
  have HQ1 : Hid (OnlyF (fun k => nB w.heap.size w1.heap.size k) w1 (w1.alloc (.cells #[.int .i64 0, .int .i64 0] 59))) := Lib.hid (OnlyF.of_below b1)
  clear hs hb H0 b1
  go_wp2
  go_loopw [8, 9, 10] (fun vi vj o w' => ∃ (i j k gb C : Nat) (f : Nat → P2), i ≤ N ∧ j ≤ M ∧ k ≤ i + j ∧ vi = .int .i64 (i : Int) ∧ vj = .int .i64 (j : Int) ∧ o = .slice (some ⟨gb, 0, none⟩) (k + 1) C ∧ Hid (preP k f i j N M) ∧ Hid (w'.ownsRow w1.heap.size 59 2 (.slice (some ⟨gb, 0, none⟩) (k + 1) C) (k + 1) (rws (sp2 f) (k + 1))) ∧ Hid (Src w' w.heap.size (2 * (i + j)) A n c) ∧ Hid (OnlyF (fun k => nB w.heap.size w1.heap.size k) w1 w')) (fun vi vj _ _ => N + M - ((intOf vi).toNat + (intOf vj).toNat))
  case atStart => exact ⟨0, 0, 0, _, _, fun _ => (0, 0), by omega, by omega, by omega, rfl, rfl, rfl, Lib.hid (pre0 N M), HO1, HS1, HQ1⟩
  case round =>
    obtain ⟨i, j, k, gb, C, f, hi, hj, hk, rfl, rfl, rfl, HP, HO, HS, HQ⟩ := hrel
    by_cases hend : N = i ∧ M = j
    · have OK := Lib.hid (pre_end hend HP.out)
      have d1 : ¬ (i : Int) < (N : Int) := by omega
      have d2 : ¬ (j : Int) < (M : Int) := by omega
      clear hend
      go_wp2
      go_ret
      exact ⟨gb, C, k + 1, f, OK.out, by omega, by omega, rfl, row_low HO.out (Nat.le_of_lt hsz), BB1.out.trans (HQ.out.below (fun x hx => by rcases hx with e | e <;> omega) BB1.out.size)⟩
    · have HC := Lib.hid (fun W hS => pick_calls w.heap.size (2 * (i + j)) 3 A n c W (by omega) (by omega) hn (by omega) hS)
      have HPK := Lib.hid HP.out.2.1
      rcases Nat.lt_or_ge j M with hjl | hjl
      rotate_left
      · have hjM : (j : Int) = (M : Int) := by omega
        have hil : i < N := by omega
        have c1 : (i : Int) < (N : Int) := by omega
        clear hend hjl hil

        go_wp2_with fail
        refine (HC.out _ (by first | exact HS.out | exact HS.out.kept ((Below.refl _ _).drew))).mono ?_
        rintro e w4 ⟨d, hd, rfl, hs, ho⟩
        have HO4 := Lib.hid (rowS hsz HO.out ho)
        have HQ4 := Lib.hid (HQ.out.trans (toQ ho))
        have HS4 := Lib.hid hs
        have q0 := row_cell HO4.out (sp2_len f) (show k < k + 1 by omega) (show 0 < 2 by omega) (v := .int .i64 (f k).1) rfl
        have q1 := row_cell HO4.out (sp2_len f) (show k < k + 1 by omega) (show 1 < 2 by omega) (v := .int .i64 (f k).2) rfl
        rw [HPK.out.1] at q0
        rw [HPK.out.2] at q1
        rw [Nat.add_zero] at q0
        have hgl4 := row_lt HO4.out
        have hd3 : d = 0 ∨ d = 1 ∨ d = 2 := by omega
        clear hs ho HC HO HQ HS hd
        rcases hd3 with rfl | rfl | rfl
        · rcases Nat.lt_or_ge (i + 1) N with h2 | h2
          · skip
            have HX := Lib.hid (pre_step (i' := i + 1) (j' := j) HP.out (by omega) (by omega) (by omega) (by omega) (by omega) (by omega) (by omega))
            have hkn : k + 1 ≤ 60 := by omega
            have hkk : (k : Int) < (k : Int) + 1 := by omega
            have hk0 : k < k + 1 := by omega
            have Z3 := Lib.hid (show (k + 1) + 1 ≤ maxLen by simp only [maxLen]; omega)
            have Z4 := Lib.hid (show ((k + 1) + 1) * 16 ≤ 140737488355328 by omega)
            have Z5 := Lib.hid (show 2 * (i + j) + 2 ≤ 2 * (i + 1 + (j)) by omega)
            obtain ⟨I1, hV1⟩ : ∃ v : Int, (i : Int) + 1 = v := ⟨_, rfl⟩
            have n1 : ¬ (i : Int) = I1 := by omega
            have w1' : IntKind.i64.wrap ((i : Int) + 1) = I1 := by rw [IntWalk.i64_in _ (by omega)]; exact hV1
            have HV1 := Lib.hid (show I1 = ((i + 1 : Nat) : Int) by omega)
            have c2 : ¬ I1 = (N : Int) := by have := HV1.out; omega
            have e1 : wrap64 ((i : Int) + 1) = I1 := by rw [← IntWalk.i64_left]; exact w1'
            clear hV1
            skip
            go_wp2_with (first
              | (at_builtin
                 have z0 := ownsRow_kept HO4.out (below_alloc1 w4 (.cells #[.int .i64 (I1), .int .i64 ((M : Int))] 59))
                 have z2 : ∀ u ∈ [Value.int .i64 (I1), .int .i64 ((M : Int))], u.oneCell' = true := (by simp [Value.oneCell'])
                 have zb : w1.heap.size ≤ w4.heap.size := HQ4.out.size
                 have z5 : w1.heap.size ≤ (w4.alloc (.cells #[.int .i64 (I1), .int .i64 ((M : Int))] 59)).heap.size := (Nat.le_trans zb (by simp))
                 refine wpList_append_lies (w4.alloc (.cells #[.int .i64 (I1), .int .i64 ((M : Int))] 59)) rfl _ _ 51 rfl w1.heap.size 59 i0 _ 2 16 Try.underlying51 hi0 hz0 hz1 hz2 rfl (by decide) (.slice (some ⟨gb, 0, none⟩) (k + 1) C) (k + 1) _ rfl z0 ⟨w4.heap.size, 0, none⟩ 1 1 [.int .i64 (I1), .int .i64 ((M : Int))] rfl rfl (two_new rfl) z2 (by decide) Z3.out Z4.out z5 _ rfl ?_
                 intro g3 cap3 w5 hown hgr hat hlt3
                 obtain ⟨hs5, hq5⟩ := grownP HS4.out hsz zb HO4.out hgr
                 have HO5 := Lib.hid hown
                 have HS5 := Lib.hid (hs5.mono Z5.out)
                 have HQ5 := Lib.hid (HQ4.out.trans (toQ2 hq5))
                 clear hown hgr hat hs5 hq5 z0 z2 z5 zb HO4 HS4 HQ4 q0 q1 n1 w1' e1))
            go_wp2
            go_roundw
            case rel => exact ⟨i + 1, j, k + 1, g3, cap3, push2 f (k + 1) ((((i + 1 : Nat)) : Int), (((j : Nat)) : Int)), by omega, by omega, by omega, by rw [HV1.out], by go_num, rfl, HX, Lib.hid (by have h := HO5.out; rw [← hjM] at h; rw [HV1.out] at h; rw [rws_push2]; exact h), HS5, HQ5⟩
            case measure => have := HV1.out; simp [intOf]; omega
          · skip
            have HX := Lib.hid (pre_step (i' := i + 1) (j' := j) HP.out (by omega) (by omega) (by omega) (by omega) (by omega) (by omega) (by omega))
            have hkn : k + 1 ≤ 60 := by omega
            have hkk : (k : Int) < (k : Int) + 1 := by omega
            have hk0 : k < k + 1 := by omega
            have Z3 := Lib.hid (show (k + 1) + 1 ≤ maxLen by simp only [maxLen]; omega)
            have Z4 := Lib.hid (show ((k + 1) + 1) * 16 ≤ 140737488355328 by omega)
            have Z5 := Lib.hid (show 2 * (i + j) + 2 ≤ 2 * (i + 1 + (j)) by omega)
            obtain ⟨I1, hV1⟩ : ∃ v : Int, (i : Int) + 1 = v := ⟨_, rfl⟩
            have n1 : ¬ (i : Int) = I1 := by omega
            have w1' : IntKind.i64.wrap ((i : Int) + 1) = I1 := by rw [IntWalk.i64_in _ (by omega)]; exact hV1
            have HV1 := Lib.hid (show I1 = ((i + 1 : Nat) : Int) by omega)
            have c3 : I1 = (N : Int) := by have := HV1.out; omega
            have c2 : decide (I1 = (N : Int)) = true := decide_eq_true c3
            have c2e : (I1 == (N : Int)) = true := by rw [c3]; simp
            clear c3
            have e1 : wrap64 ((i : Int) + 1) = I1 := by rw [← IntWalk.i64_left]; exact w1'
            clear hV1
            skip
            go_wp2_with (first
              | (at_builtin
                 have z0 := ownsRow_kept HO4.out (below_alloc1 w4 (.cells #[.int .i64 (I1), .int .i64 ((M : Int))] 59))
                 have z2 : ∀ u ∈ [Value.int .i64 (I1), .int .i64 ((M : Int))], u.oneCell' = true := (by simp [Value.oneCell'])
                 have zb : w1.heap.size ≤ w4.heap.size := HQ4.out.size
                 have z5 : w1.heap.size ≤ (w4.alloc (.cells #[.int .i64 (I1), .int .i64 ((M : Int))] 59)).heap.size := (Nat.le_trans zb (by simp))
                 refine wpList_append_lies (w4.alloc (.cells #[.int .i64 (I1), .int .i64 ((M : Int))] 59)) rfl _ _ 51 rfl w1.heap.size 59 i0 _ 2 16 Try.underlying51 hi0 hz0 hz1 hz2 rfl (by decide) (.slice (some ⟨gb, 0, none⟩) (k + 1) C) (k + 1) _ rfl z0 ⟨w4.heap.size, 0, none⟩ 1 1 [.int .i64 (I1), .int .i64 ((M : Int))] rfl rfl (two_new rfl) z2 (by decide) Z3.out Z4.out z5 _ rfl ?_
                 intro g3 cap3 w5 hown hgr hat hlt3
                 obtain ⟨hs5, hq5⟩ := grownP HS4.out hsz zb HO4.out hgr
                 have HO5 := Lib.hid hown
                 have HS5 := Lib.hid (hs5.mono Z5.out)
                 have HQ5 := Lib.hid (HQ4.out.trans (toQ2 hq5))
                 clear hown hgr hat hs5 hq5 z0 z2 z5 zb HO4 HS4 HQ4 q0 q1 n1 w1' e1))
            go_wp2
            go_roundw
            case rel => exact ⟨i + 1, j, k + 1, g3, cap3, push2 f (k + 1) ((((i + 1 : Nat)) : Int), (((j : Nat)) : Int)), by omega, by omega, by omega, by rw [HV1.out], by go_num, rfl, HX, Lib.hid (by have h := HO5.out; rw [← hjM] at h; rw [HV1.out] at h; rw [rws_push2]; exact h), HS5, HQ5⟩
            case measure => have := HV1.out; simp [intOf]; omega
        · skip
          have HX := Lib.hid (pre_step (i' := i + 1) (j' := j) HP.out (by omega) (by omega) (by omega) (by omega) (by omega) (by omega) (by omega))
          have hkn : k + 1 ≤ 60 := by omega
          have hkk : (k : Int) < (k : Int) + 1 := by omega
          have hk0 : k < k + 1 := by omega
          have Z3 := Lib.hid (show (k + 1) + 1 ≤ maxLen by simp only [maxLen]; omega)
          have Z4 := Lib.hid (show ((k + 1) + 1) * 16 ≤ 140737488355328 by omega)
          have Z5 := Lib.hid (show 2 * (i + j) + 2 ≤ 2 * (i + 1 + (j)) by omega)
          obtain ⟨I1, hV1⟩ : ∃ v : Int, (i : Int) + 1 = v := ⟨_, rfl⟩
          have n1 : ¬ (i : Int) = I1 := by omega
          have w1' : IntKind.i64.wrap ((i : Int) + 1) = I1 := by rw [IntWalk.i64_in _ (by omega)]; exact hV1
          have HV1 := Lib.hid (show I1 = ((i + 1 : Nat) : Int) by omega)
          have e1 : wrap64 ((i : Int) + 1) = I1 := by rw [← IntWalk.i64_left]; exact w1'
          clear hV1
          skip
          go_wp2_with (first
            | (at_builtin
               have z0 := ownsRow_kept HO4.out (below_alloc1 w4 (.cells #[.int .i64 (I1), .int .i64 ((M : Int))] 59))
               have z2 : ∀ u ∈ [Value.int .i64 (I1), .int .i64 ((M : Int))], u.oneCell' = true := (by simp [Value.oneCell'])
               have zb : w1.heap.size ≤ w4.heap.size := HQ4.out.size
               have z5 : w1.heap.size ≤ (w4.alloc (.cells #[.int .i64 (I1), .int .i64 ((M : Int))] 59)).heap.size := (Nat.le_trans zb (by simp))
               refine wpList_append_lies (w4.alloc (.cells #[.int .i64 (I1), .int .i64 ((M : Int))] 59)) rfl _ _ 51 rfl w1.heap.size 59 i0 _ 2 16 Try.underlying51 hi0 hz0 hz1 hz2 rfl (by decide) (.slice (some ⟨gb, 0, none⟩) (k + 1) C) (k + 1) _ rfl z0 ⟨w4.heap.size, 0, none⟩ 1 1 [.int .i64 (I1), .int .i64 ((M : Int))] rfl rfl (two_new rfl) z2 (by decide) Z3.out Z4.out z5 _ rfl ?_
               intro g3 cap3 w5 hown hgr hat hlt3
               obtain ⟨hs5, hq5⟩ := grownP HS4.out hsz zb HO4.out hgr
               have HO5 := Lib.hid hown
               have HS5 := Lib.hid (hs5.mono Z5.out)
               have HQ5 := Lib.hid (HQ4.out.trans (toQ2 hq5))
               clear hown hgr hat hs5 hq5 z0 z2 z5 zb HO4 HS4 HQ4 q0 q1 n1 w1' e1))
          go_wp2
          go_roundw
          case rel => exact ⟨i + 1, j, k + 1, g3, cap3, push2 f (k + 1) ((((i + 1 : Nat)) : Int), (((j : Nat)) : Int)), by omega, by omega, by omega, by rw [HV1.out], by go_num, rfl, HX, Lib.hid (by have h := HO5.out; rw [← hjM] at h; rw [HV1.out] at h; rw [rws_push2]; exact h), HS5, HQ5⟩
          case measure => have := HV1.out; simp [intOf]; omega
        · skip
          have HX := Lib.hid (pre_step (i' := i + 1) (j' := j) HP.out (by omega) (by omega) (by omega) (by omega) (by omega) (by omega) (by omega))
          have hkn : k + 1 ≤ 60 := by omega
          have hkk : (k : Int) < (k : Int) + 1 := by omega
          have hk0 : k < k + 1 := by omega
          have Z3 := Lib.hid (show (k + 1) + 1 ≤ maxLen by simp only [maxLen]; omega)
          have Z4 := Lib.hid (show ((k + 1) + 1) * 16 ≤ 140737488355328 by omega)
          have Z5 := Lib.hid (show 2 * (i + j) + 2 ≤ 2 * (i + 1 + (j)) by omega)
          obtain ⟨I1, hV1⟩ : ∃ v : Int, (i : Int) + 1 = v := ⟨_, rfl⟩
          have n1 : ¬ (i : Int) = I1 := by omega
          have w1' : IntKind.i64.wrap ((i : Int) + 1) = I1 := by rw [IntWalk.i64_in _ (by omega)]; exact hV1
          have HV1 := Lib.hid (show I1 = ((i + 1 : Nat) : Int) by omega)
          have e1 : wrap64 ((i : Int) + 1) = I1 := by rw [← IntWalk.i64_left]; exact w1'
          clear hV1
          skip
          go_wp2_with (first
            | (at_builtin
               have z0 := ownsRow_kept HO4.out (below_alloc1 w4 (.cells #[.int .i64 (I1), .int .i64 ((M : Int))] 59))
               have z2 : ∀ u ∈ [Value.int .i64 (I1), .int .i64 ((M : Int))], u.oneCell' = true := (by simp [Value.oneCell'])
               have zb : w1.heap.size ≤ w4.heap.size := HQ4.out.size
               have z5 : w1.heap.size ≤ (w4.alloc (.cells #[.int .i64 (I1), .int .i64 ((M : Int))] 59)).heap.size := (Nat.le_trans zb (by simp))
               refine wpList_append_lies (w4.alloc (.cells #[.int .i64 (I1), .int .i64 ((M : Int))] 59)) rfl _ _ 51 rfl w1.heap.size 59 i0 _ 2 16 Try.underlying51 hi0 hz0 hz1 hz2 rfl (by decide) (.slice (some ⟨gb, 0, none⟩) (k + 1) C) (k + 1) _ rfl z0 ⟨w4.heap.size, 0, none⟩ 1 1 [.int .i64 (I1), .int .i64 ((M : Int))] rfl rfl (two_new rfl) z2 (by decide) Z3.out Z4.out z5 _ rfl ?_
               intro g3 cap3 w5 hown hgr hat hlt3
               obtain ⟨hs5, hq5⟩ := grownP HS4.out hsz zb HO4.out hgr
               have HO5 := Lib.hid hown
               have HS5 := Lib.hid (hs5.mono Z5.out)
               have HQ5 := Lib.hid (HQ4.out.trans (toQ2 hq5))
               clear hown hgr hat hs5 hq5 z0 z2 z5 zb HO4 HS4 HQ4 q0 q1 n1 w1' e1))
          go_wp2
          go_roundw
          case rel => exact ⟨i + 1, j, k + 1, g3, cap3, push2 f (k + 1) ((((i + 1 : Nat)) : Int), (((j : Nat)) : Int)), by omega, by omega, by omega, by rw [HV1.out], by go_num, rfl, HX, Lib.hid (by have h := HO5.out; rw [← hjM] at h; rw [HV1.out] at h; rw [rws_push2]; exact h), HS5, HQ5⟩
          case measure => have := HV1.out; simp [intOf]; omega
      have c4 : (j : Int) < (M : Int) := by omega
      have c5 : ¬ (j : Int) = (M : Int) := by omega
      rcases Nat.lt_or_ge i N with hil | hil
      rotate_left
      · have hiN := Lib.hid (show (i : Int) = (N : Int) by omega)
        have hiD : decide ((i : Int) = (N : Int)) = true := decide_eq_true hiN.out
        have hiE : ((i : Int) == (N : Int)) = true := by simpa using hiN.out
        have hiL : ¬ (i : Int) < (N : Int) := by omega
        clear hend hil

        go_wp2_with fail
        refine (HC.out _ (by first | exact HS.out | exact HS.out.kept ((Below.refl _ _).drew))).mono ?_
        rintro e w4 ⟨d, hd, rfl, hs, ho⟩
        have HO4 := Lib.hid (rowS hsz HO.out ho)
        have HQ4 := Lib.hid (HQ.out.trans (toQ ho))
        have HS4 := Lib.hid hs
        have q0 := row_cell HO4.out (sp2_len f) (show k < k + 1 by omega) (show 0 < 2 by omega) (v := .int .i64 (f k).1) rfl
        have q1 := row_cell HO4.out (sp2_len f) (show k < k + 1 by omega) (show 1 < 2 by omega) (v := .int .i64 (f k).2) rfl
        rw [HPK.out.1] at q0
        rw [HPK.out.2] at q1
        rw [Nat.add_zero] at q0
        have hgl4 := row_lt HO4.out
        have hd3 : d = 0 ∨ d = 1 ∨ d = 2 := by omega
        clear hs ho HC HO HQ HS hd
        rcases hd3 with rfl | rfl | rfl
        · skip
          have HX := Lib.hid (pre_step (i' := i) (j' := j + 1) HP.out (by omega) (by omega) (by omega) (by omega) (by omega) (by omega) (by omega))
          have hkn : k + 1 ≤ 60 := by omega
          have hkk : (k : Int) < (k : Int) + 1 := by omega
          have hk0 : k < k + 1 := by omega
          have Z3 := Lib.hid (show (k + 1) + 1 ≤ maxLen by simp only [maxLen]; omega)
          have Z4 := Lib.hid (show ((k + 1) + 1) * 16 ≤ 140737488355328 by omega)
          have Z5 := Lib.hid (show 2 * (i + j) + 2 ≤ 2 * (i + (j + 1)) by omega)
          obtain ⟨J1, hV2⟩ : ∃ v : Int, (j : Int) + 1 = v := ⟨_, rfl⟩
          have n2 : ¬ (j : Int) = J1 := by omega
          have w2' : IntKind.i64.wrap ((j : Int) + 1) = J1 := by rw [IntWalk.i64_in _ (by omega)]; exact hV2
          have HV2 := Lib.hid (show J1 = ((j + 1 : Nat) : Int) by omega)
          have e2 : wrap64 ((j : Int) + 1) = J1 := by rw [← IntWalk.i64_left]; exact w2'
          clear hV2
          skip
          go_wp2_with (first
            | (at_builtin
               have z0 := ownsRow_kept HO4.out (below_alloc1 w4 (.cells #[.int .i64 ((i : Int)), .int .i64 (J1)] 59))
               have z2 : ∀ u ∈ [Value.int .i64 ((i : Int)), .int .i64 (J1)], u.oneCell' = true := (by simp [Value.oneCell'])
               have zb : w1.heap.size ≤ w4.heap.size := HQ4.out.size
               have z5 : w1.heap.size ≤ (w4.alloc (.cells #[.int .i64 ((i : Int)), .int .i64 (J1)] 59)).heap.size := (Nat.le_trans zb (by simp))
               refine wpList_append_lies (w4.alloc (.cells #[.int .i64 ((i : Int)), .int .i64 (J1)] 59)) rfl _ _ 51 rfl w1.heap.size 59 i0 _ 2 16 Try.underlying51 hi0 hz0 hz1 hz2 rfl (by decide) (.slice (some ⟨gb, 0, none⟩) (k + 1) C) (k + 1) _ rfl z0 ⟨w4.heap.size, 0, none⟩ 1 1 [.int .i64 ((i : Int)), .int .i64 (J1)] rfl rfl (two_new rfl) z2 (by decide) Z3.out Z4.out z5 _ rfl ?_
               intro g3 cap3 w5 hown hgr hat hlt3
               obtain ⟨hs5, hq5⟩ := grownP HS4.out hsz zb HO4.out hgr
               have HO5 := Lib.hid hown
               have HS5 := Lib.hid (hs5.mono Z5.out)
               have HQ5 := Lib.hid (HQ4.out.trans (toQ2 hq5))
               clear hown hgr hat hs5 hq5 z0 z2 z5 zb HO4 HS4 HQ4 q0 q1  n2 w2' e2))
          go_wp2
          go_roundw
          case rel => exact ⟨i, j + 1, k + 1, g3, cap3, push2 f (k + 1) ((((i : Nat)) : Int), (((j + 1 : Nat)) : Int)), by omega, by omega, by omega, by go_num, by rw [HV2.out], rfl, HX, Lib.hid (by have h := HO5.out; rw [HV2.out] at h; rw [rws_push2]; exact h), HS5, HQ5⟩
          case measure => have := HV2.out; simp [intOf]; omega
        · skip
          have HX := Lib.hid (pre_step (i' := i) (j' := j + 1) HP.out (by omega) (by omega) (by omega) (by omega) (by omega) (by omega) (by omega))
          have hkn : k + 1 ≤ 60 := by omega
          have hkk : (k : Int) < (k : Int) + 1 := by omega
          have hk0 : k < k + 1 := by omega
          have Z3 := Lib.hid (show (k + 1) + 1 ≤ maxLen by simp only [maxLen]; omega)
          have Z4 := Lib.hid (show ((k + 1) + 1) * 16 ≤ 140737488355328 by omega)
          have Z5 := Lib.hid (show 2 * (i + j) + 2 ≤ 2 * (i + (j + 1)) by omega)
          obtain ⟨J1, hV2⟩ : ∃ v : Int, (j : Int) + 1 = v := ⟨_, rfl⟩
          have n2 : ¬ (j : Int) = J1 := by omega
          have w2' : IntKind.i64.wrap ((j : Int) + 1) = J1 := by rw [IntWalk.i64_in _ (by omega)]; exact hV2
          have HV2 := Lib.hid (show J1 = ((j + 1 : Nat) : Int) by omega)
          have e2 : wrap64 ((j : Int) + 1) = J1 := by rw [← IntWalk.i64_left]; exact w2'
          clear hV2
          skip
          go_wp2_with (first
            | (at_builtin
               have z0 := ownsRow_kept HO4.out (below_alloc1 w4 (.cells #[.int .i64 ((i : Int)), .int .i64 (J1)] 59))
               have z2 : ∀ u ∈ [Value.int .i64 ((i : Int)), .int .i64 (J1)], u.oneCell' = true := (by simp [Value.oneCell'])
               have zb : w1.heap.size ≤ w4.heap.size := HQ4.out.size
               have z5 : w1.heap.size ≤ (w4.alloc (.cells #[.int .i64 ((i : Int)), .int .i64 (J1)] 59)).heap.size := (Nat.le_trans zb (by simp))
               refine wpList_append_lies (w4.alloc (.cells #[.int .i64 ((i : Int)), .int .i64 (J1)] 59)) rfl _ _ 51 rfl w1.heap.size 59 i0 _ 2 16 Try.underlying51 hi0 hz0 hz1 hz2 rfl (by decide) (.slice (some ⟨gb, 0, none⟩) (k + 1) C) (k + 1) _ rfl z0 ⟨w4.heap.size, 0, none⟩ 1 1 [.int .i64 ((i : Int)), .int .i64 (J1)] rfl rfl (two_new rfl) z2 (by decide) Z3.out Z4.out z5 _ rfl ?_
               intro g3 cap3 w5 hown hgr hat hlt3
               obtain ⟨hs5, hq5⟩ := grownP HS4.out hsz zb HO4.out hgr
               have HO5 := Lib.hid hown
               have HS5 := Lib.hid (hs5.mono Z5.out)
               have HQ5 := Lib.hid (HQ4.out.trans (toQ2 hq5))
               clear hown hgr hat hs5 hq5 z0 z2 z5 zb HO4 HS4 HQ4 q0 q1  n2 w2' e2))
          go_wp2
          go_roundw
          case rel => exact ⟨i, j + 1, k + 1, g3, cap3, push2 f (k + 1) ((((i : Nat)) : Int), (((j + 1 : Nat)) : Int)), by omega, by omega, by omega, by go_num, by rw [HV2.out], rfl, HX, Lib.hid (by have h := HO5.out; rw [HV2.out] at h; rw [rws_push2]; exact h), HS5, HQ5⟩
          case measure => have := HV2.out; simp [intOf]; omega
        · skip
          have HX := Lib.hid (pre_step (i' := i) (j' := j + 1) HP.out (by omega) (by omega) (by omega) (by omega) (by omega) (by omega) (by omega))
          have hkn : k + 1 ≤ 60 := by omega
          have hkk : (k : Int) < (k : Int) + 1 := by omega
          have hk0 : k < k + 1 := by omega
          have Z3 := Lib.hid (show (k + 1) + 1 ≤ maxLen by simp only [maxLen]; omega)
          have Z4 := Lib.hid (show ((k + 1) + 1) * 16 ≤ 140737488355328 by omega)
          have Z5 := Lib.hid (show 2 * (i + j) + 2 ≤ 2 * (i + (j + 1)) by omega)
          obtain ⟨J1, hV2⟩ : ∃ v : Int, (j : Int) + 1 = v := ⟨_, rfl⟩
          have n2 : ¬ (j : Int) = J1 := by omega
          have w2' : IntKind.i64.wrap ((j : Int) + 1) = J1 := by rw [IntWalk.i64_in _ (by omega)]; exact hV2
          have HV2 := Lib.hid (show J1 = ((j + 1 : Nat) : Int) by omega)
          have e2 : wrap64 ((j : Int) + 1) = J1 := by rw [← IntWalk.i64_left]; exact w2'
          clear hV2
          skip
          go_wp2_with (first
            | (at_builtin
               have z0 := ownsRow_kept HO4.out (below_alloc1 w4 (.cells #[.int .i64 ((i : Int)), .int .i64 (J1)] 59))
               have z2 : ∀ u ∈ [Value.int .i64 ((i : Int)), .int .i64 (J1)], u.oneCell' = true := (by simp [Value.oneCell'])
               have zb : w1.heap.size ≤ w4.heap.size := HQ4.out.size
               have z5 : w1.heap.size ≤ (w4.alloc (.cells #[.int .i64 ((i : Int)), .int .i64 (J1)] 59)).heap.size := (Nat.le_trans zb (by simp))
               refine wpList_append_lies (w4.alloc (.cells #[.int .i64 ((i : Int)), .int .i64 (J1)] 59)) rfl _ _ 51 rfl w1.heap.size 59 i0 _ 2 16 Try.underlying51 hi0 hz0 hz1 hz2 rfl (by decide) (.slice (some ⟨gb, 0, none⟩) (k + 1) C) (k + 1) _ rfl z0 ⟨w4.heap.size, 0, none⟩ 1 1 [.int .i64 ((i : Int)), .int .i64 (J1)] rfl rfl (two_new rfl) z2 (by decide) Z3.out Z4.out z5 _ rfl ?_
               intro g3 cap3 w5 hown hgr hat hlt3
               obtain ⟨hs5, hq5⟩ := grownP HS4.out hsz zb HO4.out hgr
               have HO5 := Lib.hid hown
               have HS5 := Lib.hid (hs5.mono Z5.out)
               have HQ5 := Lib.hid (HQ4.out.trans (toQ2 hq5))
               clear hown hgr hat hs5 hq5 z0 z2 z5 zb HO4 HS4 HQ4 q0 q1  n2 w2' e2))
          go_wp2
          go_roundw
          case rel => exact ⟨i, j + 1, k + 1, g3, cap3, push2 f (k + 1) ((((i : Nat)) : Int), (((j + 1 : Nat)) : Int)), by omega, by omega, by omega, by go_num, by rw [HV2.out], rfl, HX, Lib.hid (by have h := HO5.out; rw [HV2.out] at h; rw [rws_push2]; exact h), HS5, HQ5⟩
          case measure => have := HV2.out; simp [intOf]; omega
      have c1 : (i : Int) < (N : Int) := by omega
      have c6 : ¬ (i : Int) = (N : Int) := by omega
      clear hend

      go_wp2_with fail
      refine (HC.out _ (by first | exact HS.out | exact HS.out.kept ((Below.refl _ _).drew))).mono ?_
      rintro e w4 ⟨d, hd, rfl, hs, ho⟩
      have HO4 := Lib.hid (rowS hsz HO.out ho)
      have HQ4 := Lib.hid (HQ.out.trans (toQ ho))
      have HS4 := Lib.hid hs
      have q0 := row_cell HO4.out (sp2_len f) (show k < k + 1 by omega) (show 0 < 2 by omega) (v := .int .i64 (f k).1) rfl
      have q1 := row_cell HO4.out (sp2_len f) (show k < k + 1 by omega) (show 1 < 2 by omega) (v := .int .i64 (f k).2) rfl
      rw [HPK.out.1] at q0
      rw [HPK.out.2] at q1
      rw [Nat.add_zero] at q0
      have hgl4 := row_lt HO4.out
      have hd3 : d = 0 ∨ d = 1 ∨ d = 2 := by omega
      clear hs ho HC HO HQ HS hd
      rcases hd3 with rfl | rfl | rfl
      · rcases Nat.lt_or_ge (i + 1) N with h2 | h2
        · skip
          have HX := Lib.hid (pre_step (i' := i + 1) (j' := j) HP.out (by omega) (by omega) (by omega) (by omega) (by omega) (by omega) (by omega))
          have hkn : k + 1 ≤ 60 := by omega
          have hkk : (k : Int) < (k : Int) + 1 := by omega
          have hk0 : k < k + 1 := by omega
          have Z3 := Lib.hid (show (k + 1) + 1 ≤ maxLen by simp only [maxLen]; omega)
          have Z4 := Lib.hid (show ((k + 1) + 1) * 16 ≤ 140737488355328 by omega)
          have Z5 := Lib.hid (show 2 * (i + j) + 2 ≤ 2 * (i + 1 + (j)) by omega)
          obtain ⟨I1, hV1⟩ : ∃ v : Int, (i : Int) + 1 = v := ⟨_, rfl⟩
          have n1 : ¬ (i : Int) = I1 := by omega
          have w1' : IntKind.i64.wrap ((i : Int) + 1) = I1 := by rw [IntWalk.i64_in _ (by omega)]; exact hV1
          have HV1 := Lib.hid (show I1 = ((i + 1 : Nat) : Int) by omega)
          have c2 : ¬ I1 = (N : Int) := by have := HV1.out; omega
          have e1 : wrap64 ((i : Int) + 1) = I1 := by rw [← IntWalk.i64_left]; exact w1'
          clear hV1
          skip
          go_wp2_with (first
            | (at_builtin
               have z0 := ownsRow_kept HO4.out (below_alloc1 w4 (.cells #[.int .i64 (I1), .int .i64 ((j : Int))] 59))
               have z2 : ∀ u ∈ [Value.int .i64 (I1), .int .i64 ((j : Int))], u.oneCell' = true := (by simp [Value.oneCell'])
               have zb : w1.heap.size ≤ w4.heap.size := HQ4.out.size
               have z5 : w1.heap.size ≤ (w4.alloc (.cells #[.int .i64 (I1), .int .i64 ((j : Int))] 59)).heap.size := (Nat.le_trans zb (by simp))
               refine wpList_append_lies (w4.alloc (.cells #[.int .i64 (I1), .int .i64 ((j : Int))] 59)) rfl _ _ 51 rfl w1.heap.size 59 i0 _ 2 16 Try.underlying51 hi0 hz0 hz1 hz2 rfl (by decide) (.slice (some ⟨gb, 0, none⟩) (k + 1) C) (k + 1) _ rfl z0 ⟨w4.heap.size, 0, none⟩ 1 1 [.int .i64 (I1), .int .i64 ((j : Int))] rfl rfl (two_new rfl) z2 (by decide) Z3.out Z4.out z5 _ rfl ?_
               intro g3 cap3 w5 hown hgr hat hlt3
               obtain ⟨hs5, hq5⟩ := grownP HS4.out hsz zb HO4.out hgr
               have HO5 := Lib.hid hown
               have HS5 := Lib.hid (hs5.mono Z5.out)
               have HQ5 := Lib.hid (HQ4.out.trans (toQ2 hq5))
               clear hown hgr hat hs5 hq5 z0 z2 z5 zb HO4 HS4 HQ4 q0 q1 n1 w1' e1))
          go_wp2
          go_roundw
          case rel => exact ⟨i + 1, j, k + 1, g3, cap3, push2 f (k + 1) ((((i + 1 : Nat)) : Int), (((j : Nat)) : Int)), by omega, by omega, by omega, by rw [HV1.out], by go_num, rfl, HX, Lib.hid (by have h := HO5.out; rw [HV1.out] at h; rw [rws_push2]; exact h), HS5, HQ5⟩
          case measure => have := HV1.out; simp [intOf]; omega
        · skip
          have HX := Lib.hid (pre_step (i' := i + 1) (j' := j + 1) HP.out (by omega) (by omega) (by omega) (by omega) (by omega) (by omega) (by omega))
          have hkn : k + 1 ≤ 60 := by omega
          have hkk : (k : Int) < (k : Int) + 1 := by omega
          have hk0 : k < k + 1 := by omega
          have Z3 := Lib.hid (show (k + 1) + 1 ≤ maxLen by simp only [maxLen]; omega)
          have Z4 := Lib.hid (show ((k + 1) + 1) * 16 ≤ 140737488355328 by omega)
          have Z5 := Lib.hid (show 2 * (i + j) + 2 ≤ 2 * (i + 1 + (j + 1)) by omega)
          obtain ⟨I1, hV1⟩ : ∃ v : Int, (i : Int) + 1 = v := ⟨_, rfl⟩
          have n1 : ¬ (i : Int) = I1 := by omega
          have w1' : IntKind.i64.wrap ((i : Int) + 1) = I1 := by rw [IntWalk.i64_in _ (by omega)]; exact hV1
          have HV1 := Lib.hid (show I1 = ((i + 1 : Nat) : Int) by omega)
          obtain ⟨J1, hV2⟩ : ∃ v : Int, (j : Int) + 1 = v := ⟨_, rfl⟩
          have n2 : ¬ (j : Int) = J1 := by omega
          have w2' : IntKind.i64.wrap ((j : Int) + 1) = J1 := by rw [IntWalk.i64_in _ (by omega)]; exact hV2
          have HV2 := Lib.hid (show J1 = ((j + 1 : Nat) : Int) by omega)
          have c3 : I1 = (N : Int) := by have := HV1.out; omega
          have c2 : decide (I1 = (N : Int)) = true := decide_eq_true c3
          have c2e : (I1 == (N : Int)) = true := by rw [c3]; simp
          clear c3
          have e1 : wrap64 ((i : Int) + 1) = I1 := by rw [← IntWalk.i64_left]; exact w1'
          clear hV1
          have e2 : wrap64 ((j : Int) + 1) = J1 := by rw [← IntWalk.i64_left]; exact w2'
          clear hV2
          skip
          go_wp2_with (first
            | (at_builtin
               have z0 := ownsRow_kept HO4.out (below_alloc1 w4 (.cells #[.int .i64 (I1), .int .i64 (J1)] 59))
               have z2 : ∀ u ∈ [Value.int .i64 (I1), .int .i64 (J1)], u.oneCell' = true := (by simp [Value.oneCell'])
               have zb : w1.heap.size ≤ w4.heap.size := HQ4.out.size
               have z5 : w1.heap.size ≤ (w4.alloc (.cells #[.int .i64 (I1), .int .i64 (J1)] 59)).heap.size := (Nat.le_trans zb (by simp))
               refine wpList_append_lies (w4.alloc (.cells #[.int .i64 (I1), .int .i64 (J1)] 59)) rfl _ _ 51 rfl w1.heap.size 59 i0 _ 2 16 Try.underlying51 hi0 hz0 hz1 hz2 rfl (by decide) (.slice (some ⟨gb, 0, none⟩) (k + 1) C) (k + 1) _ rfl z0 ⟨w4.heap.size, 0, none⟩ 1 1 [.int .i64 (I1), .int .i64 (J1)] rfl rfl (two_new rfl) z2 (by decide) Z3.out Z4.out z5 _ rfl ?_
               intro g3 cap3 w5 hown hgr hat hlt3
               obtain ⟨hs5, hq5⟩ := grownP HS4.out hsz zb HO4.out hgr
               have HO5 := Lib.hid hown
               have HS5 := Lib.hid (hs5.mono Z5.out)
               have HQ5 := Lib.hid (HQ4.out.trans (toQ2 hq5))
               clear hown hgr hat hs5 hq5 z0 z2 z5 zb HO4 HS4 HQ4 q0 q1 n1 w1' e1 n2 w2' e2))
          go_wp2
          go_roundw
          case rel => exact ⟨i + 1, j + 1, k + 1, g3, cap3, push2 f (k + 1) ((((i + 1 : Nat)) : Int), (((j + 1 : Nat)) : Int)), by omega, by omega, by omega, by rw [HV1.out], by rw [HV2.out], rfl, HX, Lib.hid (by have h := HO5.out; rw [HV1.out] at h; rw [HV2.out] at h; rw [rws_push2]; exact h), HS5, HQ5⟩
          case measure => have := HV1.out; have := HV2.out; simp [intOf]; omega
      · skip
        have HX := Lib.hid (pre_step (i' := i) (j' := j + 1) HP.out (by omega) (by omega) (by omega) (by omega) (by omega) (by omega) (by omega))
        have hkn : k + 1 ≤ 60 := by omega
        have hkk : (k : Int) < (k : Int) + 1 := by omega
        have hk0 : k < k + 1 := by omega
        have Z3 := Lib.hid (show (k + 1) + 1 ≤ maxLen by simp only [maxLen]; omega)
        have Z4 := Lib.hid (show ((k + 1) + 1) * 16 ≤ 140737488355328 by omega)
        have Z5 := Lib.hid (show 2 * (i + j) + 2 ≤ 2 * (i + (j + 1)) by omega)
        obtain ⟨J1, hV2⟩ : ∃ v : Int, (j : Int) + 1 = v := ⟨_, rfl⟩
        have n2 : ¬ (j : Int) = J1 := by omega
        have w2' : IntKind.i64.wrap ((j : Int) + 1) = J1 := by rw [IntWalk.i64_in _ (by omega)]; exact hV2
        have HV2 := Lib.hid (show J1 = ((j + 1 : Nat) : Int) by omega)
        have e2 : wrap64 ((j : Int) + 1) = J1 := by rw [← IntWalk.i64_left]; exact w2'
        clear hV2
        skip
        go_wp2_with (first
          | (at_builtin
             have z0 := ownsRow_kept HO4.out (below_alloc1 w4 (.cells #[.int .i64 ((i : Int)), .int .i64 (J1)] 59))
             have z2 : ∀ u ∈ [Value.int .i64 ((i : Int)), .int .i64 (J1)], u.oneCell' = true := (by simp [Value.oneCell'])
             have zb : w1.heap.size ≤ w4.heap.size := HQ4.out.size
             have z5 : w1.heap.size ≤ (w4.alloc (.cells #[.int .i64 ((i : Int)), .int .i64 (J1)] 59)).heap.size := (Nat.le_trans zb (by simp))
             refine wpList_append_lies (w4.alloc (.cells #[.int .i64 ((i : Int)), .int .i64 (J1)] 59)) rfl _ _ 51 rfl w1.heap.size 59 i0 _ 2 16 Try.underlying51 hi0 hz0 hz1 hz2 rfl (by decide) (.slice (some ⟨gb, 0, none⟩) (k + 1) C) (k + 1) _ rfl z0 ⟨w4.heap.size, 0, none⟩ 1 1 [.int .i64 ((i : Int)), .int .i64 (J1)] rfl rfl (two_new rfl) z2 (by decide) Z3.out Z4.out z5 _ rfl ?_
             intro g3 cap3 w5 hown hgr hat hlt3
             obtain ⟨hs5, hq5⟩ := grownP HS4.out hsz zb HO4.out hgr
             have HO5 := Lib.hid hown
             have HS5 := Lib.hid (hs5.mono Z5.out)
             have HQ5 := Lib.hid (HQ4.out.trans (toQ2 hq5))
             clear hown hgr hat hs5 hq5 z0 z2 z5 zb HO4 HS4 HQ4 q0 q1  n2 w2' e2))
        go_wp2
        go_roundw
        case rel => exact ⟨i, j + 1, k + 1, g3, cap3, push2 f (k + 1) ((((i : Nat)) : Int), (((j + 1 : Nat)) : Int)), by omega, by omega, by omega, by go_num, by rw [HV2.out], rfl, HX, Lib.hid (by have h := HO5.out; rw [HV2.out] at h; rw [rws_push2]; exact h), HS5, HQ5⟩
        case measure => have := HV2.out; simp [intOf]; omega
      · skip
        have HX := Lib.hid (pre_step (i' := i + 1) (j' := j + 1) HP.out (by omega) (by omega) (by omega) (by omega) (by omega) (by omega) (by omega))
        have hkn : k + 1 ≤ 60 := by omega
        have hkk : (k : Int) < (k : Int) + 1 := by omega
        have hk0 : k < k + 1 := by omega
        have Z3 := Lib.hid (show (k + 1) + 1 ≤ maxLen by simp only [maxLen]; omega)
        have Z4 := Lib.hid (show ((k + 1) + 1) * 16 ≤ 140737488355328 by omega)
        have Z5 := Lib.hid (show 2 * (i + j) + 2 ≤ 2 * (i + 1 + (j + 1)) by omega)
        obtain ⟨I1, hV1⟩ : ∃ v : Int, (i : Int) + 1 = v := ⟨_, rfl⟩
        have n1 : ¬ (i : Int) = I1 := by omega
        have w1' : IntKind.i64.wrap ((i : Int) + 1) = I1 := by rw [IntWalk.i64_in _ (by omega)]; exact hV1
        have HV1 := Lib.hid (show I1 = ((i + 1 : Nat) : Int) by omega)
        obtain ⟨J1, hV2⟩ : ∃ v : Int, (j : Int) + 1 = v := ⟨_, rfl⟩
        have n2 : ¬ (j : Int) = J1 := by omega
        have w2' : IntKind.i64.wrap ((j : Int) + 1) = J1 := by rw [IntWalk.i64_in _ (by omega)]; exact hV2
        have HV2 := Lib.hid (show J1 = ((j + 1 : Nat) : Int) by omega)
        have e1 : wrap64 ((i : Int) + 1) = I1 := by rw [← IntWalk.i64_left]; exact w1'
        clear hV1
        have e2 : wrap64 ((j : Int) + 1) = J1 := by rw [← IntWalk.i64_left]; exact w2'
        clear hV2
        skip
        go_wp2_with (first
          | (at_builtin
             have z0 := ownsRow_kept HO4.out (below_alloc1 w4 (.cells #[.int .i64 (I1), .int .i64 (J1)] 59))
             have z2 : ∀ u ∈ [Value.int .i64 (I1), .int .i64 (J1)], u.oneCell' = true := (by simp [Value.oneCell'])
             have zb : w1.heap.size ≤ w4.heap.size := HQ4.out.size
             have z5 : w1.heap.size ≤ (w4.alloc (.cells #[.int .i64 (I1), .int .i64 (J1)] 59)).heap.size := (Nat.le_trans zb (by simp))
             refine wpList_append_lies (w4.alloc (.cells #[.int .i64 (I1), .int .i64 (J1)] 59)) rfl _ _ 51 rfl w1.heap.size 59 i0 _ 2 16 Try.underlying51 hi0 hz0 hz1 hz2 rfl (by decide) (.slice (some ⟨gb, 0, none⟩) (k + 1) C) (k + 1) _ rfl z0 ⟨w4.heap.size, 0, none⟩ 1 1 [.int .i64 (I1), .int .i64 (J1)] rfl rfl (two_new rfl) z2 (by decide) Z3.out Z4.out z5 _ rfl ?_
             intro g3 cap3 w5 hown hgr hat hlt3
             obtain ⟨hs5, hq5⟩ := grownP HS4.out hsz zb HO4.out hgr
             have HO5 := Lib.hid hown
             have HS5 := Lib.hid (hs5.mono Z5.out)
             have HQ5 := Lib.hid (HQ4.out.trans (toQ2 hq5))
             clear hown hgr hat hs5 hq5 z0 z2 z5 zb HO4 HS4 HQ4 q0 q1 n1 w1' e1 n2 w2' e2))
        go_wp2
        go_roundw
        case rel => exact ⟨i + 1, j + 1, k + 1, g3, cap3, push2 f (k + 1) ((((i + 1 : Nat)) : Int), (((j + 1 : Nat)) : Int)), by omega, by omega, by omega, by rw [HV1.out], by rw [HV2.out], rfl, HX, Lib.hid (by have h := HO5.out; rw [HV1.out] at h; rw [HV2.out] at h; rw [rws_push2]; exact h), HS5, HQ5⟩
        case measure => have := HV1.out; have := HV2.out; simp [intOf]; omega
end Go.Proofs.Ythpmckfjlbiiiab.src

