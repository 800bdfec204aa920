/-
  Proved: what numbers the document's source draws for the laws of residuals and codes; the laws' own small functions.
  Conditions: none.
-/
import Derived.Test.YtjhndncmeedffaaDoorSrc
import Derived.Test.YtjhndncmeedffaaDoorIntsV
namespace Go.Proofs.YtjhndncmeedffaaDoor.src
open Go.ChangeShapes Go.WideShapes Go.ChangeAt Go.RowKit Go.Joins
open Go.Proofs.YtjhndncmeedffaaDoor.core Go.Proofs.YtjhndncmeedffaaDoor.rows Go.Proofs.YtjhndncmeedffaaDoor.ints
set_option linter.unusedVariables false
set_option linter.unusedSimpArgs false

theorem Src.grown {w w' : World} {B M : Nat} {A : Option Addr} {n c : Nat} {o : Obj} {v : Value} {m : Nat} {xs : List Value} (h : Src w B M A n c) (hown : w.ownsRow B 2 1 v m xs) (hgr : (w.alloc o).grownBy w' v.ownBlock) : Src w' B M A n c := by
  have hl := h.lt
  have hu := under hown (Nat.le_of_lt hl) hgr
  obtain ⟨⟨a, s, h1, h2, h3⟩, h4⟩ := h
  refine ⟨⟨a, s, ?_, h2, h3⟩, h4.kept hu⟩
  rw [hgr.block B (by simp; omega) ?_, Below.heap_alloc _ _ _ hl]
  · exact h1
  · intro e
    obtain ⟨_, cur, hc⟩ := ownsRow_block hown e.symm
    rw [h1] at hc
    simp at hc
theorem row_only {w w' : World} {B M : Nat} {A : Option Addr} {n c : Nat} {v : Value} {m : Nat} {xs : List Value} (h : Src w B M A n c) (hown : w.ownsRow B 2 1 v m xs) (ho : OnlyF (fun k => k = B) w w') : w'.ownsRow B 2 1 v m xs :=
  ownsRow_same hown fun g hg => by
    obtain ⟨⟨a, s, h1, _⟩, _⟩ := h
    obtain ⟨_, cur, hc⟩ := ownsRow_block hown hg
    refine ho.block g (Array.getElem?_eq_some_iff.1 hc).1 (fun e => ?_)
    subst e
    rw [h1] at hc
    simp at hc
theorem from_calls (A : Option Addr) (n c : Nat) (w : World) (h : BytesAt w w.heap.size A n) :
    Calls Tryd.prog 27 #[.slice A n c] w fun e w' => e = .returned (.pointer (some ⟨w.heap.size, 0, none⟩)) ∧ Src w' w.heap.size 0 A n c ∧ Below w.heap.size w w' := by
  have HB := Lib.hid h
  clear h
  go_enter Tryd.func27, Tryd.ntmps27
  go_wp2
  go_ret
  exact ⟨rfl, ⟨⟨0, 0, heap_alloc_new w _, Nat.le_refl _, by unfold inU64; omega⟩, HB.out.kept (below_alloc1 _ _)⟩, below_alloc1 _ _⟩

def put (f : Nat → Int) (j : Nat) (x : Int) : Nat → Int := fun i => if i = j then x else f i
theorem lst_put (f : Nat → Int) (j : Nat) (x : Int) : (lst (put f j x) (j + 1)).map (Value.int .i64) = (lst f j).map (Value.int .i64) ++ [.int .i64 x] := by
  have e : lst (put f j x) j = lst f j := lst_congr j fun i hi => by unfold put; rw [if_neg (by omega)]
  have e2 : put f j x j = x := by unfold put; rw [if_pos rfl]
  simp [lst, e, e2]

set_option maxRecDepth 100000 in
set_option maxHeartbeats 4000000 in
theorem nums_calls (A : Option Addr) (n c : Nat) (w : World) (hn : n ≤ 3000) (h : BytesAt w w.heap.size A n) :
    Calls Tryd.prog 12 #[.slice A n c] w fun e w' => ∃ (m G C : Nat) (f : Nat → Int), m ≤ 19 ∧ (∀ i, i < m → -1900 ≤ f i ∧ f i ≤ 5900) ∧ e = .returned (.slice (some ⟨G, 0, none⟩) m C) ∧ w'.ownsRow w.heap.size 2 1 (.slice (some ⟨G, 0, none⟩) m C) m ((lst f m).map (Value.int .i64)) ∧ Below w.heap.size w w' := by
  obtain ⟨i0, hi0, hz0, hz1, hz2⟩ := info_get infoInt
  have H0 := Lib.hid (from_calls A n c w h)
  clear h
  go_enter Tryd.func12, Tryd.ntmps12
  go_wp2_with fail
  with_reducible refine H0.out.mono ?_
  rintro e w1 ⟨rfl, hs, hb⟩
  have HS1 := Lib.hid (hs.kept (below_alloc1 w1 (.cells #[] 2)))
  have HB1 := Lib.hid (hb.trans ((below_alloc1 w1 (.cells #[] 2)).mono hb.size))
  have HO1 : Hid ((w1.alloc (.cells #[] 2)).ownsRow w.heap.size 2 1 (.slice (some ⟨w1.heap.size, 0, none⟩) 0 0) 0 []) := by
    obtain ⟨q1, q2⟩ := empty_row w1 2
    refine Lib.hid ⟨q1, ?_⟩
    rcases q2 with q2 | ⟨g, cap, cur, e, q3, q4⟩
    · exact .inl q2
    · exact .inr ⟨g, cap, cur, e, Nat.le_trans hb.size q3, q4⟩
  have H1 := Lib.hid (pick_calls w.heap.size 0 4000 A n c _ (by omega) (by omega) hn (by omega) HS1.out)
  clear hs hb H0
  obtain ⟨p4, hp4⟩ : ∃ p : Nat, p = 4000 := ⟨_, rfl⟩
  go_wp2_with fail
  refine H1.out.mono ?_
  rintro e w2 ⟨x, hx, rfl, hs, ho⟩
  have H2 := Lib.hid (pick_calls w.heap.size 2 20 A n c w2 (by omega) (by omega) hn (by omega) hs)
  have HO2 := Lib.hid (row_only HS1.out HO1.out ho)
  have HB2 := Lib.hid (HB1.out.trans (ho.below (fun k hk => by omega) HB1.out.size))
  have HS2 := Lib.hid hs
  clear hs ho H1 HO1 HB1 HS1 p4 hp4
  go_wp2_with fail
  refine H2.out.mono ?_
  rintro e w3 ⟨k0, hk0, rfl, hs, ho⟩
  have HO3 := Lib.hid (row_only HS2.out HO2.out ho)
  have HB3 := Lib.hid (HB2.out.trans (ho.below (fun k hk => by omega) HB2.out.size))
  have HS3 := Lib.hid (hs.mono (show 2 + 2 ≤ 4 by omega))
  clear hs ho H2 HO2 HB2 HS2
  go_wp2
  go_loopw [4, 5, 6] (fun o a i w' => ∃ (j k gb C : Nat) (x : Int) (f : Nat → Int), j + k ≤ 19 ∧ i = .int .i64 (k : Int) ∧ a = .int .i64 x ∧ o = .slice (some ⟨gb, 0, none⟩) j C ∧ -100 * (j : Int) ≤ x ∧ x ≤ 3999 + 100 * (j : Int) ∧ Hid (∀ i, i < j → -1900 ≤ f i ∧ f i ≤ 5900) ∧ Hid (w'.ownsRow w.heap.size 2 1 (.slice (some ⟨gb, 0, none⟩) j C) j ((lst f j).map (Value.int .i64))) ∧ Hid (Src w' w.heap.size (4 + 2 * j) A n c) ∧ Hid (Below w.heap.size w w')) (fun _ _ i _ => (intOf i).toNat)
  case atStart => exact ⟨0, k0, _, _, x, fun _ => 0, by omega, rfl, rfl, rfl, by omega, by omega, Lib.hid (fun i hi => absurd hi (by omega)), HO3, HS3, HB3⟩
  case round =>
    obtain ⟨j, k, gb, C, x, f, hjk, rfl, rfl, rfl, hx1, hx2, HF, HO, HS, HB⟩ := hrel
    rcases Nat.eq_zero_or_pos k with rfl | hp
    · go_wp2
      go_ret
      exact ⟨j, gb, C, f, by omega, HF.out, rfl, HO.out, HB.out⟩
    · have hk : (0 : Int) < (k : Int) := by omega
      have HF2 := Lib.hid (show ∀ i, i < j + 1 → -1900 ≤ put f j x i ∧ put f j x i ≤ 5900 from fun i hi => by
        unfold put
        split
        · omega
        · exact HF.out i (by omega))
      go_wp2_with (first
        | (at_builtin
           have z0 := ownsRow_kept HO.out (below_alloc1 wr (.cells #[.int .i64 x] 2))
           have z2 : ∀ u ∈ [Value.int .i64 x], u.oneCell' = true := (by simp [Value.oneCell'])
           have z3 : j + 1 ≤ maxLen := (by simp only [maxLen]; omega)
           have z4 : (j + 1) * 8 ≤ 140737488355328 := (by omega)
           have z5 : w.heap.size ≤ (wr.alloc (.cells #[.int .i64 x] 2)).heap.size := (Nat.le_trans HB.out.size (by simp))
           refine wpList_append_lies (wr.alloc (.cells #[.int .i64 x] 2)) rfl _ _ 30 rfl w.heap.size 2 i0 (.int .i64 0) 1 8 Tryd.underlying30 hi0 hz0 hz1 hz2 rfl (by decide) (.slice (some ⟨gb, 0, none⟩) j C) j _ rfl z0 ⟨wr.heap.size, 0, none⟩ 1 1 [.int .i64 x] rfl rfl one_new z2 (by decide) z3 z4 z5 _ rfl ?_
           intro g3 cap3 w4 hown hgr hat hlt3
           have HO4 := Lib.hid hown
           have HS4 := Lib.hid (HS.out.grown HO.out hgr)
           have HB4 := Lib.hid (HB.out.trans ((under HO.out HB.out.size hgr)))
           have HC := Lib.hid (pick_calls w.heap.size (4 + 2 * j) 201 A n c w4 (by omega) (by omega) hn (by omega) HS4.out)
           clear hown hgr hat z0 z2 z3 z4 z5 HO HB HS)
        | (go_at_call 28
           refine HC.out.mono ?_
           rintro e w5 ⟨y, hy, rfl, hs, ho⟩
           have HO5 := Lib.hid (row_only HS4.out HO4.out ho)
           have HB5 := Lib.hid (HB4.out.trans (ho.below (fun k hk => by omega) HB4.out.size))
           have HS5 := Lib.hid (hs.mono (show 4 + 2 * j + 2 ≤ 4 + 2 * (j + 1) by omega))
           clear hs ho HC HO4 HB4 HS4))
      go_roundw
      case rel => exact ⟨j + 1, k - 1, g3, cap3, x + ((y : Int) - 100), put f j x, by omega, by go_num, rfl, rfl, by omega, by omega, HF2, Lib.hid (by rw [lst_put]; exact HO5.out), HS5, HB5⟩
      case measure => simp [intOf]; omega
set_option maxHeartbeats 1000000 in
theorem long_calls (A D : Option Addr) (n c m d : Nat) (w : World) (hn : n ≤ maxLen) (hm : m ≤ maxLen) (r : Bool) (hr : r = true ↔ 3000 < n ∨ 3000 < m) :
    Calls Tryd.prog 11 #[.slice A n c, .slice D m d] w fun e w' => e = .returned (.bool r) ∧ w = w' := by
  unfold maxLen at hn hm
  by_cases h1 : 3000 < n
  · have hrt : r = true := hr.2 (.inl h1)
    subst hrt
    have d1 : decide ((3000 : Int) < (n : Int)) = true := decide_eq_true (by omega)
    clear hr
    go_enter Tryd.func11, Tryd.ntmps11
    go_wp2
    go_ret
    exact ⟨by simp, rfl⟩
  · have d1 : decide ((3000 : Int) < (n : Int)) = false := decide_eq_false (by omega)
    have hrt : r = decide ((3000 : Int) < (m : Int)) := by
      rw [Bool.eq_iff_iff, hr]
      simp
      omega
    have HT := Lib.hid hrt
    clear hr hrt
    go_enter Tryd.func11, Tryd.ntmps11
    go_wp2
    go_ret
    exact ⟨by rw [HT.out]; simp, rfl⟩
set_option maxHeartbeats 1000000 in
theorem at_calls (A : Option Addr) (n c i m : Nat) (w : World) (L : Nat) (hn : n ≤ 3000) (hi : i ≤ 3000) (hm : 1 ≤ m) (hm2 : m ≤ 60000) (h : BytesAt w L A n) :
    ∃ y : Nat, y < m ∧ ∀ W, Below L w W → Calls Tryd.prog 13 #[.slice A n c, .int .i64 i, .int .i64 m] W fun e w' => e = .returned (.int .i64 (y : Int)) ∧ W = w' := by
  by_cases hlt : i < n
  · obtain ⟨b, o, v, rfl, h1, h2, h3, h4⟩ := h i hlt
    refine ⟨v % m, Nat.mod_lt _ (by omega), fun W hW => ?_⟩
    have hc := (hW.cell (p := ⟨b, o + i, none⟩) h1).trans h4
    have g1 : ¬ (n : Int) ≤ (i : Int) := by omega
    have g2 : decide ((m : Int) < 1) = false := decide_eq_false (by omega)
    have g3 : ¬ (m : Int) = 0 := by omega
    clear h h4 hW
    go_enter Tryd.func13, Tryd.ntmps13
    go_wp2
    go_ret
    exact ⟨by simp, rfl⟩
  · refine ⟨0, by omega, fun W hW => ?_⟩
    have g1 : (n : Int) ≤ (i : Int) := by omega
    clear h hW
    go_enter Tryd.func13, Tryd.ntmps13
    go_wp2
    go_ret
    exact ⟨rfl, rfl⟩
end Go.Proofs.YtjhndncmeedffaaDoor.src
