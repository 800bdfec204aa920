/-
  Proved: what the document's source draws as sequences of features; what the document's source draws as two sequences and a band; small facts that the laws of chapter 9 share.
  Conditions: those of each theorem.
-/
import Derived.Test.YtkcfghbkcgommabSrc
import Derived.Test.YtkcfghbkcgommabFt
import Derived.Test.YtkcfghbkcgommabPut
import Derived.Test.YtkcfghbkcgommabSeq
namespace Go.Proofs.Ytkcfghbkcgommab.src
open Go.ChangeShapes Go.WideShapes Go.ChangeAt Go.RowKit Go.Joins
open Go.Proofs.Ytkcfghbkcgommab.core Go.Proofs.Ytkcfghbkcgommab.rown Go.Proofs.Ytkcfghbkcgommab.stk Go.Proofs.Ytkcfghbkcgommab.boxed Go.Proofs.Ytkcfghbkcgommab.ft Go.Proofs.Ytkcfghbkcgommab.seq
set_option linter.unusedVariables false
set_option linter.unusedSimpArgs false
theorem grownS {w w' : World} {B M base : Nat} {A : Option Addr} {n c : Nat} {o : Obj} {v : Value} {m : Nat} {xs : List Value} (h : Src w B M A n c) (hB : B < base) (hbz : base ≤ w.heap.size) (hown : w.ownsRow base 46 3 v m xs) (hgr : (w.alloc o).grownBy w' v.ownBlock) : Src w' B M A n c ∧ OnlyF (fun k => base ≤ k) w w' := by
  have hl := h.lt
  have hu := under hown hbz hgr
  obtain ⟨⟨a, s, h1, h2, h3⟩, h4⟩ := h
  exact ⟨⟨⟨a, s, (hu.block B hB).trans h1, h2, h3⟩, h4.kept (hu.mono (Nat.le_of_lt hB))⟩, hu.os, hu.tape, hu.output, hu.size, fun k hk hf => hu.block k (by omega)⟩
theorem rowS {w w' : World} {B base E k : Nat} {v : Value} {m : Nat} {xs : List Value} (hB : B < base) (hown : w.ownsRow base E k v m xs) (ho : OnlyF (fun k => k = B) w w') : w'.ownsRow base E k v m xs :=
  ownsRow_same hown fun g hg => by
    obtain ⟨h1, cur, hc⟩ := rown.ownsRow_block hown hg
    exact ho.block g (Array.getElem?_eq_some_iff.1 hc).1 (fun e => by omega)
def nB (B L k : Nat) : Prop := k = B ∨ L ≤ k
theorem toQ {B L : Nat} {W W' : World} (h : OnlyF (fun k => k = B) W W') : OnlyF (fun k => nB B L k) W W' := h.mono fun x hx => .inl hx
theorem toQ2 {B L : Nat} {W W' : World} (h : OnlyF (fun k => L ≤ k) W W') : OnlyF (fun k => nB B L k) W W' := h.mono fun x hx => .inr hx
theorem from_calls (A : Option Addr) (n c : Nat) (w : World) (h : BytesAt w w.heap.size A n) :
    Calls Try.prog 12 #[.slice A n c] w fun e w' => e = .returned (.pointer (some ⟨w.heap.size, 0, none⟩)) ∧ Src w' w.heap.size 0 A n c ∧ Below w.heap.size w w' := by
  have HB := Lib.hid h
  clear h
  go_enter Try.func12, Try.ntmps12
  go_wp2
  go_ret
  exact ⟨rfl, ⟨⟨0, 0, heap_alloc_new w _, Nat.le_refl _, by unfold inU64; omega⟩, HB.out.kept (below_alloc1 _ _)⟩, below_alloc1 _ _⟩
theorem maxS (a b : Int) (w : World) : Calls Try.prog 25 #[.int .i64 a, .int .i64 b] w fun e w' => e = .returned (.int .i64 (max a b)) ∧ w = w' := by
  by_cases h : b < a
  · have hd : decide (b < a) = true := decide_eq_true h
    have HA := Lib.hid (show a = max a b by omega)
    go_enter Try.func25, Try.ntmps25
    go_wp2
    go_ret
    exact ⟨by rw [← HA.out]; rfl, rfl⟩
  · have hd : decide (b < a) = false := decide_eq_false h
    have HA := Lib.hid (show b = max a b by omega)
    go_enter Try.func25, Try.ntmps25
    go_wp2
    go_ret
    exact ⟨by rw [← HA.out]; rfl, rfl⟩
def stepC (x : Int) (p : Nat) : Int := max 0 (min 255 (x + (p : Int) - 30))
theorem stepC_in (x : Int) (p : Nat) : 0 ≤ stepC x p ∧ stepC x p ≤ 255 := by unfold stepC; omega
set_option maxRecDepth 100000 in
set_option maxHeartbeats 4000000 in
theorem draw_calls (B M m : Nat) (A : Option Addr) (n c : Nat) (w : World) (hm : 2 ≤ m) (hm2 : m ≤ 9) (hn : n ≤ 3000) (hM : M ≤ 800000) (h : Src w B M A n c) :
    Calls Try.prog 13 #[.pointer (some ⟨B, 0, none⟩), .int .i64 m] w fun e w' => ∃ (g C k : Nat) (f : Nat → P3), 1 ≤ k ∧ k ≤ m ∧ (∀ i, i < k → inF (f i) = true) ∧ e = .returned (.slice (some ⟨g, 0, none⟩) k C) ∧ w'.ownsRow w.heap.size 46 3 (.slice (some ⟨g, 0, none⟩) k C) k (rws (row3 f) k) ∧ Src w' B (M + 100) A n c ∧ OnlyF (fun k => nB B w.heap.size k) w w' := by
  obtain ⟨i0, hi0, hz0, hz1, hz2⟩ := rown.info_get infoFeat
  have hlt := h.lt
  have b0 := below_alloc1 w (.cells #[] 46)
  have HS0 := Lib.hid (h.kept b0)
  have HO0 := Lib.hid (rown.empty_row w 46 3)
  have HQ0 : Hid (OnlyF (fun k => nB B w.heap.size k) w (w.alloc (.cells #[] 46))) := Lib.hid (OnlyF.of_below b0)
  have H1 := Lib.hid (pick_calls B M 256 A n c _ (by omega) (by omega) hn (by omega) HS0.out)
  clear h b0
  obtain ⟨p0, hp0⟩ : ∃ p : Nat, p = 256 := ⟨_, rfl⟩
  go_enter Try.func13, Try.ntmps13
  go_wp2_with fail
  refine H1.out.mono ?_
  rintro e w1 ⟨x, hx, rfl, hs, ho⟩
  have H2 := Lib.hid (pick_calls B (M + 2) 256 A n c w1 (by omega) (by omega) hn (by omega) hs)
  have HO1 := Lib.hid (rowS hlt HO0.out ho)
  have HQ1 := Lib.hid (HQ0.out.trans (toQ ho))
  clear hs ho H1 HO0 HQ0 HS0
  go_wp2_with fail
  refine H2.out.mono ?_
  rintro e w2 ⟨y, hy, rfl, hs, ho⟩
  have H3 := Lib.hid (pick_calls B (M + 4) m A n c w2 hm (by omega) hn (by omega) hs)
  have HO2 := Lib.hid (rowS hlt HO1.out ho)
  have HQ2 := Lib.hid (HQ1.out.trans (toQ ho))
  clear hs ho H2 HO1 HQ1
  go_wp2_with fail
  refine H3.out.mono ?_
  rintro e w3 ⟨k0, hk0, rfl, hs, ho⟩
  have HO3 := Lib.hid (rowS hlt HO2.out ho)
  have HQ3 := Lib.hid (HQ2.out.trans (toQ ho))
  have HS3 := Lib.hid hs
  clear hs ho H3 HO2 HQ2
  go_wp2
  go_loopw [5, 6, 7, 8] (fun o a b i w' => ∃ (j k gb C : Nat) (x y : Int) (f : Nat → P3), j + k ≤ m ∧ (k = 0 → 1 ≤ j) ∧ i = .int .i64 (k : Int) ∧ a = .int .i64 x ∧ b = .int .i64 y ∧ o = .slice (some ⟨gb, 0, none⟩) j C ∧ (0 ≤ x ∧ x ≤ 255) ∧ (0 ≤ y ∧ y ≤ 255) ∧ Hid (∀ i, i < j → inF (f i) = true) ∧ Hid (w'.ownsRow w.heap.size 46 3 (.slice (some ⟨gb, 0, none⟩) j C) j (rws (row3 f) j)) ∧ Hid (Src w' B (M + 6 + 6 * j) A n c) ∧ Hid (OnlyF (fun k => nB B w.heap.size k) w w')) (fun _ _ _ i _ => (intOf i).toNat)
  case atStart => exact ⟨0, k0 + 1, _, _, x, y, fun _ => (0, 0, 0), by omega, by omega, by go_num, rfl, rfl, rfl, by omega, by omega, Lib.hid (fun i hi => absurd hi (by omega)), HO3, HS3, HQ3⟩
  case round =>
    obtain ⟨j, k, gb, C, x, y, f, hjk, hj1, rfl, rfl, rfl, rfl, hx1, hy1, HF, HO, HS, HQ⟩ := hrel
    rcases Nat.eq_zero_or_pos k with rfl | hp
    · have hj1' : 1 ≤ j := hj1 rfl
      have hj2' : j ≤ m := by omega
      clear hj1
      go_wp2
      go_ret
      exact ⟨gb, C, j, f, hj1', hj2', HF.out, rfl, HO.out, HS.out.mono (by omega), HQ.out⟩
    · have hk : (0 : Int) < (k : Int) := by omega
      have HC := Lib.hid (fun W hS => pick_calls B (M + 6 + 6 * j) 8 A n c W (by omega) (by omega) hn (by omega) hS)
      go_wp2_with fail
      refine (HC.out _ (by first | exact HS.out | exact HS.out.kept ((Below.refl _ _).drew))).mono ?_
      rintro e w4 ⟨d, hd, rfl, hs, ho⟩
      have HO4 := Lib.hid (rowS hlt HO.out ho)
      have HQ4 := Lib.hid (HQ.out.trans (toQ ho))
      have HS4 := Lib.hid hs
      clear hs ho HC HO HQ HS
      have HF2 := Lib.hid (show ∀ i, i < j + 1 → inF (push f j (x, y, (d : Int)) i) = true from fun i hi => by
        unfold push
        split
        · exact decide_eq_true ⟨hx1, hy1, by simp only; omega, by simp only; omega⟩
        · exact HF.out i (by omega))
      go_wp2_with (first
        | (at_builtin
           have z0 := ownsRow_kept HO4.out (below_alloc1 w4 (.cells #[.int .i64 x, .int .i64 y, .int .i64 (d : Int)] 46))
           have z2 : ∀ u ∈ [Value.int .i64 x, .int .i64 y, .int .i64 (d : Int)], u.oneCell' = true := (by simp [Value.oneCell'])
           have z3 : j + 1 ≤ maxLen := (by simp only [maxLen]; omega)
           have z4 : (j + 1) * 24 ≤ 140737488355328 := (by omega)
           have zb : w.heap.size ≤ w4.heap.size := HQ4.out.size
           have z5 : w.heap.size ≤ (w4.alloc (.cells #[.int .i64 x, .int .i64 y, .int .i64 (d : Int)] 46)).heap.size := (Nat.le_trans zb (by simp))
           refine wpList_append_lies (w4.alloc (.cells #[.int .i64 x, .int .i64 y, .int .i64 (d : Int)] 46)) rfl _ _ 24 rfl w.heap.size 46 i0 _ 3 24 Try.underlying24 hi0 hz0 hz1 hz2 rfl (by decide) (.slice (some ⟨gb, 0, none⟩) j C) j _ rfl z0 ⟨w4.heap.size, 0, none⟩ 1 1 [.int .i64 x, .int .i64 y, .int .i64 (d : Int)] rfl rfl (three_new rfl) z2 (by decide) z3 z4 z5 _ rfl ?_
           intro g3 cap3 w5 hown hgr hat hlt3
           obtain ⟨hs5, hq5⟩ := grownS HS4.out hlt zb HO4.out hgr
           have HO5 := Lib.hid hown
           have HS5 := Lib.hid hs5
           have HQ5 := Lib.hid (HQ4.out.trans (toQ2 hq5))
           clear hown hgr hat hs5 hq5 z0 z2 z3 z4 z5 zb HO4 HS4 HQ4))
      refine (pick_calls B (M + 6 + 6 * j + 2) 61 A n c _ (by omega) (by omega) hn (by omega) HS5.out).mono ?_
      rintro e w6 ⟨p, hpp, rfl, hs, ho⟩
      have HO6 := Lib.hid (rowS hlt HO5.out ho)
      have HQ6 := Lib.hid (HQ5.out.trans (toQ ho))
      have HS6 := Lib.hid hs
      clear hs ho HO5 HQ5 HS5
      go_wp2_with fail
      refine (minS _ _ _).mono ?_
      rintro e _ ⟨rfl, rfl⟩
      go_wp2_with fail
      refine (maxS _ _ _).mono ?_
      rintro e _ ⟨rfl, rfl⟩
      have hxs := stepC_in x p
      go_wp2_with fail
      refine (pick_calls B (M + 6 + 6 * j + 4) 61 A n c _ (by omega) (by omega) hn (by omega) HS6.out).mono ?_
      rintro e w7 ⟨q, hq, rfl, hs, ho⟩
      have HO7 := Lib.hid (rowS hlt HO6.out ho)
      have HQ7 := Lib.hid (HQ6.out.trans (toQ ho))
      have HS7 := Lib.hid (hs.mono (show M + 6 + 6 * j + 4 + 2 ≤ M + 6 + 6 * (j + 1) by omega))
      clear hs ho HO6 HQ6 HS6
      go_wp2_with fail
      refine (minS _ _ _).mono ?_
      rintro e _ ⟨rfl, rfl⟩
      go_wp2_with fail
      refine (maxS _ _ _).mono ?_
      rintro e _ ⟨rfl, rfl⟩
      have hys := stepC_in y q
      go_wp2
      go_roundw
      case rel => exact ⟨j + 1, k - 1, g3, cap3, stepC x p, stepC y q, push f j (x, y, (d : Int)), by omega, by omega, by go_num, rfl, rfl, rfl, hxs, hys, HF2, Lib.hid (by rw [rws_push]; exact HO7.out), HS7, HQ7⟩
      case measure => simp [intOf]; omega
end Go.Proofs.Ytkcfghbkcgommab.src

namespace Go.Proofs.Ytkcfghbkcgommab.src

open Go.ChangeShapes Go.WideShapes Go.ChangeAt Go.RowKit Go.Joins

open Go.Proofs.Ytkcfghbkcgommab.core Go.Proofs.Ytkcfghbkcgommab.rown Go.Proofs.Ytkcfghbkcgommab.stk Go.Proofs.Ytkcfghbkcgommab.boxed Go.Proofs.Ytkcfghbkcgommab.ft Go.Proofs.Ytkcfghbkcgommab.seq Go.Proofs.Ytkcfghbkcgommab.put3
set_option linter.unusedVariables false
set_option linter.unusedSimpArgs false
theorem rowL {w w' : World} {B base L E k : Nat} {v : Value} {m : Nat} {xs : List Value} (hB : B < base) (hL : w.heap.size ≤ L) (hown : w.ownsRow base E k v m xs) (ho : OnlyF (fun k => nB B L k) w w') : w'.ownsRow base E k v m xs :=
  ownsRow_same hown fun g hg => by
    obtain ⟨h1, cur, hc⟩ := rown.ownsRow_block hown hg
    have hlt := (Array.getElem?_eq_some_iff.1 hc).1
    exact ho.block g hlt (fun e => by rcases e with e | e <;> omega)
theorem grownW {w w' : World} {B M base : Nat} {A : Option Addr} {n c : Nat} {v : Value} {m : Nat} {xs : List Value} (h : Src w B M A n c) (hB : B < base) (hbz : base ≤ w.heap.size) (hown : w.ownsRow base 46 3 v m xs) (hgr : w.grownBy w' v.ownBlock) : Src w' B M A n c ∧ OnlyF (fun k => base ≤ k) w w' := by
  have hl := h.lt
  have hu : Below base w w' := (Below.refl base w).grown hgr hbz (fun k hk => (rown.ownsRow_block hown hk).1)
  obtain ⟨⟨a, s, h1, h2, h3⟩, h4⟩ := h
  exact ⟨⟨⟨a, s, (hu.block B hB).trans h1, h2, h3⟩, h4.kept (hu.mono (Nat.le_of_lt hB))⟩, hu.os, hu.tape, hu.output, hu.size, fun k hk hf => hu.block k (by omega)⟩
theorem Src.low {w w' : World} {B M L : Nat} {A : Option Addr} {n c : Nat} (h : Src w B M A n c) (hB : B < L) (hu : Below L w w') : Src w' B M A n c := by
  obtain ⟨⟨a, s, h1, h2, h3⟩, h4⟩ := h
  exact ⟨⟨a, s, (hu.block B hB).trans h1, h2, h3⟩, h4.kept (hu.mono (Nat.le_of_lt hB))⟩
theorem one_calls (B M : Nat) (A : Option Addr) (n c : Nat) (w : World) (hn : n ≤ 3000) (hM : M ≤ 900000) (h : Src w B M A n c) :
    Calls Try.prog 15 #[.pointer (some ⟨B, 0, none⟩), .int .i64 2] w fun e w' => ∃ b : Bool, e = .returned (.bool b) ∧ Src w' B (M + 2) A n c ∧ OnlyF (fun k => k = B) w w' := by
  have H1 := Lib.hid (pick_calls B M 2 A n c w (by omega) (by omega) hn hM h)
  clear h
  go_enter Try.func15, Try.ntmps15
  go_wp2_with fail
  refine H1.out.mono ?_
  rintro e w1 ⟨x, hx, rfl, hs, ho⟩
  have HS := Lib.hid hs
  have HO := Lib.hid ho
  clear hs ho H1
  go_wp2
  go_ret
  exact ⟨_, rfl, HS.out, HO.out⟩
theorem row_news {w : World} {base E n g c : Nat} {f : Nat → P3} (h : w.ownsRow base E 3 (.slice (some ⟨g, 0, none⟩) n c) n (rws (row3 f) n)) {w' : World} (hk : Below w.heap.size w w') : ∀ j u, (rws (row3 f) n)[j]? = some u → w'.cell? ((⟨g, 0, none⟩ : Addr).add j) = some u := by
  intro j u hu
  obtain ⟨-, h⟩ := h
  rcases h with ⟨h, _⟩ | ⟨g', cap, cur, h, h1, h2, h3, h4, h5, h6⟩
  · cases h
  · cases h
    rw [rown.add_at]
    have hlt := (Array.getElem?_eq_some_iff.1 h2).1
    have hc : w.cell? ⟨g, j, none⟩ = some u := by
      rw [cell_of_block h2]
      rw [← h6] at hu
      rw [List.getElem?_take] at hu
      split at hu
      · simpa using hu
      · cases hu
    exact (hk.cell (p := ⟨g, j, none⟩) hlt).trans hc
theorem setX (f : Nat → P3) (n : Nat) (hn : 0 < n) (x : Int) : (rws (row3 f) n).set 0 (.int .i64 x) = rws (row3 (put f 0 (x, (f 0).2.1, (f 0).2.2))) n := by
  have h := set2 f n 0 hn x (f 0).2.1
  rw [Nat.zero_mul, Nat.zero_add] at h
  rw [← h]
  refine (set_same ?_).symm
  have e := rws_get (row3_len f) 0 1 (by omega) n hn
  rw [Nat.zero_mul, Nat.zero_add] at e
  rw [List.getElem?_set_ne (by omega), e]
  rfl
end Go.Proofs.Ytkcfghbkcgommab.src

namespace Go.Proofs.Ytkcfghbkcgommab.fnB

open Go.ChangeShapes Go.WideShapes Go.ChangeAt Go.RowKit Go.Joins

open Go.Proofs.Ytkcfghbkcgommab.core Go.Proofs.Ytkcfghbkcgommab.rown Go.Proofs.Ytkcfghbkcgommab.stk Go.Proofs.Ytkcfghbkcgommab.boxed Go.Proofs.Ytkcfghbkcgommab.ft Go.Proofs.Ytkcfghbkcgommab.seq Go.Proofs.Ytkcfghbkcgommab.src
set_option linter.unusedVariables false
set_option linter.unusedSimpArgs false
set_option maxHeartbeats 1000000 in
theorem long_calls (A D : Option Addr) (n c m d : Nat) (w : World) (hn : n ≤ maxLen) (hm : m ≤ maxLen) (r : Bool) (hr : r = true ↔ 3000 < n ∨ 3000 < m) :
    Calls Try.prog 4 #[.slice A n c, .slice D m d] w fun e w' => e = .returned (.bool r) ∧ w = w' := by
  unfold maxLen at hn hm
  by_cases h1 : 3000 < n
  · have hrt : r = true := hr.2 (.inl h1)
    subst hrt
    have d1 : decide ((3000 : Int) < (n : Int)) = true := decide_eq_true (by omega)
    clear hr
    go_enter Try.func4, Try.ntmps4
    go_wp2
    go_ret
    exact ⟨by simp, rfl⟩
  · have d1 : decide ((3000 : Int) < (n : Int)) = false := decide_eq_false (by omega)
    have hrt : r = decide ((3000 : Int) < (m : Int)) := by
      rw [Bool.eq_iff_iff, hr]
      simp
      omega
    have HT := Lib.hid hrt
    clear hr hrt
    go_enter Try.func4, Try.ntmps4
    go_wp2
    go_ret
    exact ⟨by rw [HT.out]; simp, rfl⟩
theorem slice_of {w : World} {base E k n : Nat} {v : Value} {xs : List Value} (h : w.ownsRow base E k v n xs) (hn : 0 < n) : ∃ g c, v = .slice (some ⟨g, 0, none⟩) n c := by
  obtain ⟨-, h⟩ := h
  rcases h with ⟨rfl, e⟩ | ⟨g, cap, cur, rfl, _⟩
  · simp_all
  · exact ⟨g, _, rfl⟩
end Go.Proofs.Ytkcfghbkcgommab.fnB
