/-
  Proved: what the document's source draws as two sequences and a band.
  Conditions: none.
-/
import Derived.Test.YthpmckfjlbiiiabDraw
namespace Go.Proofs.Ythpmckfjlbiiiab.src
open Go.ChangeShapes Go.WideShapes Go.ChangeAt Go.RowKit Go.Joins
open Go.Proofs.Ythpmckfjlbiiiab.core Go.Proofs.Ythpmckfjlbiiiab.rown Go.Proofs.Ythpmckfjlbiiiab.stk Go.Proofs.Ythpmckfjlbiiiab.boxed Go.Proofs.Ythpmckfjlbiiiab.ft Go.Proofs.Ythpmckfjlbiiiab.seq Go.Proofs.Ythpmckfjlbiiiab.put3
set_option linter.unusedVariables false
set_option linter.unusedSimpArgs false
theorem rowL {w w' : World} {B base L E k : Nat} {v : Value} {m : Nat} {xs : List Value} (hB : B < base) (hL : w.heap.size ≤ L) (hown : w.ownsRow base E k v m xs) (ho : OnlyF (fun k => nB B L k) w w') : w'.ownsRow base E k v m xs :=
  ownsRow_same hown fun g hg => by
    obtain ⟨h1, cur, hc⟩ := rown.ownsRow_block hown hg
    have hlt := (Array.getElem?_eq_some_iff.1 hc).1
    exact ho.block g hlt (fun e => by rcases e with e | e <;> omega)
theorem grownW {w w' : World} {B M base : Nat} {A : Option Addr} {n c : Nat} {v : Value} {m : Nat} {xs : List Value} (h : Src w B M A n c) (hB : B < base) (hbz : base ≤ w.heap.size) (hown : w.ownsRow base 65 3 v m xs) (hgr : w.grownBy w' v.ownBlock) : Src w' B M A n c ∧ OnlyF (fun k => base ≤ k) w w' := by
  have hl := h.lt
  have hu : Below base w w' := (Below.refl base w).grown hgr hbz (fun k hk => (rown.ownsRow_block hown hk).1)
  obtain ⟨⟨a, s, h1, h2, h3⟩, h4⟩ := h
  exact ⟨⟨⟨a, s, (hu.block B hB).trans h1, h2, h3⟩, h4.kept (hu.mono (Nat.le_of_lt hB))⟩, hu.os, hu.tape, hu.output, hu.size, fun k hk hf => hu.block k (by omega)⟩
theorem Src.low {w w' : World} {B M L : Nat} {A : Option Addr} {n c : Nat} (h : Src w B M A n c) (hB : B < L) (hu : Below L w w') : Src w' B M A n c := by
  obtain ⟨⟨a, s, h1, h2, h3⟩, h4⟩ := h
  exact ⟨⟨a, s, (hu.block B hB).trans h1, h2, h3⟩, h4.kept (hu.mono (Nat.le_of_lt hB))⟩
theorem one_calls (B M : Nat) (A : Option Addr) (n c : Nat) (w : World) (hn : n ≤ 3000) (hM : M ≤ 900000) (h : Src w B M A n c) :
    Calls Try.prog 38 #[.pointer (some ⟨B, 0, none⟩), .int .i64 2] w fun e w' => ∃ b : Bool, e = .returned (.bool b) ∧ Src w' B (M + 2) A n c ∧ OnlyF (fun k => k = B) w w' := by
  have H1 := Lib.hid (pick_calls B M 2 A n c w (by omega) (by omega) hn hM h)
  clear h
  go_enter Try.func38, Try.ntmps38
  go_wp2_with fail
  refine H1.out.mono ?_
  rintro e w1 ⟨x, hx, rfl, hs, ho⟩
  have HS := Lib.hid hs
  have HO := Lib.hid ho
  clear hs ho H1
  go_wp2
  go_ret
  exact ⟨_, rfl, HS.out, HO.out⟩
theorem row_news {w : World} {base E n g c : Nat} {f : Nat → P3} (h : w.ownsRow base E 3 (.slice (some ⟨g, 0, none⟩) n c) n (rws (row3 f) n)) {w' : World} (hk : Below w.heap.size w w') : ∀ j u, (rws (row3 f) n)[j]? = some u → w'.cell? ((⟨g, 0, none⟩ : Addr).add j) = some u := by
  intro j u hu
  obtain ⟨-, h⟩ := h
  rcases h with ⟨h, _⟩ | ⟨g', cap, cur, h, h1, h2, h3, h4, h5, h6⟩
  · cases h
  · cases h
    rw [rown.add_at]
    have hlt := (Array.getElem?_eq_some_iff.1 h2).1
    have hc : w.cell? ⟨g, j, none⟩ = some u := by
      rw [cell_of_block h2]
      rw [← h6] at hu
      rw [List.getElem?_take] at hu
      split at hu
      · simpa using hu
      · cases hu
    exact (hk.cell (p := ⟨g, j, none⟩) hlt).trans hc
theorem setX (f : Nat → P3) (n : Nat) (hn : 0 < n) (x : Int) : (rws (row3 f) n).set 0 (.int .i64 x) = rws (row3 (put f 0 (x, (f 0).2.1, (f 0).2.2))) n := by
  have h := set2 f n 0 hn x (f 0).2.1
  rw [Nat.zero_mul, Nat.zero_add] at h
  rw [← h]
  refine (set_same ?_).symm
  have e := rws_get (row3_len f) 0 1 (by omega) n hn
  rw [Nat.zero_mul, Nat.zero_add] at e
  rw [List.getElem?_set_ne (by omega), e]
  rfl
set_option maxRecDepth 100000 in
set_option maxHeartbeats 4000000 in
theorem two_calls (A : Option Addr) (n c : Nat) (w : World) (hn : n ≤ 3000) (h : BytesAt w w.heap.size A n) :
    Calls Try.prog 10 #[.slice A n c] w fun e w' => ∃ (ga Ca na : Nat) (fa : Nat → P3) (gb Cb nb : Nat) (fb : Nat → P3) (r : Nat), r < 4 ∧ (okQ na fa = true ∧ na ≤ 8) ∧ (okQ nb fb = true ∧ nb ≤ 8) ∧ e = .returned (.tuple #[.slice (some ⟨ga, 0, none⟩) na Ca, .slice (some ⟨gb, 0, none⟩) nb Cb, .int .i64 (absv ((na : Int) - (nb : Int)) + (r : Int))]) ∧ PtsAt w' (some ⟨ga, 0, none⟩) na fa ∧ PtsAt w' (some ⟨gb, 0, none⟩) nb fb ∧ Below w.heap.size w w' := by
  obtain ⟨i0, hi0, hz0, hz1, hz2⟩ := rown.info_get infoFeat
  have H0 := Lib.hid (from_calls A n c w h)
  clear h
  go_enter Try.func10, Try.ntmps10
  go_wp2_with fail
  refine H0.out.mono ?_
  rintro e w1 ⟨rfl, hs, hb⟩
  have BB1 := Lib.hid hb
  have ha1 : w.heap.size < w1.heap.size := hs.lt
  have H1 := Lib.hid (draw_calls w.heap.size 0 8 A n c w1 (by omega) (by omega) hn (by omega) hs)
  clear hs hb H0
  obtain ⟨p8, hp8⟩ : ∃ p : Nat, p = 8 := ⟨_, rfl⟩
  go_wp2_with fail
  refine H1.out.mono ?_
  rintro e w2 ⟨ga, Ca, na, fa, ka1, ka2, fa1, rfl, hA, hs, ho⟩
  have BB2 := Lib.hid (BB1.out.trans (ho.below (fun k hk => by rcases hk with e | e <;> omega) BB1.out.size))
  have hb1 : w.heap.size < w2.heap.size := hs.lt
  have H2 := Lib.hid (draw_calls w.heap.size (0 + 100) 8 A n c w2 (by omega) (by omega) hn (by omega) hs)
  have HA2 := Lib.hid hA
  clear hA hs ho H1 BB1
  go_wp2_with fail
  refine H2.out.mono ?_
  rintro e w3 ⟨gb, Cb, nb, fb, kb1, kb2, fb1, rfl, hB, hs, ho⟩
  have BB3 := Lib.hid (BB2.out.trans (ho.below (fun k hk => by rcases hk with e | e <;> omega) BB2.out.size))
  have H3 := Lib.hid (one_calls w.heap.size (0 + 100 + 100) A n c w3 hn (by omega) hs)
  have HA3 := Lib.hid (rowL (B := w.heap.size) ha1 (Nat.le_refl _) HA2.out ho)
  have HB3 := Lib.hid hB
  clear hB hs ho H2 HA2 BB2
  go_wp2_with fail
  refine H3.out.mono ?_
  rintro e w4 ⟨yes, rfl, hs, ho⟩
  have HA4 := Lib.hid (rowS (B := w.heap.size) ha1 HA3.out ho)
  have HB4 := Lib.hid (rowS (B := w.heap.size) hb1 HB3.out ho)
  have BB4 := Lib.hid (BB3.out.trans (ho.below (fun k hk => by omega) BB3.out.size))
  have HS4 := Lib.hid hs
  clear hs ho H3 HA3 HB3 BB3
  cases yes
  · skip
    go_wp2_with fail
    refine (sizeS _ (by omega) (by omega) _).mono ?_
    rintro e _ ⟨rfl, rfl⟩
    go_wp2_with fail
    refine (pick_calls w.heap.size (0 + 100 + 100 + 2) 4 A n c _ (by omega) (by omega) hn (by omega) HS4.out).mono ?_
    rintro e w9 ⟨r, hr, rfl, hs, ho⟩
    have HA9 := Lib.hid (rowS (B := w.heap.size) ha1 HA4.out ho)
    have HB9 := Lib.hid (rowS (B := w.heap.size) hb1 HB4.out ho)
    have BB9 := Lib.hid (BB4.out.trans (ho.below (fun k hk => by omega) BB4.out.size))
    have hab := absv_in (n := (na : Int) - (nb : Int)) (B := 8) (by omega) (by omega)
    clear hs ho HS4 BB4
    go_wp2
    go_ret3
    refine ⟨ga, Ca, na, fa, gb, Cb, nb, fb, r, hr, ⟨okQ_true ka1 (by omega) fa1, by omega⟩, ⟨okQ_true kb1 (by omega) fb1, by omega⟩, rfl, pts_row HA9.out, pts_row HB9.out, BB9.out⟩
  · have hz : w4.heap.size < (w4.alloc (.cells #[] 65)).heap.size := by simp
    have hbl := below_alloc1 w4 (.cells #[] 65)
    have HN := Lib.hid (row_news HA4.out hbl)
    have HE := Lib.hid (rown.empty_row w4 65 3)
    have HS5 := Lib.hid (HS4.out.kept hbl)
    have HA5 := Lib.hid (rown.ownsRow_kept HA4.out hbl)
    have BB5 := Lib.hid (BB4.out.trans (hbl.mono BB4.out.size))
    have hlt4 : w.heap.size < w4.heap.size := HS4.out.lt
    have HBL := Lib.hid hbl
    have HA4' := Lib.hid HA4.out
    have HFX := Lib.hid (fun x : Nat => fun hx : x < 256 => show ∀ i, i < na → inF (put fa 0 ((x : Int), (fa 0).2.1, (fa 0).2.2) i) = true from fun i hi => by
      unfold put
      split
      · have := inF_of (fa1 0 (by omega))
        exact decide_eq_true ⟨by simp only; omega, by simp only; omega, by simp only; omega, by simp only; omega⟩
      · exact fa1 i hi)
    clear hbl HS4 HA4 BB4 HB4 HA5
    go_wp2_with (first
      | (at_builtin
         have z1 : ∀ u ∈ rws (row3 fa) na, u.oneCell' = true := rws_one fa na
         have z2 : 0 + na ≤ maxLen := (by simp only [maxLen]; omega)
         have z3 : (0 + na) * 24 ≤ 140737488355328 := (by omega)
         refine wpList_append_lies (w4.alloc (.cells #[] 65)) rfl _ _ 24 rfl w4.heap.size 65 i0 _ 3 24 Try.underlying24 hi0 hz0 hz1 hz2 rfl (by decide) (.slice (some ⟨w4.heap.size, 0, none⟩) 0 0) 0 [] rfl HE.out ⟨ga, 0, none⟩ na Ca (rws (row3 fa) na) rfl (rws_len (row3_len fa) na) HN.out z1 (by omega) z2 z3 (Nat.le_of_lt hz) _ rfl ?_
         intro g3 cap3 w6 hown hgr hat hlt3
         obtain ⟨hs6, hq6⟩ := grownW HS5.out hlt4 (Nat.le_of_lt hz) HE.out hgr
         have HX6 := Lib.hid hown
         have HS6 := Lib.hid hs6
         have HQ6 : Hid (OnlyF (fun k => nB w.heap.size w4.heap.size k) w4 w6) := Lib.hid ((OnlyF.of_below HBL.out).trans (toQ2 hq6))
         have BB6 := Lib.hid (BB5.out.trans (hq6.below (fun k hk => by omega) BB5.out.size))
         clear hown hgr hat hs6 hq6 z1 z2 z3 HE HS5 HN HBL BB5))
    refine (pick_calls w.heap.size (0 + 100 + 100 + 2) 256 A n c _ (by omega) (by omega) hn (by omega) HS6.out).mono ?_
    rintro e w7 ⟨x, hx, rfl, hs, ho⟩
    have HX7 := Lib.hid (show w7.ownsRow w4.heap.size 65 3 (.slice (some ⟨g3, 0, none⟩) na cap3) na (rws (row3 fa) na) by
      have := rowS (B := w.heap.size) hlt4 HX6.out ho
      simpa using this)
    have HQ7 := Lib.hid (HQ6.out.trans (toQ ho))
    have hg3 : w4.heap.size ≤ g3 := (rown.ownsRow_block HX7.out rfl).1
    have hl7 := row_lt HX7.out
    have BB7 := Lib.hid (BB6.out.trans (ho.below (fun k hk => by omega) BB6.out.size))
    have HS7 := Lib.hid hs
    have c0 := row_cell HX7.out (row3_len fa) (show 0 < na by omega) (show 0 < 3 by omega) (row3_get fa 0 0 (by omega))
    have c1 := free_row HX7.out 0
    rw [Nat.zero_mul, Nat.zero_add] at c0
    have hna : (0 : Int) < (na : Int) := by omega
    clear hs ho HX6 HQ6 BB6 HS6
    have HB8 := Lib.hid (show (w7.setCell ⟨g3, 0, none⟩ (.int .i64 (x : Int))).ownsRow w4.heap.size 65 3 (.slice (some ⟨g3, 0, none⟩) na cap3) na (rws (row3 (put fa 0 ((x : Int), (fa 0).2.1, (fa 0).2.2))) na) by
      rw [← setX fa na (by omega)]
      exact own_set1 HX7.out _ (by rw [rws_len (row3_len fa)]; omega))
    have HQ8 := Lib.hid (OnlyF.setCell HQ7.out (g := g3) (i := 0) (Or.inr hg3) (.int .i64 (x : Int)))
    have HA8 := Lib.hid (rowL (B := w.heap.size) (L := w4.heap.size) ha1 (Nat.le_refl _) HA4'.out HQ8.out)
    have BB8 := Lib.hid (BB7.out.setCell (p := ⟨g3, 0, none⟩) (show w.heap.size ≤ g3 by omega) (.int .i64 (x : Int)))
    have HS8 := Lib.hid (HS7.out.low (L := w4.heap.size) hlt4 ((Below.refl w4.heap.size w7).setCell (p := ⟨g3, 0, none⟩) hg3 (.int .i64 (x : Int))))
    have HFY := Lib.hid (HFX.out x hx)
    clear HX7 HQ7 BB7 HS7 HQ8 HA4' HFX
    go_wp2_with fail
    refine (sizeS _ (by omega) (by omega) _).mono ?_
    rintro e _ ⟨rfl, rfl⟩
    go_wp2_with fail
    refine (pick_calls w.heap.size (0 + 100 + 100 + 2 + 2) 4 A n c _ (by omega) (by omega) hn (by omega) HS8.out).mono ?_
    rintro e w9 ⟨r, hr, rfl, hs, ho⟩
    have HA9 := Lib.hid (rowS (B := w.heap.size) ha1 HA8.out ho)
    have HB9 := Lib.hid (rowS (B := w.heap.size) hlt4 HB8.out ho)
    have BB9 := Lib.hid (BB8.out.trans (ho.below (fun k hk => by omega) BB8.out.size))
    have hab := absv_in (n := 0) (B := 8) (by omega) (by omega)
    clear hs ho HS8 BB8
    go_wp2
    go_ret3
    exact ⟨ga, Ca, na, fa, g3, cap3, na, _, r, hr, ⟨okQ_true ka1 (by omega) fa1, by omega⟩, ⟨okQ_true ka1 (by omega) HFY.out, by omega⟩, by rw [Int.sub_self]; rfl, pts_row HA9.out, pts_row HB9.out, BB9.out⟩
end Go.Proofs.Ythpmckfjlbiiiab.src
