/-
  Proved: what the document's source draws as a sequence, lists of sequences and a band; what the searches, the order of the lists and the lists within a cost have to do with each other, for lists that are valid (plain lemmas for the law on searches); that one number of a list is found; for all arguments, the call of the law on searches returns true and leaves its arguments as they were.
  Conditions: those of each theorem.
-/
import Derived.Test.YtkcfghbkcgommabTwo
import Derived.Test.YtkcfghbkcgommabOwnS
import Derived.Test.YtkcfghbkcgommabNearI
import Derived.Test.YtkcfghbkcgommabPrunI
import Derived.Test.YtkcfghbkcgommabWithI
import Derived.Test.YtkcfghbkcgommabOrd2
import Derived.Test.YtkcfghbkcgommabBoundS
import Derived.Test.YtkcfghbkcgommabNearO
namespace Go.Proofs.Ytkcfghbkcgommab.src
open Go.ChangeShapes Go.WideShapes Go.ChangeAt Go.RowKit Go.Joins
open Go.Proofs.Ytkcfghbkcgommab.core Go.Proofs.Ytkcfghbkcgommab.rown Go.Proofs.Ytkcfghbkcgommab.stk Go.Proofs.Ytkcfghbkcgommab.boxed Go.Proofs.Ytkcfghbkcgommab.ft Go.Proofs.Ytkcfghbkcgommab.seq Go.Proofs.Ytkcfghbkcgommab.put3 Go.Proofs.Ytkcfghbkcgommab.env
set_option linter.unusedVariables false
set_option linter.unusedSimpArgs false
theorem infoFS : (Try.prog.info? 24).map (fun i => (i.zero, i.size, i.bytes)) = some (some (.slice none 0 0), 1, 24) := by kernel_rfl
theorem setY (f : Nat → P3) (n : Nat) (hn : 0 < n) (y : Int) : (rws (row3 f) n).set 1 (.int .i64 y) = rws (row3 (put f 0 ((f 0).1, y, (f 0).2.2))) n := by
  have h := set2 f n 0 hn (f 0).1 y
  rw [Nat.zero_mul, Nat.zero_add] at h
  rw [← h]
  congr 1
  refine (set_same ?_).symm
  have e := rws_get (row3_len f) 0 0 (by omega) n hn
  rw [Nat.zero_mul, Nat.zero_add] at e
  rw [e]
  rfl
/-- The headers of lists. -/
def hdr (gi ln ci : Nat → Nat) (i : Nat) : List Value := [.slice (some ⟨gi i, 0, none⟩) (ln i) (ci i)]
/-- Lists in memory of their own, from L on. -/
structure LD (W : World) (L gl j C : Nat) (gi ln ci : Nat → Nat) (lf : Nat → Nat → P3) : Prop where
  row : W.ownsRow L 24 1 (.slice (some ⟨gl, 0, none⟩) j C) j (rws (hdr gi ln ci) j)
  el : ∀ i, i < j → W.ownsRow L 46 3 (.slice (some ⟨gi i, 0, none⟩) (ln i) (ci i)) (ln i) (rws (row3 (lf i)) (ln i))
section

variable {W W' : World} {L gl j C : Nat} {gi ln ci : Nat → Nat} {lf : Nat → Nat → P3}
theorem LD.kept (h : LD W L gl j C gi ln ci lf) (hb : Below W.heap.size W W') : LD W' L gl j C gi ln ci lf := ⟨rown.ownsRow_kept h.row hb, fun i hi => rown.ownsRow_kept (h.el i hi) hb⟩
theorem LD.far {B M : Nat} (h : LD W L gl j C gi ln ci lf) (hB : B < L) (hM : W.heap.size ≤ M) (ho : OnlyF (fun k => nB B M k) W W') : LD W' L gl j C gi ln ci lf := ⟨rowL hB hM h.row ho, fun i hi => rowL hB hM (h.el i hi) ho⟩
theorem LD.src {B : Nat} (h : LD W L gl j C gi ln ci lf) (hB : B < L) (ho : OnlyF (fun k => k = B) W W') : LD W' L gl j C gi ln ci lf := ⟨rowS hB h.row ho, fun i hi => rowS hB (h.el i hi) ho⟩
/-- One list more. -/
theorem LD.push {o : Obj} {g c nb Cb gb : Nat} {fb : Nat → P3} (h : LD W L gl j C gi ln ci lf) (hb : W.ownsRow L 46 3 (.slice (some ⟨gb, 0, none⟩) nb Cb) nb (rws (row3 fb) nb)) (hgr : (W.alloc o).grownBy W' (Value.slice (some ⟨gl, 0, none⟩) j C).ownBlock) (hown : W'.ownsRow L 24 1 (.slice (some ⟨g, 0, none⟩) (j + 1) c) (j + 1) (rws (hdr gi ln ci) j ++ [.slice (some ⟨gb, 0, none⟩) nb Cb])) :
    LD W' L g (j + 1) c (fun i => if i = j then gb else gi i) (fun i => if i = j then nb else ln i) (fun i => if i = j then Cb else ci i) (fun i => if i = j then fb else lf i) := by
  have key : ∀ {v : Value} {m : Nat} {xs : List Value}, W.ownsRow L 46 3 v m xs → W'.ownsRow L 46 3 v m xs := fun hr => ownsRow_same hr fun g' hg => by
    obtain ⟨_, cur, hc⟩ := rown.ownsRow_block hr hg
    rw [hc]
    exact grown_block h.row hgr hc (by decide)
  refine ⟨?_, fun i hi => ?_⟩
  · have e : rws (hdr (fun i => if i = j then gb else gi i) (fun i => if i = j then nb else ln i) (fun i => if i = j then Cb else ci i)) (j + 1) = rws (hdr gi ln ci) j ++ [.slice (some ⟨gb, 0, none⟩) nb Cb] := by
      rw [rws_succ]
      congr 1
      · refine rws_congr j fun i hi => ?_
        unfold hdr
        have : ¬ i = j := by omega
        simp only [if_neg this]
      · unfold hdr; simp
    rw [e]
    exact hown
  · by_cases c : i = j
    · simp only [if_pos c]; exact key hb
    · simp only [if_neg c]; exact key (h.el i (by omega))
theorem LD.ls (h : LD W L gl j C gi ln ci lf) : LsAt W (some ⟨gl, 0, none⟩) j ln lf := fun i hi => by
  have hc := row_cell h.row (fun _ => rfl) hi (show 0 < 1 by omega) (show (hdr gi ln ci i)[0]? = some _ from rfl)
  rw [Nat.mul_one, Nat.add_zero] at hc
  exact ⟨gl, 0, some ⟨gi i, 0, none⟩, ci i, rfl, row_lt h.row, by rw [Nat.zero_add]; exact hc, pts_row (h.el i hi)⟩
end
theorem rowU {w w' : World} {b E k L g m c : Nat} {xs : List Value} (h : w.ownsRow b E k (.slice (some ⟨g, 0, none⟩) m c) m xs) (hx : 0 < 1) (hg : g < L) (hu : Below L w w') : w'.ownsRow b E k (.slice (some ⟨g, 0, none⟩) m c) m xs :=
  ownsRow_same h fun k hk => by injection hk with hk; subst hk; exact hu.block _ hg
set_option maxRecDepth 100000 in
set_option maxHeartbeats 16000000 in
theorem lists_calls (A : Option Addr) (n c : Nat) (w : World) (hn : n ≤ 3000) (h : BytesAt w w.heap.size A n) :
    Calls Try.prog 5 #[.slice A n c] w fun e w' => ∃ (ga Ca na : Nat) (fa : Nat → P3) (gl C N : Nat) (ln : Nat → Nat) (lf : Nat → Nat → P3) (r : Nat), r < 9 ∧ (okQ na fa = true ∧ na ≤ 8) ∧ N ≤ 5 ∧ (∀ i, i < N → okQ (ln i) (lf i) = true ∧ ln i ≤ 8) ∧ e = .returned (.tuple #[.slice (some ⟨ga, 0, none⟩) na Ca, .slice (some ⟨gl, 0, none⟩) N C, .int .i64 (r : Int)]) ∧ PtsAt w' (some ⟨ga, 0, none⟩) na fa ∧ LsAt w' (some ⟨gl, 0, none⟩) N ln lf ∧ Below w.heap.size w w' := by
  obtain ⟨i0, hi0, hz0, hz1, hz2⟩ := rown.info_get infoFeat
  obtain ⟨j0, hj0, jz0, jz1, jz2⟩ := rown.info_get infoFS
  have H0 := Lib.hid (from_calls A n c w h)
  clear h
  go_enter Try.func5, Try.ntmps5
  go_wp2_with fail
  refine H0.out.mono ?_
  rintro e w1 ⟨rfl, hs, hb⟩
  have BB1 := Lib.hid hb
  have ha1 : w.heap.size < w1.heap.size := hs.lt
  have H1 := Lib.hid (draw_calls w.heap.size 0 8 A n c w1 (by omega) (by omega) hn (by omega) hs)
  clear hs hb H0
  go_wp2_with fail
  refine H1.out.mono ?_
  rintro e w2 ⟨ga, Ca, na, fa, ka1, ka2, fa1, rfl, hA, hs, ho⟩
  have BB2 := Lib.hid (BB1.out.trans (ho.below (fun k hk => by rcases hk with e | e <;> omega) BB1.out.size))
  have hb1 : w.heap.size < w2.heap.size := hs.lt
  have ha2 : ga < w2.heap.size := row_lt hA
  have BE := Lib.hid (below_alloc1 w2 (.cells #[] 24))
  have HE := Lib.hid (rown.empty_row w2 24 1)
  have HS2 := Lib.hid (hs.kept BE.out)
  have HA2 := Lib.hid (rown.ownsRow_kept hA BE.out)
  have BB2' := Lib.hid (BB2.out.trans (BE.out.mono BB2.out.size))
  have HZ2 := Lib.hid (show w2.heap.size ≤ (w2.alloc (.cells #[] 24)).heap.size from BE.out.size)
  have HP := Lib.hid (pick_calls w.heap.size (0 + 100) 6 A n c _ (by omega) (by omega) hn (by omega) HS2.out)
  clear hA hs ho H1 BB1 BB2 BE
  go_wp2_with fail
  refine HP.out.mono ?_
  rintro e w3 ⟨K, hK, rfl, hs, ho⟩
  have HL3 := Lib.hid (show LD w3 w2.heap.size w2.heap.size 0 0 (fun _ => 0) (fun _ => 0) (fun _ => 0) (fun _ _ => (0, 0, 0)) from ⟨rowS hb1 HE.out ho, fun i hi => absurd hi (by omega)⟩)
  have HS3 := Lib.hid hs
  have HA3 := Lib.hid (rowS (B := w.heap.size) ha1 HA2.out ho)
  have BB3 := Lib.hid (BB2'.out.trans (ho.below (fun k hk => by omega) BB2'.out.size))
  have HZ3 := Lib.hid (Nat.le_trans HZ2.out ho.size)
  clear hs ho HP HE HS2 HA2 BB2' HZ2
  go_wp2
  go_loopw [7, 8] (fun o i w' => ∃ (j k gl C : Nat) (gi ln ci : Nat → Nat) (lf : Nat → Nat → P3), j + k = K ∧ i = .int .i64 (k : Int) ∧ o = .slice (some ⟨gl, 0, none⟩) j C ∧ Hid (∀ i, i < j → okQ (ln i) (lf i) = true ∧ ln i ≤ 8) ∧ Hid (LD w' w2.heap.size gl j C gi ln ci lf) ∧ Hid (Src w' w.heap.size (110 + 110 * j) A n c) ∧ Hid (w'.ownsRow w1.heap.size 46 3 (.slice (some ⟨ga, 0, none⟩) na Ca) na (rws (row3 fa) na)) ∧ Hid (Below w.heap.size w w') ∧ Hid (w2.heap.size ≤ w'.heap.size)) (fun _ i _ => (intOf i).toNat)
  case atStart => exact ⟨0, K, _, _, _, _, _, _, by omega, rfl, rfl, Lib.hid (fun i hi => absurd hi (by omega)), HL3, Lib.hid (HS3.out.mono (by omega)), HA3, BB3, HZ3⟩
  case round =>
    clear HL3 HS3 HA3 BB3 HZ3
    obtain ⟨j, k1, gl, C, gi, ln, ci, lf, hjk, rfl, rfl, HV, HLD, HS, HA, BB, HZ⟩ := hrel
    rcases Nat.eq_zero_or_pos k1 with rfl | hp
    · have hkn : ¬ (0 : Int) < ((0 : Nat) : Int) := by omega
      have H9 := Lib.hid (pick_calls w.heap.size (110 + 110 * j) 9 A n c _ (by omega) (by omega) hn (by omega) HS.out)
      go_wp2_with fail
      refine H9.out.mono ?_
      rintro e w9 ⟨r, hr, rfl, hs, ho⟩
      have HA9 := Lib.hid (rowS (B := w.heap.size) ha1 HA.out ho)
      have HL9 := Lib.hid (HLD.out.src hb1 ho)
      have BB9 := Lib.hid (BB.out.trans (ho.below (fun k hk => by omega) BB.out.size))
      clear hs ho HS BB HA HLD
      go_wp2
      go_ret3
      exact ⟨ga, Ca, na, fa, gl, C, j, ln, lf, r, hr, ⟨okQ_true ka1 (by omega) fa1, by omega⟩, by omega, HV.out, rfl, pts_row HA9.out, HL9.out.ls, BB9.out⟩
    · obtain ⟨k, rfl⟩ : ∃ k, k1 = k + 1 := ⟨k1 - 1, by omega⟩
      have hk : (0 : Int) < (k : Int) + 1 := by omega
      have HD := Lib.hid (draw_calls w.heap.size (110 + 110 * j) 8 A n c wr (by omega) (by omega) hn (by omega) HS.out)
      go_wp2_with fail
      refine HD.out.mono ?_
      rintro e w3 ⟨gb, Cb, nb, fb, kb1, kb2, fb1, rfl, hB, hs, ho⟩
      have HO := Lib.hid (one_calls w.heap.size (110 + 110 * j + 100) A n c w3 hn (by omega) hs)
      have HA3 := Lib.hid (rowL (B := w.heap.size) ha1 (Nat.le_refl _) HA.out ho)
      have HB3 := Lib.hid (row_low (b' := w2.heap.size) hB HZ.out)
      have HLD3 := Lib.hid (HLD.out.far hb1 (Nat.le_refl _) ho)
      have BB3 := Lib.hid (BB.out.trans (ho.below (fun k hk => by have h5 := BB.out.size; rcases hk with e | e <;> omega) BB.out.size))
      have HZ3 := Lib.hid (Nat.le_trans HZ.out ho.size)
      clear hB hs ho HD HA HLD BB HZ HS
      go_wp2_with fail
      refine HO.out.mono ?_
      rintro e w4 ⟨yes, rfl, hs, ho⟩
      have HA4 := Lib.hid (rowS (B := w.heap.size) ha1 HA3.out ho)
      have HB4 := Lib.hid (rowS (B := w.heap.size) hb1 HB3.out ho)
      have HLD4 := Lib.hid (HLD3.out.src hb1 ho)
      have BB4 := Lib.hid (BB3.out.trans (ho.below (fun k hk => by omega) BB3.out.size))
      have HZ4 := Lib.hid (Nat.le_trans HZ3.out ho.size)
      have HS4 := Lib.hid hs
      clear hs ho HO HA3 HB3 HLD3 BB3 HZ3
      cases yes
      · skip
        go_wp2_with (first
          | (at_builtin
             have z0 := rown.ownsRow_kept HLD4.out.row (below_alloc1 w4 (.cells #[.slice (some ⟨gb, 0, none⟩) nb Cb] 24))
             have z2 : ∀ u ∈ [Value.slice (some ⟨gb, 0, none⟩) nb Cb], u.oneCell' = true := (by simp [Value.oneCell'])
             have z3 : j + 1 ≤ maxLen := (by simp only [maxLen]; omega)
             have z4 : (j + 1) * 24 ≤ 140737488355328 := (by omega)
             have zb : w2.heap.size ≤ w4.heap.size := HZ4.out
             refine wpList_append_lies (w4.alloc (.cells #[.slice (some ⟨gb, 0, none⟩) nb Cb] 24)) rfl _ _ 25 rfl w2.heap.size 24 j0 _ 1 24 Try.underlying25 hj0 jz0 jz1 jz2 rfl (by decide) (.slice (some ⟨gl, 0, none⟩) j C) j _ rfl z0 ⟨w4.heap.size, 0, none⟩ 1 1 [.slice (some ⟨gb, 0, none⟩) nb Cb] rfl rfl (one_newW rfl) z2 (by decide) z3 z4 (Nat.le_trans zb (by simp)) _ rfl ?_
             intro g5 c5 w5 hown hgr hat hlt5
             have HL5 := Lib.hid (HLD4.out.push HB4.out hgr hown)
             have hu5 := rown.under HLD4.out.row zb hgr
             have HS5 := Lib.hid (HS4.out.low (L := w2.heap.size) hb1 hu5)
             have HA5 := Lib.hid (rowU HA4.out (by omega) ha2 hu5)
             have BB5 := Lib.hid (BB4.out.trans (hu5.mono (Nat.le_of_lt hb1)))
             have HZ5 := Lib.hid (show w2.heap.size ≤ w5.heap.size from Nat.le_trans zb hu5.size)
             clear hown hgr hat z0 z2 z3 z4 zb hu5))
        go_wp2
        go_roundw
        case rel => exact ⟨j + 1, k, g5, c5, _, _, _, _, by omega, by go_num, rfl, Lib.hid (fun i hi => by
          by_cases ci' : i = j
          · simp only [if_pos ci']; exact ⟨okQ_true kb1 (by omega) fb1, by omega⟩
          · simp only [if_neg ci']; exact HV.out i (by omega)), HL5, Lib.hid (HS5.out.mono (by omega)), HA5, BB5, HZ5⟩
        case measure => simp [intOf]; try omega
      · have hz : w4.heap.size < (w4.alloc (.cells #[] 46)).heap.size := by simp
        have hbl := below_alloc1 w4 (.cells #[] 46)
        have HN := Lib.hid (row_news HA4.out hbl)
        have HE := Lib.hid (rown.empty_row w4 46 3)
        have HS5 := Lib.hid (HS4.out.kept hbl)
        have BB5 := Lib.hid (BB4.out.trans (hbl.mono BB4.out.size))
        have hlt4 : w.heap.size < w4.heap.size := HS4.out.lt
        have HBL := Lib.hid hbl
        have HA4' := Lib.hid HA4.out
        have HLD4' := Lib.hid HLD4.out
        have HFX := Lib.hid (fun x : Nat => fun hx : x < 256 => show ∀ i, i < na → inF (put fa 0 ((fa 0).1, (x : Int), (fa 0).2.2) i) = true from fun i hi => by
          unfold put
          split
          · have := inF_of (fa1 0 (by omega))
            exact decide_eq_true ⟨by simp only; omega, by simp only; omega, by simp only; omega, by simp only; omega⟩
          · exact fa1 i hi)
        clear hbl HS4 HA4 BB4 HB4 HLD4
        go_wp2_with (first
          | (at_builtin
             have z1 : ∀ u ∈ rws (row3 fa) na, u.oneCell' = true := rws_one fa na
             have z2 : 0 + na ≤ maxLen := (by simp only [maxLen]; omega)
             have z3 : (0 + na) * 24 ≤ 140737488355328 := (by omega)
             refine wpList_append_lies (w4.alloc (.cells #[] 46)) rfl _ _ 24 rfl w4.heap.size 46 i0 _ 3 24 Try.underlying24 hi0 hz0 hz1 hz2 rfl (by decide) (.slice (some ⟨w4.heap.size, 0, none⟩) 0 0) 0 [] rfl HE.out ⟨ga, 0, none⟩ na Ca (rws (row3 fa) na) rfl (rws_len (row3_len fa) na) HN.out z1 (by omega) z2 z3 (Nat.le_of_lt hz) _ rfl ?_
             intro g3 cap3 w6 hown hgr hat hlt3
             obtain ⟨hs6, hq6⟩ := grownW HS5.out hlt4 (Nat.le_of_lt hz) HE.out hgr
             have HX6 := Lib.hid hown
             have HS6 := Lib.hid hs6
             have HQ6 : Hid (OnlyF (fun k => nB w.heap.size w4.heap.size k) w4 w6) := Lib.hid ((OnlyF.of_below HBL.out).trans (toQ2 hq6))
             have BB6 := Lib.hid (BB5.out.trans (hq6.below (fun k hk => by omega) BB5.out.size))
             clear hown hgr hat hs6 hq6 z1 z2 z3 HE HS5 HN HBL BB5))
        refine (pick_calls w.heap.size (110 + 110 * j + 100 + 2) 256 A n c _ (by omega) (by omega) hn (by omega) HS6.out).mono ?_
        rintro e w7 ⟨x, hx, rfl, hs, ho⟩
        have HX7 := Lib.hid (show w7.ownsRow w4.heap.size 46 3 (.slice (some ⟨g3, 0, none⟩) na cap3) na (rws (row3 fa) na) by
          have := rowS (B := w.heap.size) hlt4 HX6.out ho
          simpa using this)
        have HQ7 := Lib.hid (HQ6.out.trans (toQ ho))
        have hg3 : w4.heap.size ≤ g3 := (rown.ownsRow_block HX7.out rfl).1
        have hl7 := row_lt HX7.out
        have BB7 := Lib.hid (BB6.out.trans (ho.below (fun k hk => by omega) BB6.out.size))
        have HS7 := Lib.hid hs
        have c0 := row_cell HX7.out (row3_len fa) (show 0 < na by omega) (show 1 < 3 by omega) (row3_get fa 0 1 (by omega))
        have c1 := free_row HX7.out 1
        rw [Nat.zero_mul, Nat.zero_add] at c0
        have hna : (0 : Int) < (na : Int) := by omega
        clear hs ho HX6 HQ6 BB6 HS6
        have HB8 := Lib.hid (show (w7.setCell ⟨g3, 1, none⟩ (.int .i64 (x : Int))).ownsRow w2.heap.size 46 3 (.slice (some ⟨g3, 0, none⟩) na cap3) na (rws (row3 (put fa 0 ((fa 0).1, (x : Int), (fa 0).2.2))) na) by
          rw [← setY fa na (by omega)]
          exact row_low (own_set1 HX7.out _ (by rw [rws_len (row3_len fa)]; omega)) HZ4.out)
        have HQ8 := Lib.hid (OnlyF.setCell HQ7.out (g := g3) (i := 1) (Or.inr hg3) (.int .i64 (x : Int)))
        have HA8 := Lib.hid (rowL (B := w.heap.size) (L := w4.heap.size) ha1 (Nat.le_refl _) HA4'.out HQ8.out)
        have HLD8 := Lib.hid (HLD4'.out.far hb1 (Nat.le_refl _) HQ8.out)
        have BB8 := Lib.hid (BB7.out.setCell (p := ⟨g3, 1, none⟩) (show w.heap.size ≤ g3 by omega) (.int .i64 (x : Int)))
        have HS8 := Lib.hid (HS7.out.low (L := w4.heap.size) hlt4 ((Below.refl w4.heap.size w7).setCell (p := ⟨g3, 1, none⟩) hg3 (.int .i64 (x : Int))))
        have HZ8 := Lib.hid (Nat.le_trans HZ4.out HQ8.out.size)
        have HFY := Lib.hid (HFX.out x hx)
        clear HX7 HQ7 BB7 HS7 HQ8 HA4' HLD4' HFX HZ4
        go_wp2_with (first
          | (at_builtin
             have z0 := rown.ownsRow_kept HLD8.out.row (below_alloc1 (w7.setCell ⟨g3, 1, none⟩ (.int .i64 (x : Int))) (.cells #[.slice (some ⟨g3, 0, none⟩) na cap3] 24))
             have z2 : ∀ u ∈ [Value.slice (some ⟨g3, 0, none⟩) na cap3], u.oneCell' = true := (by simp [Value.oneCell'])
             have z3 : j + 1 ≤ maxLen := (by simp only [maxLen]; omega)
             have z4 : (j + 1) * 24 ≤ 140737488355328 := (by omega)
             have zb : w2.heap.size ≤ (w7.setCell ⟨g3, 1, none⟩ (.int .i64 (x : Int))).heap.size := HZ8.out
             refine wpList_append_lies ((w7.setCell ⟨g3, 1, none⟩ (.int .i64 (x : Int))).alloc (.cells #[.slice (some ⟨g3, 0, none⟩) na cap3] 24)) rfl _ _ 25 rfl w2.heap.size 24 j0 _ 1 24 Try.underlying25 hj0 jz0 jz1 jz2 rfl (by decide) (.slice (some ⟨gl, 0, none⟩) j C) j _ rfl z0 ⟨w7.heap.size, 0, none⟩ 1 1 [.slice (some ⟨g3, 0, none⟩) na cap3] rfl rfl (one_newW (by simp [World.setCell])) z2 (by decide) z3 z4 (Nat.le_trans zb (by simp)) _ rfl ?_
             intro g5 c5 w5 hown hgr hat hlt5
             have HL5 := Lib.hid (HLD8.out.push HB8.out hgr hown)
             have hu5 := rown.under HLD8.out.row zb hgr
             have HS5 := Lib.hid (HS8.out.low (L := w2.heap.size) hb1 hu5)
             have HA5 := Lib.hid (rowU HA8.out (by omega) ha2 hu5)
             have BB5 := Lib.hid (BB8.out.trans (hu5.mono (Nat.le_of_lt hb1)))
             have HZ5 := Lib.hid (show w2.heap.size ≤ w5.heap.size from Nat.le_trans zb hu5.size)
             clear hown hgr hat z0 z2 z3 z4 zb hu5))
        go_wp2
        go_roundw
        case rel => exact ⟨j + 1, k, g5, c5, _, _, _, _, by omega, by go_num, rfl, Lib.hid (fun i hi => by
          by_cases ci' : i = j
          · simp only [if_pos ci']; exact ⟨okQ_true ka1 (by omega) HFY.out, by omega⟩
          · simp only [if_neg ci']; exact HV.out i (by omega)), HL5, Lib.hid (HS5.out.mono (by omega)), HA5, BB5, HZ5⟩
        case measure => simp [intOf]; try omega
end Go.Proofs.Ytkcfghbkcgommab.src

namespace Go.Proofs.Ytkcfghbkcgommab.fnE

open Go.ChangeShapes Go.WideShapes Go.ChangeAt Go.RowKit Go.Joins

open Go.Proofs.Ytkcfghbkcgommab.core Go.Proofs.Ytkcfghbkcgommab.rown Go.Proofs.Ytkcfghbkcgommab.stk Go.Proofs.Ytkcfghbkcgommab.boxed Go.Proofs.Ytkcfghbkcgommab.ft Go.Proofs.Ytkcfghbkcgommab.seq Go.Proofs.Ytkcfghbkcgommab.src Go.Proofs.Ytkcfghbkcgommab.tab Go.Proofs.Ytkcfghbkcgommab.dp Go.Proofs.Ytkcfghbkcgommab.fnB Go.Proofs.Ytkcfghbkcgommab.env
set_option linter.unusedVariables false
set_option linter.unusedSimpArgs false
variable {na N : Nat} {fa : Nat → P3} {ln : Nat → Nat} {lf : Nat → Nat → P3} {band : Int}
theorem takes_el (h : LiOk na fa N ln lf) (hb : 0 ≤ band ∧ band ≤ 72) {i : Nat} (hi : i < N) (ht : takes na ln band i = true) : elC na (ln i) fa (lf i) band = 0 := by
  obtain ⟨hb2, hab⟩ := of_decide_eq_true ht
  unfold elC
  rw [if_pos ⟨h.1, h.2.2 i hi⟩, if_pos ⟨hb, hab⟩]
theorem bnd_pos (h : LiOk na fa N ln lf) {i : Nat} (hi : i < N) : 0 ≤ bndL na fa ln lf band i := by
  obtain ⟨a1, a2, a3⟩ := okQ_of h.1
  obtain ⟨b1, b2, b3⟩ := okQ_of (h.2.2 i hi)
  have h1 := (cst_in (a3 0 (by omega)) (b3 0 (by omega))).1
  have h2 := (cst_in (a3 (na - 1) (by omega)) (b3 (ln i - 1) (by omega))).1
  have h3 : 0 ≤ endsE na (ln i) fa (lf i) := by unfold endsE; split <;> omega
  have h4 : endsE na (ln i) fa (lf i) ≤ bndL na fa ln lf band i := by unfold bndL boundE; omega
  omega
theorem cost_in (h : LiOk na fa N ln lf) {i : Nat} (hi : i < N) : 0 ≤ costL na fa ln lf band i ∧ costL na fa ln lf band i ≤ 1000000574 := by
  obtain ⟨a1, a2, a3⟩ := okQ_of h.1
  obtain ⟨b1, b2, b3⟩ := okQ_of (h.2.2 i hi)
  exact tab_in (band := band) a3 b3 (na - 1) (ln i - 1) (by omega) (by omega)
/-- The first list within the least cost is the nearest one. -/
theorem wst_head {k : Nat} {c : Int} (hk : takes na ln band k = true) (hc : costL na fa ln lf band k ≤ c) (hbef : ∀ j, j < k → takes na ln band j = true → c < costL na fa ln lf band j) :
    ∀ i, (i ≤ k → wst na fa ln lf band c i = []) ∧ (k < i → ∃ tl, wst na fa ln lf band c i = (k : Int) :: tl)
  | 0 => ⟨fun _ => rfl, fun h => absurd h (by omega)⟩
  | i + 1 => by
    obtain ⟨h1, h2⟩ := wst_head hk hc hbef i
    refine ⟨fun hi => ?_, fun hi => ?_⟩
    · rw [wst, if_neg (fun hh => by have := hbef i (by omega) hh.1; omega), h1 (by omega)]
    · rw [wst]
      by_cases e : i = k
      · subst e
        rw [if_pos ⟨hk, hc⟩, h1 (Nat.le_refl _)]
        exact ⟨[], rfl⟩
      · obtain ⟨tl, ht⟩ := h2 (by omega)
        split
        · exact ⟨tl ++ [(i : Int)], by rw [ht]; rfl⟩
        · exact ⟨tl, ht⟩
theorem tcnt_zero (h : ∀ j, j < N → takes na ln band j = false) : ∀ i, i ≤ N → tcnt na ln band i = 0
  | 0, _ => rfl
  | i + 1, hi => by rw [tcnt, h i (by omega)]; simp [tcnt_zero h i (by omega)]
/-- What the law asks, of lists that are valid. -/
theorem facts (h0 : liC na fa N ln lf band = 0) :
    (nearR na fa N ln lf band = (0, 0, 3) ∧ prunR na fa N ln lf band = (0, 0, 0, 3) ∧ (ost na fa ln lf band N).1.length = 0) ∨
    ∃ (k : Nat) (c m : Int) (J : Nat → Nat) (X : Nat → Int) (x0 : Nat), k < N ∧ 0 ≤ c ∧ c ≤ 1000000574 ∧ nearR na fa N ln lf band = ((k : Int), c, 0) ∧ prunR na fa N ln lf band = ((k : Int), c, m, 0) ∧ 1 ≤ m ∧ m ≤ ((ost na fa ln lf band N).1.length : Int) ∧
      (x0 < (ost na fa ln lf band N).1.length ∧ J x0 = k) ∧
      (∀ i, i < (ost na fa ln lf band N).1.length → fOf (ost na fa ln lf band N).1 i = (J i : Int) ∧ J i < N ∧ elC na (ln (J i)) fa (lf (J i)) band = 0 ∧ lbR na (ln (J i)) fa (lf (J i)) band = X i ∧ 0 ≤ X i) ∧
      (∀ i j, i < j → j < (ost na fa ln lf band N).1.length → X i ≤ X j) ∧
      (∃ tl, wst na fa ln lf band c N = (k : Int) :: tl) ∧ wst na fa ln lf band (c - 1) N = [] := by
  obtain ⟨hL, hb⟩ := liC_of h0
  obtain ⟨p1, p2⟩ := pst_nst (band := band) hL N (Nat.le_refl _)
  obtain ⟨c1, c2⟩ := pst_cnt na fa ln lf band N
  have hcnt := ost_cnt na fa ln lf band N
  rcases nst_spec na fa ln lf band N with ⟨e, hno⟩ | ⟨k, hk, ht, e, hle, hbef⟩
  · left
    refine ⟨?_, ?_, ?_⟩
    · unfold nearR; rw [if_pos h0, e, if_pos (by omega)]
    · unfold prunR; rw [if_pos h0, p1, e, if_pos (by omega)]
    · rw [hcnt]; exact tcnt_zero hno N (Nat.le_refl _)
  · right
    obtain ⟨hl2, hlN⟩ := ost_len na fa ln lf band N
    have hmap := ost_map na fa ln lf band N
    have hris := ost_rising na fa ln lf band N
    have hmem : ∀ i, i < (ost na fa ln lf band N).1.length → ∃ j : Nat, fOf (ost na fa ln lf band N).1 i = (j : Int) ∧ j < N ∧ takes na ln band j = true := fun i hi => by
      have hx : fOf (ost na fa ln lf band N).1 i ∈ (ost na fa ln lf band N).1 := by
        unfold fOf
        rw [List.getD_eq_getElem?_getD, List.getElem?_eq_getElem hi]
        exact List.getElem_mem hi
      obtain ⟨j, hj, htj, e⟩ := (ost_mem N).1 hx
      exact ⟨j, e, hj, htj⟩
    have hf2 : ∀ i, i < (ost na fa ln lf band N).1.length → fOf (ost na fa ln lf band N).2 i = bndL na fa ln lf band (fOf (ost na fa ln lf band N).1 i).toNat := fun i hi => by
      rw [hmap]
      unfold fOf
      rw [List.getD_eq_getElem?_getD, List.getD_eq_getElem?_getD, List.getElem?_map, List.getElem?_eq_getElem hi]
      rfl
    have hkm : ((k : Int)) ∈ (ost na fa ln lf band N).1 := (ost_mem N).2 ⟨k, hk, ht, rfl⟩
    obtain ⟨x0, hx0, ex0⟩ := List.getElem_of_mem hkm
    have hfx0 : fOf (ost na fa ln lf band N).1 x0 = (k : Int) := by
      unfold fOf
      rw [List.getD_eq_getElem?_getD, List.getElem?_eq_getElem hx0, ex0]
      rfl
    have n1 : ¬ ((k : Int)) < 0 := by omega
    refine ⟨k, costL na fa ln lf band k, ((pst na fa ln lf band N).2.2 : Int), fun i => (fOf (ost na fa ln lf band N).1 i).toNat, fun i => fOf (ost na fa ln lf band N).2 i, x0, hk, (cost_in hL hk).1, (cost_in hL hk).2, ?_, ?_, ?_, ?_, ⟨hx0, ?_⟩, ?_, ?_, ?_, ?_⟩
    · unfold nearR; rw [if_pos h0, e, if_neg n1]
    · unfold prunR; rw [if_pos h0, p1, p2, e, if_neg n1]
    · have := c2 (by rw [p1, e]; simp only; omega); omega
    · rw [hcnt]; omega
    · simp only [hfx0]; omega
    · intro i hi
      obtain ⟨j, ej, hj, htj⟩ := hmem i hi
      have e2 := hf2 i hi
      simp only
      rw [e2, ej]
      have hjj : ((j : Int)).toNat = j := by omega
      rw [hjj]
      have hel := takes_el hL hb hj htj
      exact ⟨rfl, hj, hel, by unfold lbR; rw [if_pos hel]; rfl, bnd_pos hL hj⟩
    · intro i j hij hj
      exact hris i j hij (by rw [← hl2]; exact hj)
    · exact (wst_head ht (Int.le_refl _) hbef N).2 hk
    · have : ∀ x, x ∉ wst na fa ln lf band (costL na fa ln lf band k - 1) N := fun x hx => by
        obtain ⟨j, hj, htj, hcj, -⟩ := (wst_mem N).1 hx
        have := hle j hj htj
        omega
      exact List.eq_nil_iff_forall_not_mem.2 this
end Go.Proofs.Ytkcfghbkcgommab.fnE

namespace Go.Proofs.Ytkcfghbkcgommab.fnE

open Go.ChangeShapes Go.WideShapes Go.ChangeAt Go.RowKit Go.Joins

open Go.Proofs.Ytkcfghbkcgommab.core Go.Proofs.Ytkcfghbkcgommab.rown Go.Proofs.Ytkcfghbkcgommab.stk Go.Proofs.Ytkcfghbkcgommab.boxed Go.Proofs.Ytkcfghbkcgommab.ft Go.Proofs.Ytkcfghbkcgommab.seq Go.Proofs.Ytkcfghbkcgommab.src Go.Proofs.Ytkcfghbkcgommab.tab Go.Proofs.Ytkcfghbkcgommab.dp Go.Proofs.Ytkcfghbkcgommab.fnB Go.Proofs.Ytkcfghbkcgommab.env Go.Proofs.Ytkcfghbkcgommab.srt
set_option linter.unusedVariables false
set_option linter.unusedSimpArgs false
theorem num_vals {w : World} {base : Nat} {v : Value} {l : List Int} (h : w.ownsRow base 2 1 v l.length (vals l)) : ∃ (D : Option Addr) (d : Nat), v = .slice D l.length d ∧ NumAt w D l.length (fOf l) := by
  rw [vals_rws] at h
  obtain ⟨D, d, rfl⟩ := own_sl h (by decide)
  exact ⟨D, d, rfl, num_row h⟩
set_option maxRecDepth 100000 in
set_option maxHeartbeats 4000000 in
theorem has_calls (A : Option Addr) (n c : Nat) (F : Nat → Int) (x : Int) (w : World) (hn : n ≤ 40) (h : NumAt w A n F) (x0 : Nat) (hx0 : x0 < n) (hF : F x0 = x) :
    Calls Try.prog 9 #[.slice A n c, .int .i64 x] w fun e w' => e = .returned (.bool true) ∧ w = w' := by
  have HN := Lib.hid h
  have HF := Lib.hid hF
  clear h hF
  go_enter Try.func9, Try.ntmps9
  go_wp2
  go_loopw [5] (fun i w' => ∃ q : Nat, q ≤ x0 ∧ i = .int .i64 (q : Int) ∧ w = w') (fun i _ => x0 - (intOf i).toNat)
  case atStart => exact ⟨0, Nat.zero_le _, rfl, by first | rfl | trivial⟩
  case round =>
    obtain ⟨q, hq, rfl, rfl⟩ := hrel
    have hlt : q < n := by omega
    have hli : (q : Int) < (n : Int) := by omega
    obtain ⟨g, o, rfl, hg, c0⟩ := HN.out q hlt
    by_cases e : F q = x
    · rw [e] at c0
      go_wp2
      go_ret
      exact ⟨rfl, rfl⟩
    · have hq1 : q + 1 ≤ x0 := by
        rcases Nat.lt_or_ge q x0 with h | h
        · exact h
        · obtain rfl : q = x0 := by omega
          exact absurd HF.out e
      have hms : x0 - (q + 1) < x0 - q := by omega
      generalize F q = y at *
      go_wp2
      go_roundw
      case rel => exact ⟨q + 1, hq1, by go_num, by first | rfl | trivial⟩
      case measure => simp [intOf]; omega
set_option maxRecDepth 100000 in
set_option maxHeartbeats 8000000 in
theorem walk (A : Option Addr) (n c : Nat) (w : World) (hn : n ≤ maxLen) (h : BytesAt w w.heap.size A n) :
    Calls Try.prog 3 #[.slice A n c] w fun e w' => e = .returned (.bool true) ∧ Below w.heap.size w w' := by
  by_cases h3 : 3000 < n
  · have H := Lib.hid (long_calls A none n c 0 0 w hn (by unfold maxLen; omega) true ⟨fun _ => .inl h3, fun _ => rfl⟩)
    clear h h3
    go_enter Try.func3, Try.ntmps3
    go_wp2_with fail
    refine H.out.mono ?_
    rintro e _ ⟨rfl, rfl⟩
    go_wp2
    go_ret
    exact ⟨rfl, Below.refl _ _⟩
  · have H := Lib.hid (long_calls A none n c 0 0 w hn (by unfold maxLen; omega) false ⟨fun h => (by cases h), fun h => by omega⟩)
    have H0 := Lib.hid (lists_calls A n c w (by omega) h)
    clear h h3
    go_enter Try.func3, Try.ntmps3
    go_wp2_with fail
    refine H.out.mono ?_
    rintro e _ ⟨rfl, rfl⟩
    go_wp2_with fail
    refine H0.out.mono ?_
    rintro e w1 ⟨ga, Ca, na, fa, gl, C, N, ln, lf, r, hr, ⟨va, ha⟩, hN, hl, rfl, pa, pb, hb1⟩
    have h0 : liC na fa N ln lf (r : Int) = 0 := by unfold liC; rw [if_pos (li_iff.2 ⟨va, by omega, fun i hi => (hl i hi).1⟩), if_pos (by omega)]
    obtain ⟨Aa, hAa⟩ : ∃ Aa : Option Addr, some ⟨ga, 0, none⟩ = Aa := ⟨_, rfl⟩
    obtain ⟨Ab, hAb⟩ : ∃ Ab : Option Addr, some ⟨gl, 0, none⟩ = Ab := ⟨_, rfl⟩
    rw [hAa] at pa ⊢
    rw [hAb] at pb ⊢
    clear hAa hAb
    have HL8 := Lib.hid (fun i hi => (hl i hi).2)
    have HFS := Lib.hid (facts h0)
    have HMN := Lib.hid (ost_len na fa ln lf (r : Int) N).2
    have BB1 := Lib.hid hb1
    have PA := Lib.hid pa
    have PB := Lib.hid pb
    have H1 := Lib.hid (nearI (ca := Ca) (cb := C) Aa Ab na N fa ln lf (r : Int) w1 (by omega) (by omega) (fun i hi => by have := HL8.out i hi; omega) pa pb)
    have HP := Lib.hid (fun W pa pb => prunI (ca := Ca) (cb := C) Aa Ab na N fa ln lf (r : Int) W (by omega) (by omega) (fun i hi => by have := HL8.out i hi; omega) pa pb)
    have HO := Lib.hid (fun W pa pb => orderI_yes (ca := Ca) (cb := C) Aa Ab na N fa ln lf (r : Int) W (by omega) (by omega) (fun i hi => by have := HL8.out i hi; omega) pa pb h0)
    have HW := Lib.hid (fun lim W pa pb => withinI_yes (ca := Ca) (cb := C) Aa Ab na N fa ln lf (r : Int) lim W (by omega) (by omega) (fun i hi => by have := HL8.out i hi; omega) pa pb h0)
    have HLW := Lib.hid (fun j (hj : j < N) Ai ci W pa pb => lowerS (ca := Ca) (cb := ci) Aa Ai na (ln j) fa (lf j) (r : Int) W (by omega) (by have := HL8.out j hj; omega) pa pb)
    clear H H0 hb1 pa pb hl va h0
    have HOR := Lib.hid (show ∃ l, (ost na fa ln lf (r : Int) N).1 = l from ⟨_, rfl⟩)
    obtain ⟨L, hL⟩ := HOR.out
    clear HOR
    rw [hL] at HFS HMN HO
    clear hL
    have hM5 : L.length ≤ 5 := by have := HMN.out; omega
    have hMN : ¬ ((N : Nat) : Int) < (L.length : Int) := by have := HMN.out; omega
    rcases HFS.out with ⟨e1, e2, e3⟩ | ⟨k, cs, m, J, X, x0, hk, hc0, hc1, e1, e2, hm1, hm2, ⟨hx0, hJx⟩, hJ, hX, ⟨tl, hw1⟩, hw2⟩
    · rw [e1] at H1
      rw [e2] at HP
      simp only at H1 HP
      clear HFS HMN HW HLW e1 e2
      go_wp2_with fail
      refine H1.out.mono ?_
      rintro e w2 ⟨rfl, hb2⟩
      have PA2 := Lib.hid (PA.out.kept hb2)
      have PB2 := Lib.hid (PB.out.kept hb2)
      have BB2 := Lib.hid (BB1.out.trans (hb2.mono BB1.out.size))
      clear hb2 H1 PA PB BB1
      have H1 := Lib.hid (HP.out w2 PA2.out PB2.out)
      clear HP
      go_wp2_with fail
      refine H1.out.mono ?_
      rintro e w3 ⟨rfl, hb2⟩
      have PA3 := Lib.hid (PA2.out.kept hb2)
      have PB3 := Lib.hid (PB2.out.kept hb2)
      have BB3 := Lib.hid (BB2.out.trans (hb2.mono BB2.out.size))
      clear hb2 H1 PA2 PB2 BB2
      have H1 := Lib.hid (HO.out w3 PA3.out PB3.out)
      clear HO
      go_wp2_with fail
      refine H1.out.mono ?_
      rintro e w4 ⟨v, rfl, hrow, hb2⟩
      obtain ⟨D, d, rfl, -⟩ := num_vals hrow
      have BB4 := Lib.hid (BB3.out.trans (hb2.mono BB3.out.size))
      clear hb2 H1 PA3 PB3 BB3 hrow
      rw [e3] at hMN ⊢
      clear e3 hM5
      go_wp2
      go_ret
      exact ⟨rfl, BB4.out⟩
    · rw [e1] at H1
      rw [e2] at HP
      simp only at H1 HP
      have HJ := Lib.hid hJ
      have HX := Lib.hid hX
      have HW1 := Lib.hid (HW.out cs)
      have HW2 := Lib.hid (HW.out (cs - 1))
      rw [hw1] at HW1
      rw [hw2] at HW2
      have HJX := Lib.hid (show fOf L x0 = (k : Int) by rw [(hJ x0 hx0).1, hJx])
      clear HFS HMN HW e1 e2 hw1 hw2 hJ hX hJx
      go_wp2_with fail
      refine H1.out.mono ?_
      rintro e w2 ⟨rfl, hb2⟩
      have PA2 := Lib.hid (PA.out.kept hb2)
      have PB2 := Lib.hid (PB.out.kept hb2)
      have BB2 := Lib.hid (BB1.out.trans (hb2.mono BB1.out.size))
      clear hb2 H1 PA PB BB1
      have H1 := Lib.hid (HP.out w2 PA2.out PB2.out)
      clear HP
      go_wp2_with fail
      refine H1.out.mono ?_
      rintro e w3 ⟨rfl, hb2⟩
      have PA3 := Lib.hid (PA2.out.kept hb2)
      have PB3 := Lib.hid (PB2.out.kept hb2)
      have BB3 := Lib.hid (BB2.out.trans (hb2.mono BB2.out.size))
      clear hb2 H1 PA2 PB2 BB2
      have H1 := Lib.hid (HO.out w3 PA3.out PB3.out)
      clear HO
      go_wp2_with fail
      refine H1.out.mono ?_
      rintro e w4 ⟨v, rfl, hrow, hb2⟩
      obtain ⟨D, d, rfl, hnum⟩ := num_vals hrow
      have PA4 := Lib.hid (PA3.out.kept hb2)
      have PB4 := Lib.hid (PB3.out.kept hb2)
      have BB4 := Lib.hid (BB3.out.trans (hb2.mono BB3.out.size))
      have HNUM := Lib.hid hnum
      clear hb2 H1 PA3 PB3 BB3 hrow
      have H1 := Lib.hid (has_calls D L.length d (fOf L) (k : Int) w4 (by omega) hnum x0 hx0 HJX.out)
      clear hnum HJX hx0
      generalize fOf L = F at *
      generalize L.length = M at *
      go_wp2_with fail
      refine H1.out.mono ?_
      rintro e _ ⟨rfl, rfl⟩
      clear H1
      obtain ⟨Y, hY⟩ : ∃ Y : Nat → Int, Y = fun x => if x = 0 then -1 else X (x - 1) := ⟨_, rfl⟩
      have HY0 := Lib.hid (show Y 0 = -1 by rw [hY]; rfl)
      have HYS := Lib.hid (show ∀ x, Y (x + 1) = X x by intro x; rw [hY]; rfl)
      have HYX := Lib.hid (show ∀ x, x < M → ¬ X x < Y x by
        intro x hx
        rw [hY]
        simp only
        split
        · have := (HJ.out x hx).2.2.2.2; omega
        · have := HX.out (x - 1) x (by omega) hx; omega)
      clear hY HX
      go_wp2
      clear hm1 hm2
      go_loopw [15, 16] (fun l i w' => ∃ x : Nat, x ≤ M ∧ i = .int .i64 (x : Int) ∧ l = .int .i64 (Y x) ∧ Hid (Below w4.heap.size w4 w')) (fun _ i _ => M - (intOf i).toNat)
      case atStart => exact ⟨0, Nat.zero_le _, rfl, by rw [HY0.out], Lib.hid (Below.refl _ _)⟩
      case round =>
        obtain ⟨x, hx, rfl, rfl, HB⟩ := hrel
        by_cases hlt : x < M
        · have hli : (x : Int) < (M : Int) := by omega
          have hx1 : x + 1 ≤ M := by omega
          have hms : M - (x + 1) < M - x := by omega
          obtain ⟨g, o, rfl, hg, c0⟩ := (HNUM.out.kept HB.out) x hlt
          obtain ⟨q1, q2, q3, q4, q5⟩ := HJ.out x hlt
          obtain ⟨b2, o2, Ai, ci, rfl, hg2, c2, hp⟩ := (PB4.out.kept HB.out) (J x) q2
          have H1 := Lib.hid (HLW.out (J x) q2 Ai ci wr (PA4.out.kept HB.out) hp)
          rw [q4, q3] at H1
          rw [q1] at c0
          have hnl := HYX.out x hlt
          have HN := Lib.hid (HYS.out x)
          have hj1 : ¬ (N : Int) ≤ (J x : Int) := by omega
          have hj2 : ¬ ((J x : Nat) : Int) < 0 := by omega
          have hj3 : ((J x : Nat) : Int) < (N : Int) := by omega
          clear hp q1 q3 q4 q5
          generalize J x = j at *
          generalize ln j = lj at *
          generalize X x = xx at *
          generalize Y x = yx at *
          go_wp2_with fail
          refine H1.out.mono ?_
          rintro e w5 ⟨rfl, hb2⟩
          have HB2 := Lib.hid (HB.out.trans (hb2.mono HB.out.size))
          clear hb2 H1 c0 c2
          go_wp2
          go_roundw
          case rel => exact ⟨x + 1, hx1, by go_num, by rw [HN.out], HB2⟩
          case measure => simp [intOf]; omega
        · have hxn : ¬ (x : Int) < (M : Int) := by omega
          have PA5 := Lib.hid (PA4.out.kept HB.out)
          have PB5 := Lib.hid (PB4.out.kept HB.out)
          have BB5 := Lib.hid (BB4.out.trans (HB.out.mono BB4.out.size))
          have H1 := Lib.hid (HW1.out wr PA5.out PB5.out)
          clear hlt HNUM PA4 PB4 BB4 HB HW1 HLW HJ HYX HYS
          go_wp2_with fail
          refine H1.out.mono ?_
          rintro e w5 ⟨v, rfl, hrow, hb2⟩
          obtain ⟨D1, d1, rfl, hnum⟩ := num_vals hrow
          have PA6 := Lib.hid (PA5.out.kept hb2)
          have PB6 := Lib.hid (PB5.out.kept hb2)
          have BB6 := Lib.hid (BB5.out.trans (hb2.mono BB5.out.size))
          have HNUM := Lib.hid hnum
          clear hb2 H1 PA5 PB5 BB5 hrow hnum
          have H1 := Lib.hid (HW2.out w5 PA6.out PB6.out)
          clear HW2
          go_wp2_with fail
          refine H1.out.mono ?_
          rintro e w6 ⟨v, rfl, hrow, hb2⟩
          obtain ⟨D2, d2, rfl, -⟩ := num_vals hrow
          have BB7 := Lib.hid (BB6.out.trans (hb2.mono BB6.out.size))
          obtain ⟨g, o, rfl, hg, c0⟩ := (HNUM.out.kept hb2) 0 (by simp)
          rw [show fOf ((k : Int) :: tl) 0 = (k : Int) from rfl, Nat.add_zero] at c0
          obtain ⟨q, hq⟩ : ∃ q : Nat, tl.length + 1 = q := ⟨_, rfl⟩
          rw [hq]
          have hq0 : (0 : Int) < (q : Int) := by omega
          clear hb2 H1 PA6 PB6 BB6 hrow HNUM hq
          go_wp2
          go_ret
          exact ⟨by simp, BB7.out⟩
theorem own : ownKnob Try.prog.godebug = none := by kernel_rfl
theorem reads : ∀ t ∈ Try.f3.params.toList, Try.prog.readableRec t = true ∧ t < Try.prog.types.size := by
  rw [Try.params3]
  intro t ht
  obtain rfl : t = 22 := by simpa using ht
  exact ⟨by kernel_rfl, of_decide_eq_true (by kernel_rfl)⟩

set_option maxRecDepth 100000 in
theorem contract (H : Type) (enc : TypeId × Value → H) (W : World) (base : Nat) (args : Array Value) (ds gs : List (DataW H)) (before : List MemPlace)
    (hval : ∀ (j : Nat) t v, Try.f3.params[j]? = some t → args[j]? = some v → Value.okWide Try.prog W .any base t v)
    (hW : DataW.Whole enc Try.prog Try.f3.params.toList Rows.fnNearestSpec.vars false W args.toList ds gs before) :
    Calls Try.prog 3 args W fun e W' => ∃ v, e = .returned v ∧ Rows.fnNearestSpec.post enc Try.prog Try.f3 false true false false W args v W' := by
  have hW' := hW
  obtain ⟨p, q, hA0, hV, rfl, hfz, hnd⟩ := hW
  have hA : DataW.TrodAll enc Try.prog W 0 (fun _ => true) true Try.f3.params.toList args.toList ds p := hA0
  rw [Try.params3] at hA hval
  obtain ⟨v0, zs0, d0, ds0, p0, q0, hargs, rfl, rfl, h0, e0⟩ := trodAll_cons hA
  obtain ⟨rfl, rfl, rfl⟩ := trodAll_nil e0
  obtain rfl : args = #[v0] := by cases args; simp_all
  obtain ⟨rfl, rfl⟩ := trodVars_none hV
  obtain ⟨A, n, c, rfl, hn, hb⟩ := open_bytesAt (hval 0 22 v0 rfl rfl) h0
  refine (walk A n c W hn hb).mono fun e W' ⟨he, hg⟩ => ?_
  subst he
  exact ⟨_, rfl, law_post (by kernel_rfl) reads (by kernel_rfl) Try.underlying4 rfl hW' rfl rfl rfl hg⟩

set_option maxRecDepth 100000 in
theorem lifted (os : Os) (started : os.Started) (H : Type) (enc : TypeId × Value → H) :
    ReturnsInHanded {} Try.checked os 3 .any (Rows.fnNearestSpec.pre6 enc Try.prog Try.f3 Rows.fnNearestRow.domain false) (Rows.fnNearestSpec.post enc Try.prog Try.f3 false true false false) := by
  refine returnsInHanded_of_change (C := Try.checked) own started (by kernel_rfl) Try.func3
    (ChangeSpec.witness6 (enc := enc) (C := Try.checked) false ⟨#[], #[.slice none 0 0], []⟩ 8 (by kernel_rfl) (by kernel_rfl) (by kernel_rfl) (by kernel_rfl)) ?_
  intro W base args ds gs before hval hW _ _
  exact contract H enc W base args ds gs before hval hW

theorem holds : Rows.FnNearestSaid :=
  OpenClaim.holds_of_wide 3 Try.f3 rfl rfl rfl rfl rfl rfl rfl ⟨rfl, rfl, rfl, rfl, rfl⟩ rfl rfl rfl rfl rfl (by kernel_rfl) Try.func3 (by kernel_rfl)
    (of_decide_eq_true (by kernel_rfl)) (by unfold Func.isWrapper; first | (rw [if_pos (by decide +kernel)]; kernel_rfl) | (rw [if_neg (by decide +kernel)]; exact ⟨rfl, rfl⟩))
    (fun os started H enc _ => lifted os started H enc)
end Go.Proofs.Ytkcfghbkcgommab.fnE
