/-
  Proved: the call of the law on the best part returns true and leaves its arguments as they were (the walk).
  Conditions: none.
-/
import Derived.Test.YthpmckfjlbiiiabFnB
import Derived.Test.YthpmckfjlbiiiabFnO
import Derived.Test.YthpmckfjlbiiiabFeatsA
import Derived.Test.YthpmckfjlbiiiabPartI
namespace Go.Proofs.Ythpmckfjlbiiiab.fnQ
open Go.ChangeShapes Go.WideShapes Go.ChangeAt Go.RowKit Go.Joins
open Go.Proofs.Ythpmckfjlbiiiab.core Go.Proofs.Ythpmckfjlbiiiab.rown Go.Proofs.Ythpmckfjlbiiiab.stk Go.Proofs.Ythpmckfjlbiiiab.boxed Go.Proofs.Ythpmckfjlbiiiab.ft Go.Proofs.Ythpmckfjlbiiiab.seq Go.Proofs.Ythpmckfjlbiiiab.src Go.Proofs.Ythpmckfjlbiiiab.tab Go.Proofs.Ythpmckfjlbiiiab.path Go.Proofs.Ythpmckfjlbiiiab.dp Go.Proofs.Ythpmckfjlbiiiab.fnB Go.Proofs.Ythpmckfjlbiiiab.put3
set_option linter.unusedVariables false
set_option linter.unusedSimpArgs false
theorem cat_rws (nb na : Nat) (fb fa : Nat → P3) : rws (row3 (cat nb fb fa)) (nb + na) = rws (row3 fb) nb ++ rws (row3 fa) na := by
  induction na with
  | zero =>
    rw [Nat.add_zero]
    show _ = rws (row3 fb) nb ++ []
    rw [List.append_nil]
    exact rws_congr nb fun i hi => by unfold row3 cat; rw [if_pos hi]
  | succ n ih =>
    rw [show nb + (n + 1) = nb + n + 1 from rfl, rws_succ, rws_succ, ih, List.append_assoc]
    congr 2
    unfold row3 cat
    rw [if_neg (by omega), Nat.add_sub_cancel_left]
theorem grownR {w w' : World} {base : Nat} {v : Value} {m : Nat} {xs : List Value} (hbz : base ≤ w.heap.size) (hown : w.ownsRow base 65 3 v m xs) (hgr : w.grownBy w' v.ownBlock) : Below base w w' :=
  (Below.refl base w).grown hgr hbz (fun k hk => (rown.ownsRow_block hown hk).1)
set_option maxRecDepth 100000 in
set_option maxHeartbeats 8000000 in
theorem walk (A D : Option Addr) (n c m d : Nat) (w : World) (hn : n ≤ maxLen) (hm : m ≤ maxLen) (h : BytesAt w w.heap.size A n) (hd : BytesAt w w.heap.size D m) :
    Calls Try.prog 7 #[.slice A n c, .slice D m d] w fun e w' => e = .returned (.bool true) ∧ Below w.heap.size w w' := by
  obtain ⟨i0, hi0, hz0, hz1, hz2⟩ := rown.info_get infoFeat
  by_cases h3 : 3000 < n ∨ 3000 < m
  · have H := Lib.hid (long_calls A D n c m d w hn hm true ⟨fun _ => h3, fun _ => rfl⟩)
    clear h hd h3
    go_enter Try.func7, Try.ntmps7
    go_wp2_with fail
    refine H.out.mono ?_
    rintro e _ ⟨rfl, rfl⟩
    go_wp2
    go_ret
    exact ⟨rfl, Below.refl _ _⟩
  · have H := Lib.hid (long_calls A D n c m d w hn hm false ⟨fun h => (by cases h), fun h => absurd h h3⟩)
    have H0 := Lib.hid (feats_calls A n c w (by omega) h)
    have HD := Lib.hid hd
    have hm3 : m ≤ 3000 := by omega
    clear h hd h3
    go_enter Try.func7, Try.ntmps7
    go_wp2_with fail
    refine H.out.mono ?_
    rintro e _ ⟨rfl, rfl⟩
    go_wp2_with fail
    refine H0.out.mono ?_
    rintro e w1 ⟨ga, Ca, na, fa, va, ha, rfl, ho, hb1⟩
    have BB1 := Lib.hid hb1
    have OA1 := Lib.hid ho
    have H1 := Lib.hid (feats_calls D m d w1 hm3 ((HD.out.kept hb1).more hb1.size))
    clear hb1 ho H H0 HD
    go_wp2_with fail
    refine H1.out.mono ?_
    rintro e w2 ⟨gb, Cb, nb, fb, vb, hb, rfl, ho, hb2⟩
    have hcb : nb ≤ Cb := own_cap ho
    have OA2 := Lib.hid (rown.ownsRow_kept OA1.out hb2)
    have PA2 := Lib.hid (pts_row OA2.out)
    have OB2 := Lib.hid ho
    have PB2 := Lib.hid (pts_row OB2.out)
    have BB2 := Lib.hid (BB1.out.trans (hb2.mono BB1.out.size))
    have na1 : 1 ≤ na := (okQ_of va).1
    have nb1 : 1 ≤ nb := (okQ_of vb).1
    have VA := Lib.hid va
    have VB := Lib.hid vb
    obtain ⟨v, x, e0, hpo, hx, he, vs, es, ls, hvw, hv0, hv1, -⟩ := part_facts va vb
    have ES := Lib.hid es
    have VS := Lib.hid vs
    have LS := Lib.hid ls
    have EW := Lib.hid (show elC na nb fa fb 72 = 0 by
      have := (absv_in (n := (na : Int) - (nb : Int)) (B := 72) (by omega) (by omega)).2
      unfold elC; rw [if_pos ⟨va, vb⟩, if_pos ⟨by omega, this⟩])
    obtain ⟨U, hU⟩ : ∃ U, leastE na nb fa fb 72 = U := ⟨_, rfl⟩
    have LW := Lib.hid hU
    have hvU : v ≤ U := by omega
    have hdU : decide (v ≤ U) = true := decide_eq_true hvU
    have VC := Lib.hid (cat_ok va vb (by omega))
    have ZC := Lib.hid (cat_zero va vb (by omega))
    have HP := Lib.hid (partI_yes (ca := Ca) (cb := Cb) (some ⟨ga, 0, none⟩) (some ⟨gb, 0, none⟩) na nb fa fb w2 hcb PA2.out PB2.out (by unfold partOk; rw [va, vb]; rfl))
    rw [hpo] at HP
    clear va vb hb2 ho hpo vs es ls hvw hU OA1 BB1 H1
    go_wp2_with fail
    refine HP.out.mono ?_
    rintro e w3 ⟨rfl, hb3⟩
    have OA3 := Lib.hid (rown.ownsRow_kept OA2.out hb3)
    have PA3 := Lib.hid (PA2.out.kept hb3)
    have OB3 := Lib.hid (rown.ownsRow_kept OB2.out hb3)
    have PB3 := Lib.hid (PB2.out.kept hb3)
    have BB3 := Lib.hid (BB2.out.trans (hb3.mono BB2.out.size))
    clear hb3 HP OA2 PA2 OB2 PB2 BB2
    have i1 : (0 : Int) ≤ (x : Int) := by omega
    have i2 : (x : Int) ≤ (e0 : Int) := by omega
    have i3 : ¬ ((Cb : Int) < (e0 : Int)) := by omega
    have i4 : (e0 : Int) ≤ (Cb : Int) := by omega
    have i5 : ¬ Cb = x := by omega
    have i6 : ¬ (x : Int) < 0 := by omega
    have i7 : ¬ (e0 : Int) ≤ (x : Int) := by omega
    have i8 : ¬ (nb : Int) < (e0 : Int) := by omega
    have HE := Lib.hid (elasticS (ca := Ca) (cb := Cb - x) (some ⟨ga, 0, none⟩) (some ⟨gb, 0 + x * 3, none⟩) na (e0 - x) fa (shift fb x) 72 w3 (by omega) (by omega) PA3.out (shift_at (x := x) PB3.out he))
    have RE := Lib.hid (show elR na (e0 - x) fa (shift fb x) 72 = v by unfold elR; rw [if_pos ES.out]; exact LS.out)
    rw [RE.out, ES.out, Nat.zero_add] at HE
    clear RE ES LS VS
    go_wp2_with fail
    refine HE.out.mono ?_
    rintro e w4 ⟨rfl, hb3⟩
    have OA4 := Lib.hid (rown.ownsRow_kept OA3.out hb3)
    have PA4 := Lib.hid (PA3.out.kept hb3)
    have OB4 := Lib.hid (rown.ownsRow_kept OB3.out hb3)
    have PB4 := Lib.hid (PB3.out.kept hb3)
    have BB4 := Lib.hid (BB3.out.trans (hb3.mono BB3.out.size))
    clear hb3 HE OA3 PA3 OB3 PB3 BB3
    have HE := Lib.hid (elasticS (ca := Ca) (cb := Cb) (some ⟨ga, 0, none⟩) (some ⟨gb, 0, none⟩) na nb fa fb 72 w4 (by omega) (by omega) PA4.out PB4.out)
    have RE := Lib.hid (show elR na nb fa fb 72 = U by unfold elR; rw [if_pos EW.out]; exact LW.out)
    rw [RE.out, EW.out] at HE
    clear RE EW LW
    clear i1 i2 i3 i4 i5 i6 i7 i8
    go_wp2_with fail
    refine HE.out.mono ?_
    rintro e w5 ⟨rfl, hb3⟩
    have OA5 := Lib.hid (rown.ownsRow_kept OA4.out hb3)
    have PA5 := Lib.hid (PA4.out.kept hb3)
    have OB5 := Lib.hid (rown.ownsRow_kept OB4.out hb3)
    have BB5 := Lib.hid (BB4.out.trans (hb3.mono BB4.out.size))
    clear hb3 HE OA4 PA4 OB4 PB4 BB4
    have hbl := below_alloc1 w5 (.cells #[] 65)
    have hz : w5.heap.size < (w5.alloc (.cells #[] 65)).heap.size := by simp
    have HN := Lib.hid (row_news OB5.out hbl)
    have HM := Lib.hid (fun W (hW : Below w5.heap.size w5 W) => row_news OA5.out hW)
    have HX := Lib.hid (rown.empty_row w5 65 3)
    have PA6 := Lib.hid (PA5.out.kept hbl)
    have HBL := Lib.hid hbl
    have hs0 := hbl.size
    clear hbl
    have i5 : 1 ≤ nb := nb1
    go_wp2_with (first
      | (at_builtin
         have z1 : ∀ u ∈ rws (row3 fb) nb, u.oneCell' = true := rws_one fb nb
         have z2 : 0 + nb ≤ maxLen := (by simp only [maxLen]; omega)
         have z3 : (0 + nb) * 24 ≤ 140737488355328 := (by omega)
         refine wpList_append_lies (w5.alloc (.cells #[] 65)) rfl _ _ 24 rfl w5.heap.size 65 i0 _ 3 24 Try.underlying24 hi0 hz0 hz1 hz2 rfl (by decide) (.slice (some ⟨w5.heap.size, 0, none⟩) 0 0) 0 [] rfl HX.out ⟨gb, 0, none⟩ nb Cb (rws (row3 fb) nb) rfl (rws_len (row3_len fb) nb) HN.out z1 (by omega) z2 z3 (Nat.le_of_lt hz) _ rfl ?_
         intro g3 cap3 w6 hown hgr hat hlt3
         have hg6 := grownR (Nat.le_of_lt hz) HX.out hgr
         have B56 := Lib.hid (HBL.out.trans hg6)
         have HX6 := Lib.hid (show w6.ownsRow w5.heap.size 65 3 (.slice (some ⟨g3, 0, none⟩) nb cap3) nb (rws (row3 fb) nb) by simpa using hown)
         have PA7 := Lib.hid (PA5.out.kept B56.out)
         clear hown hgr hat hg6 z1 z2 z3 HX HN HBL PA6 hz)
      | (at_builtin
         have y1 : ∀ u ∈ rws (row3 fa) na, u.oneCell' = true := rws_one fa na
         have y2 : nb + na ≤ maxLen := (by simp only [maxLen]; omega)
         have y3 : (nb + na) * 24 ≤ 140737488355328 := (by omega)
         refine wpList_append_lies w6 rfl _ _ 24 rfl w5.heap.size 65 i0 _ 3 24 Try.underlying24 hi0 hz0 hz1 hz2 rfl (by decide) (.slice (some ⟨g3, 0, none⟩) nb cap3) nb _ rfl HX6.out ⟨ga, 0, none⟩ na Ca (rws (row3 fa) na) rfl (rws_len (row3_len fa) na) (HM.out _ B56.out) y1 (by omega) y2 y3 B56.out.size _ rfl ?_
         intro g4 cap4 w7 hown hgr hat hlt4
         have hg7 := grownR B56.out.size HX6.out hgr
         have B57 := Lib.hid (B56.out.trans hg7)
         have HX7 := Lib.hid hown
         have PA8 := Lib.hid (PA5.out.kept B57.out)
         have BB7 := Lib.hid (BB5.out.trans (B57.out.mono BB5.out.size))
         clear hown hgr hat hg7 y1 y2 y3 HX6 B56 HM PA7))
    have PL := Lib.hid (show PtsAt w7 (some ⟨g4, 0, none⟩) (nb + na) (cat nb fb fa) by
      have := HX7.out
      rw [← cat_rws] at this
      exact pts_row this)
    have hcl : nb + na ≤ cap4 := own_cap HX7.out
    have HP := Lib.hid (partI_yes (ca := Ca) (cb := cap4) (some ⟨ga, 0, none⟩) (some ⟨g4, 0, none⟩) na (nb + na) fa (cat nb fb fa) w7 hcl PA8.out PL.out (by unfold partOk; rw [VA.out, VC.out]; rfl))
    rw [ZC.out] at HP
    clear PL hcl HX7 B57 PA8 PA5 BB5 OA5 OB5
    refine HP.out.mono ?_
    rintro e w8 ⟨rfl, hb8⟩
    have BB8 := Lib.hid (BB7.out.trans (hb8.mono BB7.out.size))
    clear hb8 HP BB7
    go_wp2
    go_ret
    exact ⟨rfl, BB8.out⟩
theorem own : ownKnob Try.prog.godebug = none := by kernel_rfl
theorem reads : ∀ t ∈ Try.f7.params.toList, Try.prog.readableRec t = true ∧ t < Try.prog.types.size := by
  rw [Try.params7]
  intro t ht
  obtain rfl : t = 22 := by simpa using ht
  exact ⟨by kernel_rfl, of_decide_eq_true (by kernel_rfl)⟩

set_option maxRecDepth 100000 in
theorem contract (H : Type) (enc : TypeId × Value → H) (W : World) (base : Nat) (args : Array Value) (ds gs : List (DataW H)) (before : List MemPlace)
    (hval : ∀ (j : Nat) t v, Try.f7.params[j]? = some t → args[j]? = some v → Value.okWide Try.prog W .any base t v)
    (hW : DataW.Whole enc Try.prog Try.f7.params.toList Rows.fnPartsSpec.vars false W args.toList ds gs before) :
    Calls Try.prog 7 args W fun e W' => ∃ v, e = .returned v ∧ Rows.fnPartsSpec.post enc Try.prog Try.f7 false true false false W args v W' := by
  have hW' := hW
  obtain ⟨p, q, hA0, hV, rfl, hfz, hnd⟩ := hW
  have hA : DataW.TrodAll enc Try.prog W 0 (fun _ => true) true Try.f7.params.toList args.toList ds p := hA0
  rw [Try.params7] at hA hval
  obtain ⟨v0, zs0, d0, ds0, p0, q0, hargs, rfl, rfl, h0, e0⟩ := trodAll_cons hA
  obtain ⟨v1, zs1, d1, ds1, p1, q1, rfl, rfl, rfl, h1, e1⟩ := trodAll_cons e0
  obtain ⟨rfl, rfl, rfl⟩ := trodAll_nil e1
  obtain rfl : args = #[v0, v1] := by cases args; simp_all
  obtain ⟨rfl, rfl⟩ := trodVars_none hV
  obtain ⟨A, n, c, rfl, hn, hb⟩ := open_bytesAt (hval 0 22 v0 rfl rfl) h0
  obtain ⟨D, m, d, rfl, hm, hd⟩ := open_bytesAt (hval 1 22 v1 rfl rfl) h1
  refine (walk A D n c m d W hn hm hb hd).mono fun e W' ⟨he, hg⟩ => ?_
  subst he
  exact ⟨_, rfl, law_post (by kernel_rfl) reads (by kernel_rfl) Try.underlying4 rfl hW' rfl rfl rfl hg⟩

set_option maxRecDepth 100000 in
theorem lifted (os : Os) (started : os.Started) (H : Type) (enc : TypeId × Value → H) :
    ReturnsInHanded {} Try.checked os 7 .any (Rows.fnPartsSpec.pre6 enc Try.prog Try.f7 Rows.fnPartsRow.domain false) (Rows.fnPartsSpec.post enc Try.prog Try.f7 false true false false) := by
  refine returnsInHanded_of_change (C := Try.checked) own started (by kernel_rfl) Try.func7
    (ChangeSpec.witness6 (enc := enc) (C := Try.checked) false ⟨#[], #[.slice none 0 0, .slice none 0 0], []⟩ 8 (by kernel_rfl) (by kernel_rfl) (by kernel_rfl) (by kernel_rfl)) ?_
  intro W base args ds gs before hval hW _ _
  exact contract H enc W base args ds gs before hval hW

theorem holds : Rows.FnPartsSaid :=
  OpenClaim.holds_of_wide 7 Try.f7 rfl rfl rfl rfl rfl rfl rfl ⟨rfl, rfl, rfl, rfl, rfl⟩ rfl rfl rfl rfl rfl (by kernel_rfl) Try.func7 (by kernel_rfl)
    (of_decide_eq_true (by kernel_rfl)) (by unfold Func.isWrapper; first | (rw [if_pos (by decide +kernel)]; kernel_rfl) | (rw [if_neg (by decide +kernel)]; exact ⟨rfl, rfl⟩))
    (fun os started H enc _ => lifted os started H enc)
end Go.Proofs.Ythpmckfjlbiiiab.fnQ
