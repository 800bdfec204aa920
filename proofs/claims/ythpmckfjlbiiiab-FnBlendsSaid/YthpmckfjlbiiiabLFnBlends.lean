/-
  Proved: the call of the law on blends returns true and leaves its arguments as they were (the walk).
  Conditions: none.
-/
import Derived.Test.YthpmckfjlbiiiabFnB
import Derived.Test.YthpmckfjlbiiiabFnU
import Derived.Test.YthpmckfjlbiiiabPathA
import Derived.Test.YthpmckfjlbiiiabBlFI
import Derived.Test.YthpmckfjlbiiiabMSameFeats
import Derived.BigQuiet
namespace Go.Proofs.Ythpmckfjlbiiiab.fnL
open Go.ChangeShapes Go.WideShapes Go.ChangeAt Go.RowKit Go.Joins
open Go.Proofs.Ythpmckfjlbiiiab.core Go.Proofs.Ythpmckfjlbiiiab.rown Go.Proofs.Ythpmckfjlbiiiab.stk Go.Proofs.Ythpmckfjlbiiiab.boxed Go.Proofs.Ythpmckfjlbiiiab.ft Go.Proofs.Ythpmckfjlbiiiab.seq Go.Proofs.Ythpmckfjlbiiiab.src Go.Proofs.Ythpmckfjlbiiiab.path Go.Proofs.Ythpmckfjlbiiiab.dp Go.Proofs.Ythpmckfjlbiiiab.fnB Go.Proofs.Ythpmckfjlbiiiab.put3
set_option linter.unusedVariables false
set_option linter.unusedSimpArgs false
theorem bdrew {B : Nat} {a w : World} (h : Below B a w) (n : Nat) : Below B a (w.drewN n) := h.trans ⟨rfl, rfl, rfl, Nat.le_refl _, fun _ _ => rfl⟩
/-- Between what has been seen so far. -/
def Mid (f : Nat → P2) (fb : Nat → P3) (i p : Nat) (lo hi : Int) : Prop := ∀ q, q < p → (f q).1 = (i : Int) → lo ≤ gXf fb f q ∧ gXf fb f q ≤ hi
theorem mid_more {f : Nat → P2} {fb : Nat → P3} {i p : Nat} {lo hi lo' hi' : Int} (h : Mid f fb i p lo hi) (h1 : lo' ≤ lo) (h2 : hi ≤ hi') (hn : (f p).1 = (i : Int) → lo' ≤ gXf fb f p ∧ gXf fb f p ≤ hi') : Mid f fb i (p + 1) lo' hi' := fun q hq he => by
  rcases Nat.lt_or_ge q p with h' | h'
  · have := h q h' he; omega
  · obtain rfl : q = p := by omega
    exact hn he
set_option maxRecDepth 100000 in
set_option maxHeartbeats 8000000 in
theorem walk (A D : Option Addr) (n c m d : Nat) (w : World) (hn : n ≤ maxLen) (hm : m ≤ maxLen) (h : BytesAt w w.heap.size A n) (hd : BytesAt w w.heap.size D m) :
    Calls Try.prog 8 #[.slice A n c, .slice D m d] w fun e w' => e = .returned (.bool true) ∧ Below w.heap.size w w' := by
  obtain ⟨i0, hi0, hz0, hz1, hz2⟩ := rown.info_get infoPair
  by_cases h3 : 3000 < n ∨ 3000 < m
  · have H := Lib.hid (long_calls A D n c m d w hn hm true ⟨fun _ => h3, fun _ => rfl⟩)
    clear h hd h3
    go_enter Try.func8, Try.ntmps8
    go_wp2_with fail
    refine H.out.mono ?_
    rintro e _ ⟨rfl, rfl⟩
    go_wp2
    go_ret
    exact ⟨rfl, Below.refl _ _⟩
  · have H := Lib.hid (long_calls A D n c m d w hn hm false ⟨fun h => (by cases h), fun h => absurd h h3⟩)
    have H0 := Lib.hid (two_calls A n c w (by omega) h)
    have HD := Lib.hid hd
    have hm3 : m ≤ 3000 := by omega
    clear h hd h3
    go_enter Try.func8, Try.ntmps8
    go_wp2_with fail
    refine H.out.mono ?_
    rintro e _ ⟨rfl, rfl⟩
    go_wp2_with fail
    refine H0.out.mono ?_
    rintro e w1 ⟨ga, Ca, na, fa, gb, Cb, nb, fb, r, hr, ⟨va, ha⟩, ⟨vb, hb⟩, rfl, pa, pb, hb1⟩
    have na1 : 1 ≤ na := (okQ_of va).1
    have nb1 : 1 ≤ nb := (okQ_of vb).1
    obtain ⟨bd, hbd⟩ : ∃ bd : Int, absv ((na : Int) - (nb : Int)) + (r : Int) = bd := ⟨_, rfl⟩
    rw [hbd]
    have BB1 := Lib.hid hb1
    have PA := Lib.hid pa
    have PB := Lib.hid pb
    have HD1 := Lib.hid (HD.out.kept hb1)
    have F1 := Lib.hid (show fitC na na na fa fa ownP = 0 by unfold fitC; rw [if_pos ⟨va, va⟩, if_pos (own_ok na1)])
    have VA := Lib.hid va
    have VB := Lib.hid vb
    clear hbd hb1 pa pb H H0 HD va vb hr
    go_wp2
    go_loopw [8, 9] (fun o i w' => ∃ (j g C : Nat), j ≤ na ∧ i = .int .i64 (j : Int) ∧ o = .slice (some ⟨g, 0, none⟩) j C ∧ Hid (w'.ownsRow w1.heap.size 59 2 (.slice (some ⟨g, 0, none⟩) j C) j (rws (sp2 ownP) j)) ∧ Hid (Below w1.heap.size w1 w')) (fun _ i _ => na - (intOf i).toNat)
    case atStart => exact ⟨0, _, _, Nat.zero_le _, rfl, rfl, Lib.hid (rown.empty_row w1 59 2), Lib.hid (below_alloc1 w1 (.cells #[] 59))⟩
    case round =>
      obtain ⟨j, g, C, hj, rfl, rfl, HO, HB⟩ := hrel
      by_cases hlt : j < na
      · have hli : (j : Int) < (na : Int) := by omega
        have Z3 := Lib.hid (show j + 1 ≤ maxLen by simp only [maxLen]; omega)
        have Z4 := Lib.hid (show (j + 1) * 16 ≤ 140737488355328 by omega)
        have HE := Lib.hid (show rws (sp2 ownP) (j + 1) = rws (sp2 ownP) j ++ [.int .i64 (j : Int), .int .i64 (j : Int)] by rw [rws_succ]; rfl)
        have hj8 : j ≤ 8 := by omega
        go_wp2_with (first
          | (at_builtin
             have z0 := rown.ownsRow_kept HO.out (below_alloc1 wr (.cells #[.int .i64 (j : Int), .int .i64 (j : Int)] 59))
             have z2 : ∀ u ∈ [Value.int .i64 (j : Int), .int .i64 (j : Int)], u.oneCell' = true := (by simp [Value.oneCell'])
             have zb : w1.heap.size ≤ wr.heap.size := HB.out.size
             have z5 : w1.heap.size ≤ (wr.alloc (.cells #[.int .i64 (j : Int), .int .i64 (j : Int)] 59)).heap.size := (Nat.le_trans zb (by simp))
             refine wpList_append_lies (wr.alloc (.cells #[.int .i64 (j : Int), .int .i64 (j : Int)] 59)) rfl _ _ 51 rfl w1.heap.size 59 i0 _ 2 16 Try.underlying51 hi0 hz0 hz1 hz2 rfl (by decide) (.slice (some ⟨g, 0, none⟩) j C) j _ rfl z0 ⟨wr.heap.size, 0, none⟩ 1 1 [.int .i64 (j : Int), .int .i64 (j : Int)] rfl rfl (two_new rfl) z2 (by decide) Z3.out Z4.out z5 _ rfl ?_
             intro g3 cap3 w5 hown hgr hat hlt3
             have HO5 := Lib.hid hown
             have HB5 := Lib.hid (HB.out.trans (rown.under HO.out zb hgr))
             clear hown hgr hat z0 z2 z5 zb HO HB))
        go_wp2
        go_roundw
        case rel => exact ⟨j + 1, g3, cap3, by omega, by go_num, rfl, Lib.hid (by rw [HE.out]; exact HO5.out), HB5⟩
        case measure => simp [intOf]; omega
      · have hje : j = na := by omega
        have PC := Lib.hid (show SpAt wr (some ⟨g, 0, none⟩) j ownP from sp_row HO.out)
        have hnl : ¬ (j : Int) < (na : Int) := by omega
        have F2 := Lib.hid (show fitC na na j fa fa ownP = 0 by rw [hje]; exact F1.out)
        have EQ := Lib.hid (show wSameFeats.Eq2 na na (blendAt j fa fa ownP) fa from ⟨rfl, fun i hi => by rw [hje]; exact blend_own i hi⟩)
        have hj2 : j ≤ 1048576 := by omega
        have PA2 := Lib.hid (PA.out.kept HB.out)
        have PB2 := Lib.hid (PB.out.kept HB.out)
        have HD2 := Lib.hid (HD1.out.kept (HB.out.mono BB1.out.size))
        have BB2 := Lib.hid (BB1.out.trans (HB.out.mono BB1.out.size))
        have H1 := Lib.hid (blendFeatsI_yes (ca := Ca) (cb := Ca) (c := C) (some ⟨ga, 0, none⟩) (some ⟨ga, 0, none⟩) (some ⟨g, 0, none⟩) na na j fa fa ownP wr (by omega) (by omega) hj2 PA2.out PA2.out PC.out F2.out)
        clear hje hlt HO PC HB PA PB HD1 BB1 F1 F2 hj hj2
        obtain ⟨fs, hfs⟩ : ∃ fs, blendAt j fa fa ownP = fs := ⟨_, rfl⟩
        rw [hfs] at H1 EQ
        clear hfs
        go_wp2_with fail
        refine H1.out.mono ?_
        rintro e w3 ⟨v, rfl, ho, hb2⟩
        obtain ⟨gs, Cs, rfl⟩ := slice_of ho na1
        have PS3 := Lib.hid (pts_row ho)
        have PA3 := Lib.hid (PA2.out.kept hb2)
        have PB3 := Lib.hid (PB2.out.kept hb2)
        have HD3 := Lib.hid (HD2.out.kept (hb2.mono BB2.out.size))
        have BB3 := Lib.hid (BB2.out.trans (hb2.mono BB2.out.size))
        clear hb2 ho H1 PA2 PB2 HD2 BB2
        have H1 := Lib.hid (patha_calls D m d na nb w3 hm3 na1 ha nb1 hb (HD3.out.up BB3.out.size))
        go_wp2_with fail
        refine H1.out.mono ?_
        rintro e w4 ⟨gp, Cp, k, f, hok, hk1, hk2, rfl, ho, hb2⟩
        have F3 := Lib.hid (show fitC na nb k fa fb f = 0 by unfold fitC; rw [if_pos ⟨VA.out, VB.out⟩, if_pos hok])
        have OK := Lib.hid hok
        have PP4 := Lib.hid (show SpAt w4 (some ⟨gp, 0, none⟩) k f from sp_row ho)
        have PS4 := Lib.hid (PS3.out.kept hb2)
        have PA4 := Lib.hid (PA3.out.kept hb2)
        have PB4 := Lib.hid (PB3.out.kept hb2)
        have BB4 := Lib.hid (BB3.out.trans (hb2.mono BB3.out.size))
        clear hb2 ho hok H1 PS3 PA3 PB3 BB3 HD3
        have H1 := Lib.hid (blendFeatsI_yes (ca := Ca) (cb := Cb) (c := Cp) (some ⟨ga, 0, none⟩) (some ⟨gb, 0, none⟩) (some ⟨gp, 0, none⟩) na nb k fa fb f w4 (by omega) (by omega) (by omega) PA4.out PB4.out PP4.out F3.out)
        go_wp2_with fail
        refine H1.out.mono ?_
        rintro e w5 ⟨v, rfl, ho, hb2⟩
        obtain ⟨gl, Cl, rfl⟩ := slice_of ho na1
        have PL5 := Lib.hid (pts_row ho)
        have PP5 := Lib.hid (PP4.out.kept hb2)
        have PS5 := Lib.hid (PS4.out.kept hb2)
        have PA5 := Lib.hid (PA4.out.kept hb2)
        have PB5 := Lib.hid (PB4.out.kept hb2)
        have BB5 := Lib.hid (BB4.out.trans (hb2.mono BB4.out.size))
        clear hb2 ho H1 PS4 PA4 PB4 BB4 PP4 F3
        have H1 := Lib.hid (wSameFeats.spec_calls (c := Cs) (d := Ca) (some ⟨gs, 0, none⟩) (some ⟨ga, 0, none⟩) na na fs fa true w5 (by omega) (by omega) ⟨fun _ => EQ.out, fun _ => rfl⟩ PS5.out PA5.out)
        go_wp2_with fail
        refine H1.out.mono ?_
        rintro e w6 ⟨rfl, hb2⟩
        have PL6 := Lib.hid (PL5.out.kept hb2)
        have PP6 := Lib.hid (PP5.out.kept hb2)
        have PA6 := Lib.hid (PA5.out.kept hb2)
        have PB6 := Lib.hid (PB5.out.kept hb2)
        have BB6 := Lib.hid (BB5.out.trans (hb2.mono BB5.out.size))
        clear hb2 H1 PS5 PA5 PB5 BB5 PP5 PL5 EQ
        have HBM := Lib.hid (show ∀ (i : Nat), i < na → ∀ (lo h : Int), lo ≤ (fa i).1 → (fa i).1 ≤ h → (∀ p, p < k → (f p).1 = (i : Int) → lo ≤ gXf fb f p ∧ gXf fb f p ≤ h) → lo ≤ (blendAt k fa fb f i).1 ∧ (blendAt k fa fb f i).1 ≤ h from fun i hi lo h h1 h2 hm => blend_mid OK.out i hi h1 h2 hm)
        have HBD := Lib.hid (show ∀ i, (blendAt k fa fb f i).2.2 = (fa i).2.2 from fun i => rfl)
        obtain ⟨L, hL⟩ : ∃ L, blendAt k fa fb f = L := ⟨_, rfl⟩
        rw [hL] at PL6 HBM HBD
        clear hL
        go_wp2
        go_loopw [15] (fun i w' => ∃ x : Nat, x ≤ na ∧ i = .int .i64 (x : Int) ∧ Hid (Below w6.heap.size w6 w')) (fun i _ => na - (intOf i).toNat)
        case atStart => exact ⟨0, Nat.zero_le _, rfl, Lib.hid (Below.refl _ _)⟩
        case round =>
          obtain ⟨x, hx, rfl, HB⟩ := hrel
          by_cases hlt : x < na
          · have hxi : (x : Int) < (na : Int) := by omega
            obtain ⟨b1, o1, e1, hg1, a0, -, a2⟩ := (PA6.out.kept HB.out) x hlt
            cases e1
            rw [Nat.zero_add] at a0 a2
            obtain ⟨X, hX⟩ : ∃ X, (fa x).1 = X := ⟨_, rfl⟩
            have HX := Lib.hid hX
            rw [hX] at a0
            clear hX
            have hXX := Int.le_refl X
            have HM0 := Lib.hid (show Mid f fb x 0 X X from fun q hq => absurd hq (by omega))
            go_wp2
            clear a0
            go_loopw [16, 17, 18] (fun lo hi p w' => ∃ (l h : Int) (q : Nat), q ≤ k ∧ p = .int .i64 (q : Int) ∧ lo = .int .i64 l ∧ hi = .int .i64 h ∧ l ≤ X ∧ X ≤ h ∧ Hid (Mid f fb x q l h) ∧ Hid (Below w6.heap.size w6 w')) (fun _ _ p _ => k - (intOf p).toNat)
            case atStart => exact ⟨X, X, 0, Nat.zero_le _, rfl, rfl, rfl, hXX, hXX, HM0, HB⟩
            case round =>
              obtain ⟨l, h, q, hq, rfl, rfl, rfl, hl, hh, HM, HB2⟩ := hrel
              by_cases hqk : q < k
              · have hqi : (q : Int) < (k : Int) := by omega
                obtain ⟨⟨⟨i1, i2⟩, ⟨j1, j2⟩, -⟩, -⟩ := (okPath_of OK.out).2.2.2 q hqk
                obtain ⟨I, hI⟩ : ∃ I : Nat, (f q).1 = (I : Int) := ⟨(f q).1.toNat, by omega⟩
                obtain ⟨J, hJ⟩ : ∃ J : Nat, (f q).2 = (J : Int) := ⟨(f q).2.toNat, by omega⟩
                have hJb : J < nb := by omega
                have hJi : (J : Int) < (nb : Int) := by omega
                obtain ⟨b2, o2, e2, hg2, p0, p1⟩ := (PP6.out.kept HB2.out) q hqk
                cases e2
                obtain ⟨b3, o3, e3, hg3, c0, -, -⟩ := (PB6.out.kept HB2.out) J hJb
                cases e3
                rw [Nat.zero_add] at p0 p1 c0
                rw [hI] at p0
                rw [hJ] at p1
                have HG := Lib.hid (show gXf fb f q = (fb J).1 by unfold gXf; rw [hJ, Int.toNat_natCast])
                obtain ⟨Y, hY⟩ : ∃ Y, (fb J).1 = Y := ⟨_, rfl⟩
                rw [hY] at c0 HG
                have HI := Lib.hid hI
                clear hY hI hJ i1 i2 j1 j2
                by_cases hIx : (I : Int) = (x : Int)
                · have hD : decide ((I : Int) = (x : Int)) = true := decide_eq_true hIx
                  have hE : ((I : Int) == (x : Int)) = true := by rw [hIx]; simp
                  clear hIx
                  by_cases hY1 : Y < l
                  · have hY2 : ¬ h < Y := by omega
                    have HN := Lib.hid (mid_more HM.out (lo' := Y) (hi' := h) (by omega) (Int.le_refl _) (fun _ => by rw [HG.out]; omega))
                    have hl2 : Y ≤ X := by omega
                    go_wp2
                    go_roundw
                    case rel => exact ⟨Y, h, q + 1, by omega, by go_num, rfl, rfl, hl2, hh, HN, HB2⟩
                    case measure => simp [intOf]; omega
                  · by_cases hY2 : h < Y
                    · have HN := Lib.hid (mid_more HM.out (lo' := l) (hi' := Y) (Int.le_refl _) (by omega) (fun _ => by rw [HG.out]; omega))
                      have hh2 : X ≤ Y := by omega
                      go_wp2
                      go_roundw
                      case rel => exact ⟨l, Y, q + 1, by omega, by go_num, rfl, rfl, hl, hh2, HN, HB2⟩
                      case measure => simp [intOf]; omega
                    · have HN := Lib.hid (mid_more HM.out (lo' := l) (hi' := h) (Int.le_refl _) (Int.le_refl _) (fun _ => by rw [HG.out]; omega))
                      go_wp2
                      go_roundw
                      case rel => exact ⟨l, h, q + 1, by omega, by go_num, rfl, rfl, hl, hh, HN, HB2⟩
                      case measure => simp [intOf]; omega
                · have HN := Lib.hid (mid_more HM.out (lo' := l) (hi' := h) (Int.le_refl _) (Int.le_refl _) (fun he => absurd (HI.out.symm.trans he) hIx))
                  clear c0 hg3
                  go_wp2
                  go_roundw
                  case rel => exact ⟨l, h, q + 1, by omega, by go_num, rfl, rfl, hl, hh, HN, HB2⟩
                  case measure => simp [intOf]; omega
              · have hqe : q = k := by omega
                have hnq : ¬ (q : Int) < (k : Int) := by omega
                have hmid := HBM.out x hlt l h (by rw [HX.out]; exact hl) (by rw [HX.out]; exact hh) (fun p hp he => HM.out p (by omega) he)
                have hdd := HBD.out x
                clear hqe hqk
                obtain ⟨b2, o2, e2, hg2, l0, -, l2⟩ := (PL6.out.kept HB2.out) x hlt
                cases e2
                obtain ⟨b3, o3, e3, hg3, -, -, a2'⟩ := (PA6.out.kept HB2.out) x hlt
                cases e3
                rw [Nat.zero_add] at l0 l2 a2'
                rw [hdd] at l2
                obtain ⟨V, hV⟩ : ∃ V, (L x).1 = V := ⟨_, rfl⟩
                obtain ⟨E, hE⟩ : ∃ E, (fa x).2.2 = E := ⟨_, rfl⟩
                rw [hV] at l0 hmid
                rw [hE] at l2 a2'
                have d1 : decide (V < l) = false := decide_eq_false (by omega)
                have d2 : decide (h < V) = false := decide_eq_false (by omega)
                have HBX := Lib.hid HB2.out
                clear hV hE hdd hmid a2 hl hh hXX
                go_wp2
                go_quiet (fail)
                all_goals
                  go_wp2
                  go_roundw
                  case rel => exact ⟨x + 1, by omega, by go_num, Lib.hid (bdrew HBX.out _)⟩
                  case measure => simp [intOf]; omega
          · have hxe : ¬ (x : Int) < (na : Int) := by omega
            have BB7 := Lib.hid (BB6.out.trans (HB.out.mono BB6.out.size))
            clear hlt
            go_wp2
            go_ret
            exact ⟨rfl, BB7.out⟩
theorem own : ownKnob Try.prog.godebug = none := by kernel_rfl
theorem reads : ∀ t ∈ Try.f8.params.toList, Try.prog.readableRec t = true ∧ t < Try.prog.types.size := by
  rw [Try.params8]
  intro t ht
  obtain rfl : t = 22 := by simpa using ht
  exact ⟨by kernel_rfl, of_decide_eq_true (by kernel_rfl)⟩

set_option maxRecDepth 100000 in
theorem contract (H : Type) (enc : TypeId × Value → H) (W : World) (base : Nat) (args : Array Value) (ds gs : List (DataW H)) (before : List MemPlace)
    (hval : ∀ (j : Nat) t v, Try.f8.params[j]? = some t → args[j]? = some v → Value.okWide Try.prog W .any base t v)
    (hW : DataW.Whole enc Try.prog Try.f8.params.toList Rows.fnBlendsSpec.vars false W args.toList ds gs before) :
    Calls Try.prog 8 args W fun e W' => ∃ v, e = .returned v ∧ Rows.fnBlendsSpec.post enc Try.prog Try.f8 false true false false W args v W' := by
  have hW' := hW
  obtain ⟨p, q, hA0, hV, rfl, hfz, hnd⟩ := hW
  have hA : DataW.TrodAll enc Try.prog W 0 (fun _ => true) true Try.f8.params.toList args.toList ds p := hA0
  rw [Try.params8] at hA hval
  obtain ⟨v0, zs0, d0, ds0, p0, q0, hargs, rfl, rfl, h0, e0⟩ := trodAll_cons hA
  obtain ⟨v1, zs1, d1, ds1, p1, q1, rfl, rfl, rfl, h1, e1⟩ := trodAll_cons e0
  obtain ⟨rfl, rfl, rfl⟩ := trodAll_nil e1
  obtain rfl : args = #[v0, v1] := by cases args; simp_all
  obtain ⟨rfl, rfl⟩ := trodVars_none hV
  obtain ⟨A, n, c, rfl, hn, hb⟩ := open_bytesAt (hval 0 22 v0 rfl rfl) h0
  obtain ⟨D, m, d, rfl, hm, hd⟩ := open_bytesAt (hval 1 22 v1 rfl rfl) h1
  refine (walk A D n c m d W hn hm hb hd).mono fun e W' ⟨he, hg⟩ => ?_
  subst he
  exact ⟨_, rfl, law_post (by kernel_rfl) reads (by kernel_rfl) Try.underlying4 rfl hW' rfl rfl rfl hg⟩

set_option maxRecDepth 100000 in
theorem lifted (os : Os) (started : os.Started) (H : Type) (enc : TypeId × Value → H) :
    ReturnsInHanded {} Try.checked os 8 .any (Rows.fnBlendsSpec.pre6 enc Try.prog Try.f8 Rows.fnBlendsRow.domain false) (Rows.fnBlendsSpec.post enc Try.prog Try.f8 false true false false) := by
  refine returnsInHanded_of_change (C := Try.checked) own started (by kernel_rfl) Try.func8
    (ChangeSpec.witness6 (enc := enc) (C := Try.checked) false ⟨#[], #[.slice none 0 0, .slice none 0 0], []⟩ 8 (by kernel_rfl) (by kernel_rfl) (by kernel_rfl) (by kernel_rfl)) ?_
  intro W base args ds gs before hval hW _ _
  exact contract H enc W base args ds gs before hval hW

theorem holds : Rows.FnBlendsSaid :=
  OpenClaim.holds_of_wide 8 Try.f8 rfl rfl rfl rfl rfl rfl rfl ⟨rfl, rfl, rfl, rfl, rfl⟩ rfl rfl rfl rfl rfl (by kernel_rfl) Try.func8 (by kernel_rfl)
    (of_decide_eq_true (by kernel_rfl)) (by unfold Func.isWrapper; first | (rw [if_pos (by decide +kernel)]; kernel_rfl) | (rw [if_neg (by decide +kernel)]; exact ⟨rfl, rfl⟩))
    (fun os started H enc _ => lifted os started H enc)
end Go.Proofs.Ythpmckfjlbiiiab.fnL
