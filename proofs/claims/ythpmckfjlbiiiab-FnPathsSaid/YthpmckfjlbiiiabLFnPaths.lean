/-
  Proved: for all arguments, the call of the law on paths returns true and leaves its argument as it was.
  Conditions: none beyond the row's own.
-/
import Derived.Test.YthpmckfjlbiiiabTwo
import Derived.Test.YthpmckfjlbiiiabOpenB
import Derived.Test.YthpmckfjlbiiiabFnM
import Derived.Test.YthpmckfjlbiiiabRevPI
import Derived.Test.YthpmckfjlbiiiabFitI
import Derived.Test.YthpmckfjlbiiiabElasI
namespace Go.Proofs.Ythpmckfjlbiiiab.fnP
open Go.ChangeShapes Go.WideShapes Go.ChangeAt Go.RowKit Go.Joins
open Go.Proofs.Ythpmckfjlbiiiab.core Go.Proofs.Ythpmckfjlbiiiab.rown Go.Proofs.Ythpmckfjlbiiiab.stk Go.Proofs.Ythpmckfjlbiiiab.boxed Go.Proofs.Ythpmckfjlbiiiab.ft Go.Proofs.Ythpmckfjlbiiiab.seq Go.Proofs.Ythpmckfjlbiiiab.src Go.Proofs.Ythpmckfjlbiiiab.tab Go.Proofs.Ythpmckfjlbiiiab.path Go.Proofs.Ythpmckfjlbiiiab.dp
set_option linter.unusedVariables false
set_option linter.unusedSimpArgs false
set_option maxHeartbeats 1000000 in
theorem long_calls (A D : Option Addr) (n c m d : Nat) (w : World) (hn : n ≤ maxLen) (hm : m ≤ maxLen) (r : Bool) (hr : r = true ↔ 3000 < n ∨ 3000 < m) :
    Calls Try.prog 9 #[.slice A n c, .slice D m d] w fun e w' => e = .returned (.bool r) ∧ w = w' := by
  unfold maxLen at hn hm
  by_cases h1 : 3000 < n
  · have hrt : r = true := hr.2 (.inl h1)
    subst hrt
    have d1 : decide ((3000 : Int) < (n : Int)) = true := decide_eq_true (by omega)
    clear hr
    go_enter Try.func9, Try.ntmps9
    go_wp2
    go_ret
    exact ⟨by simp, rfl⟩
  · have d1 : decide ((3000 : Int) < (n : Int)) = false := decide_eq_false (by omega)
    have hrt : r = decide ((3000 : Int) < (m : Int)) := by
      rw [Bool.eq_iff_iff, hr]
      simp
      omega
    have HT := Lib.hid hrt
    clear hr hrt
    go_enter Try.func9, Try.ntmps9
    go_wp2
    go_ret
    exact ⟨by rw [HT.out]; simp, rfl⟩
theorem slice_of {w : World} {base E k n : Nat} {v : Value} {xs : List Value} (h : w.ownsRow base E k v n xs) (hn : 0 < n) : ∃ g c, v = .slice (some ⟨g, 0, none⟩) n c := by
  obtain ⟨-, h⟩ := h
  rcases h with ⟨rfl, e⟩ | ⟨g, cap, cur, rfl, _⟩
  · simp_all
  · exact ⟨g, _, rfl⟩
theorem elC_zero {na nb : Nat} {fa fb : Nat → P3} {band : Int} (va : okQ na fa = true) (vb : okQ nb fb = true) (h1 : 0 ≤ band ∧ band ≤ 72) (h2 : absv ((na : Int) - (nb : Int)) ≤ band) : elC na nb fa fb band = 0 := by
  unfold elC; rw [if_pos ⟨va, vb⟩, if_pos ⟨h1, h2⟩]
theorem sp_of {w : World} {base k E g c : Nat} {f : Nat → P2} (h : w.ownsRow base E 2 (.slice (some ⟨g, 0, none⟩) k c) k (rws (sp2 f) k)) : SpAt w (some ⟨g, 0, none⟩) k f := sp_row h
theorem path64 {k : Nat} {f : Nat → P2} {n m band : Int} (hn : n ≤ 72) (hm : m ≤ 72) (h : okPath k f n m band = true) : ∀ i, i < k → inI64 (f i).1 ∧ inI64 (f i).2 := fun i hi => by
  obtain ⟨⟨a, b, -⟩, -⟩ := (okPath_of h).2.2.2 i hi
  unfold inI64
  omega
/-- What the law speaks of. -/
theorem facts {na nb r S : Nat} {fa fb : Nat → P3} {bd : Nat} (hr : r < 4) (va : okQ na fa = true) (ha : na ≤ 8) (vb : okQ nb fb = true) (hb : nb ≤ 8) (hbd : (bd : Int) = absv ((na : Int) - (nb : Int)) + (r : Int)) :
    bd ≤ 72 ∧ elC na nb fa fb (bd : Int) = 0 ∧ ∀ S, isLen (pos fa fb (bd : Int) (na - 1, nb - 1)) S → okPath (S + 1) (pathRow (pos fa fb (bd : Int) (na - 1, nb - 1)) S) na nb (bd : Int) = true ∧ okPath (S + 1) (pathRow (pos fa fb (bd : Int) (na - 1, nb - 1)) S) na nb 72 = true ∧ sumZ (pcAt fa fb (pathRow (pos fa fb (bd : Int) (na - 1, nb - 1)) S)) (S + 1) = leastE na nb fa fb (bd : Int) := by
  obtain ⟨a1, a2, a3⟩ := okQ_of va
  obtain ⟨b1, b2, b3⟩ := okQ_of vb
  have hab := absv_in (n := (na : Int) - (nb : Int)) (B := 8) (by omega) (by omega)
  have ho : okB (bd : Int) (na - 1) (nb - 1) := by
    unfold okB
    rw [show ((na - 1 : Nat) : Int) - ((nb - 1 : Nat) : Int) = (na : Int) - (nb : Int) by omega]
    omega
  have hf : tab fa fb (bd : Int) (na - 1) (nb - 1) ≠ far := by
    have h1 := tab_near (band := (bd : Int)) a2 b2 a3 b3 (na - 1) (nb - 1) (by omega) (by omega) ho
    have h2 : far = 1000000000 := rfl
    omega
  refine ⟨by omega, elC_zero va vb (by omega) (by omega), fun S hS => ?_⟩
  have h1 := trace_ok a1 b1 hS hf
  refine ⟨h1, ?_, trace_sum hS hf⟩
  obtain ⟨q1, q2, q3, q4⟩ := okPath_of h1
  refine okPath_true ⟨q1, q2, q3, fun x hx => ?_⟩
  obtain ⟨⟨u1, u2, u3⟩, u4⟩ := q4 x hx
  exact ⟨⟨u1, u2, by omega⟩, u4⟩
set_option maxRecDepth 100000 in
set_option maxHeartbeats 4000000 in
theorem walk (A : Option Addr) (n c : Nat) (w : World) (hn : n ≤ maxLen) (h : BytesAt w w.heap.size A n) :
    Calls Try.prog 6 #[.slice A n c] w fun e w' => e = .returned (.bool true) ∧ Below w.heap.size w w' := by
  by_cases h3 : 3000 < n
  · have H := Lib.hid (long_calls A none n c 0 0 w hn (Nat.zero_le _) true ⟨fun _ => .inl h3, fun _ => rfl⟩)
    clear h
    go_enter Try.func6, Try.ntmps6
    go_wp2_with fail
    refine H.out.mono ?_
    rintro e _ ⟨rfl, rfl⟩
    go_wp2
    go_ret
    exact ⟨rfl, Below.refl _ _⟩
  · have H := Lib.hid (long_calls A none n c 0 0 w hn (Nat.zero_le _) false ⟨fun h => (by cases h), fun h => (by omega)⟩)
    have H0 := Lib.hid (two_calls A n c w (by omega) h)
    clear h
    go_enter Try.func6, Try.ntmps6
    go_wp2_with fail
    refine H.out.mono ?_
    rintro e _ ⟨rfl, rfl⟩
    go_wp2_with fail
    refine H0.out.mono ?_
    rintro e w1 ⟨ga, Ca, na, fa, gb, Cb, nb, fb, r, hr, ⟨va, ha⟩, ⟨vb, hb⟩, rfl, pa, pb, hb1⟩
    have hab := absv_in (n := (na : Int) - (nb : Int)) (B := 8) (by omega) (by omega)
    obtain ⟨bd, hbd⟩ : ∃ bd : Nat, (bd : Int) = absv ((na : Int) - (nb : Int)) + (r : Int) := ⟨(absv ((na : Int) - (nb : Int)) + (r : Int)).toNat, Int.toNat_of_nonneg (by omega)⟩
    obtain ⟨hb72, h0, hfx⟩ := facts (S := 0) hr va ha vb hb hbd
    rw [← hbd]
    have BB1 := Lib.hid hb1
    have PA := Lib.hid pa
    have PB := Lib.hid pb
    have H2 := Lib.hid (epathI_yes (ca := Ca) (cb := Cb) (some ⟨ga, 0, none⟩) (some ⟨gb, 0, none⟩) na nb fa fb bd w1 pa pb h0)
    have HZ := Lib.hid h0
    have HF := Lib.hid hfx
    have HV := Lib.hid (And.intro va vb)
    clear hbd hab h0 hfx pa pb hb1 H H0 va vb hr r
    go_wp2_with fail
    refine H2.out.mono ?_
    rintro e w2 ⟨S, v, hS, rfl, ho, hb2⟩
    obtain ⟨gp, Cp, rfl⟩ := slice_of ho (by omega)
    obtain ⟨ok1, ok2, hsum⟩ := HF.out S hS
    have hS142 : S ≤ 142 := hS.2.2
    have HS := Lib.hid hS
    clear hS HF H2
    generalize pathRow (pos fa fb (bd : Int) (na - 1, nb - 1)) S = f at *
    have OK1 := Lib.hid ok1
    have OK2 := Lib.hid ok2
    have SM := Lib.hid hsum
    clear ok1 ok2 hsum HS
    have hk1 : 1 ≤ S + 1 := by omega
    have hk2 : S + 1 ≤ 143 := by omega
    generalize hk : S + 1 = k at *
    clear hk hS142
    have P2 := Lib.hid (sp_of ho)
    have PA2 := Lib.hid (PA.out.kept hb2)
    have PB2 := Lib.hid (PB.out.kept hb2)
    have BB2 := Lib.hid (BB1.out.trans (hb2.mono BB1.out.size))
    clear ho hb2 PA PB BB1
    have H3 := Lib.hid (elasticI (ca := Ca) (cb := Cb) (some ⟨ga, 0, none⟩) (some ⟨gb, 0, none⟩) na nb fa fb (bd : Int) w2 (by omega) (by omega) (by unfold inI64; omega) PA2.out PB2.out)
    have ER := Lib.hid (show elR na nb fa fb (bd : Int) = leastE na nb fa fb (bd : Int) by unfold elR; rw [if_pos HZ.out])
    rw [ER.out, HZ.out] at H3
    go_wp2_with fail
    refine H3.out.mono ?_
    rintro e w3 ⟨rfl, hb3⟩
    have P3 := Lib.hid (P2.out.kept hb3)
    have PA3 := Lib.hid (PA2.out.kept hb3)
    have PB3 := Lib.hid (PB2.out.kept hb3)
    have BB3 := Lib.hid (BB2.out.trans (hb3.mono BB2.out.size))
    clear hb3 H3 P2 PA2 PB2 BB2
    have hna := (okQ_of HV.out.1).1
    have hnb := (okQ_of HV.out.2).1
    have H4 := Lib.hid (validPathS (c := Cp) (some ⟨gp, 0, none⟩) k f (na : Int) (nb : Int) (bd : Int) w3 (by omega) (by unfold inI64; omega) (by unfold inI64; omega) P3.out)
    have EV := Lib.hid (show vP k f (na : Int) (nb : Int) (bd : Int) = true by unfold vP; rw [if_pos ⟨by omega, by omega⟩]; exact OK1.out)
    rw [EV.out] at H4
    go_wp2_with fail
    refine H4.out.mono ?_
    rintro e w4 ⟨rfl, hb4⟩
    have P4 := Lib.hid (P3.out.kept hb4)
    have PA4 := Lib.hid (PA3.out.kept hb4)
    have PB4 := Lib.hid (PB3.out.kept hb4)
    have BB4 := Lib.hid (BB3.out.trans (hb4.mono BB3.out.size))
    clear hb4 H4 EV P3 PA3 PB3 BB3
    have EF := Lib.hid (show fitC na nb k fa fb f = 0 by unfold fitC; rw [if_pos HV.out, if_pos OK2.out])
    have EC := Lib.hid (show pcR na nb k fa fb f = leastE na nb fa fb (bd : Int) by unfold pcR; rw [if_pos EF.out]; exact SM.out)
    have H5 := Lib.hid (pathCostI (ca := Ca) (cb := Cb) (c := Cp) (some ⟨ga, 0, none⟩) (some ⟨gb, 0, none⟩) (some ⟨gp, 0, none⟩) na nb k fa fb f w4 (by omega) (by omega) (by omega) PA4.out PB4.out P4.out)
    rw [EC.out, EF.out] at H5
    generalize leastE na nb fa fb (bd : Int) = L at *
    clear SM EC EF ER
    go_wp2_with fail
    refine H5.out.mono ?_
    rintro e w5 ⟨rfl, hb5⟩
    have P5 := Lib.hid (P4.out.kept hb5)
    have BB5 := Lib.hid (BB4.out.trans (hb5.mono BB4.out.size))
    clear hb5 H5 P4 PA4 PB4 BB4
    have OK3 := Lib.hid (rev_path (band := 72) (by omega) (by omega) OK2.out)
    have H6 := Lib.hid (bwd.revI_yes (c := Cp) (some ⟨gp, 0, none⟩) k f w5 (by omega) P5.out (path64 (by omega) (by omega) OK2.out) (rev_of (by omega) (by omega) OK2.out))
    go_wp2_with fail
    refine H6.out.mono ?_
    rintro e w6 ⟨v, rfl, ho, hb6⟩
    obtain ⟨gr, Cr, rfl⟩ := slice_of ho (by omega)
    have R6 := Lib.hid (sp_of ho)
    have P6 := Lib.hid (P5.out.kept hb6)
    have BB6 := Lib.hid (BB5.out.trans (hb6.mono BB5.out.size))
    clear ho hb6 H6 P5 BB5
    have H7 := Lib.hid (bwd.revI_yes (c := Cr) (some ⟨gr, 0, none⟩) k (revAt k f) w6 (by omega) R6.out (path64 (by omega) (by omega) OK3.out) (rev_of (by omega) (by omega) OK3.out))
    go_wp2_with fail
    refine H7.out.mono ?_
    rintro e w7 ⟨v, rfl, ho, hb7⟩
    obtain ⟨gq, Cq, rfl⟩ := slice_of ho (by omega)
    have Q7 := Lib.hid (sp_of ho)
    have R7 := Lib.hid (R6.out.kept hb7)
    have P7 := Lib.hid (P6.out.kept hb7)
    have BB7 := Lib.hid (BB6.out.trans (hb7.mono BB6.out.size))
    have TW := Lib.hid (rev_twice OK2.out)
    clear ho hb7 H7 R6 P6 BB6
    generalize revAt k f = f2 at *
    generalize revAt k f2 = f3 at *
    have H8 := Lib.hid (fun W R => validPathS (c := Cr) (some ⟨gr, 0, none⟩) k f2 (na : Int) (nb : Int) 72 W (by omega) (by unfold inI64; omega) (by unfold inI64; omega) R)
    have EV := Lib.hid (show vP k f2 (na : Int) (nb : Int) 72 = true by unfold vP; rw [if_pos ⟨by omega, by omega⟩]; exact OK3.out)
    rw [EV.out] at H8
    go_wp2
    go_loopw [16] (fun i w' => ∃ j : Nat, j ≤ k ∧ i = .int .i64 (j : Int) ∧ Hid (Below w7.heap.size w7 w')) (fun i _ => k - (intOf i).toNat)
    case atStart => exact ⟨0, Nat.zero_le _, rfl, Lib.hid (Below.refl _ _)⟩
    case round =>
      obtain ⟨j, hj, rfl, HB⟩ := hrel
      by_cases hlt : j < k
      · obtain ⟨b, o, e1, hb, hc1, hc2⟩ := (Q7.out.kept HB.out) j hlt
        cases e1
        obtain ⟨b2, o2, e1, hb2, hc3, hc4⟩ := (P7.out.kept HB.out) j hlt
        cases e1
        rw [TW.out j hlt, Nat.zero_add] at hc1 hc2
        rw [Nat.zero_add] at hc3 hc4
        generalize (f j).1 = x at *
        generalize (f j).2 = y at *
        go_wp2
        go_region
        all_goals
          go_wp2
          go_roundw
          case rel => exact ⟨j + 1, by omega, by go_num, Lib.hid HB.out.drew⟩
          case measure => simp [intOf]; omega
      · obtain rfl : j = k := by omega
        go_wp2_with fail
        refine (H8.out _ (R7.out.kept HB.out)).mono ?_
        rintro e w8 ⟨rfl, hb8⟩
        have BB8 := Lib.hid ((BB7.out.trans (HB.out.mono BB7.out.size)).trans (hb8.mono (BB7.out.trans (HB.out.mono BB7.out.size)).size))
        clear hb8
        go_wp2
        go_ret
        exact ⟨rfl, BB8.out⟩
theorem own : ownKnob Try.prog.godebug = none := by kernel_rfl
theorem reads : ∀ t ∈ Try.f6.params.toList, Try.prog.readableRec t = true ∧ t < Try.prog.types.size := by
  rw [Try.params6]
  intro t ht
  obtain rfl : t = 22 := by simpa using ht
  exact ⟨by kernel_rfl, of_decide_eq_true (by kernel_rfl)⟩

set_option maxRecDepth 100000 in
theorem contract (H : Type) (enc : TypeId × Value → H) (W : World) (base : Nat) (args : Array Value) (ds gs : List (DataW H)) (before : List MemPlace)
    (hval : ∀ (j : Nat) t v, Try.f6.params[j]? = some t → args[j]? = some v → Value.okWide Try.prog W .any base t v)
    (hW : DataW.Whole enc Try.prog Try.f6.params.toList Rows.fnPathsSpec.vars false W args.toList ds gs before) :
    Calls Try.prog 6 args W fun e W' => ∃ v, e = .returned v ∧ Rows.fnPathsSpec.post enc Try.prog Try.f6 false true false false W args v W' := by
  have hW' := hW
  obtain ⟨p, q, hA0, hV, rfl, hfz, hnd⟩ := hW
  have hA : DataW.TrodAll enc Try.prog W 0 (fun _ => true) true Try.f6.params.toList args.toList ds p := hA0
  rw [Try.params6] at hA hval
  obtain ⟨v0, zs0, d0, ds0, p0, q0, hargs, rfl, rfl, h0, e0⟩ := trodAll_cons hA
  obtain ⟨rfl, rfl, rfl⟩ := trodAll_nil e0
  obtain rfl : args = #[v0] := by cases args; simp_all
  obtain ⟨rfl, rfl⟩ := trodVars_none hV
  obtain ⟨A, n, c, rfl, hn, hb⟩ := open_bytesAt (hval 0 22 v0 rfl rfl) h0
  refine (walk A n c W hn hb).mono fun e W' ⟨he, hg⟩ => ?_
  subst he
  exact ⟨_, rfl, law_post (by kernel_rfl) reads (by kernel_rfl) Try.underlying4 rfl hW' rfl rfl rfl hg⟩

set_option maxRecDepth 100000 in
theorem lifted (os : Os) (started : os.Started) (H : Type) (enc : TypeId × Value → H) :
    ReturnsInHanded {} Try.checked os 6 .any (Rows.fnPathsSpec.pre6 enc Try.prog Try.f6 Rows.fnPathsRow.domain false) (Rows.fnPathsSpec.post enc Try.prog Try.f6 false true false false) := by
  refine returnsInHanded_of_change (C := Try.checked) own started (by kernel_rfl) Try.func6
    (ChangeSpec.witness6 (enc := enc) (C := Try.checked) false ⟨#[], #[.slice none 0 0], []⟩ 8 (by kernel_rfl) (by kernel_rfl) (by kernel_rfl) (by kernel_rfl)) ?_
  intro W base args ds gs before hval hW _ _
  exact contract H enc W base args ds gs before hval hW

theorem holds : Rows.FnPathsSaid :=
  OpenClaim.holds_of_wide 6 Try.f6 rfl rfl rfl rfl rfl rfl rfl ⟨rfl, rfl, rfl, rfl, rfl⟩ rfl rfl rfl rfl rfl (by kernel_rfl) Try.func6 (by kernel_rfl)
    (of_decide_eq_true (by kernel_rfl)) (by unfold Func.isWrapper; first | (rw [if_pos (by decide +kernel)]; kernel_rfl) | (rw [if_neg (by decide +kernel)]; exact ⟨rfl, rfl⟩))
    (fun os started H enc _ => lifted os started H enc)
end Go.Proofs.Ythpmckfjlbiiiab.fnP
