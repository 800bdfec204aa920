/-
  Proved: for all arguments, the call of the law on bounds returns true and leaves its arguments as they were.
  Conditions: none.
-/
import Derived.Test.YthpmckfjlbiiiabFnB
import Derived.Test.YthpmckfjlbiiiabEnvB
import Derived.Test.YthpmckfjlbiiiabLowI
import Derived.Test.YthpmckfjlbiiiabEnvExI
namespace Go.Proofs.Ythpmckfjlbiiiab.fnD
open Go.ChangeShapes Go.WideShapes Go.ChangeAt Go.RowKit Go.Joins
open Go.Proofs.Ythpmckfjlbiiiab.core Go.Proofs.Ythpmckfjlbiiiab.rown Go.Proofs.Ythpmckfjlbiiiab.stk Go.Proofs.Ythpmckfjlbiiiab.boxed Go.Proofs.Ythpmckfjlbiiiab.ft Go.Proofs.Ythpmckfjlbiiiab.seq Go.Proofs.Ythpmckfjlbiiiab.src Go.Proofs.Ythpmckfjlbiiiab.tab Go.Proofs.Ythpmckfjlbiiiab.dp Go.Proofs.Ythpmckfjlbiiiab.fnB Go.Proofs.Ythpmckfjlbiiiab.env
set_option linter.unusedVariables false
set_option linter.unusedSimpArgs false
theorem out_self {fb : Nat → P3} {m : Nat} {band : Int} (hb : 0 ≤ band) : ∀ n, n ≤ m → outG fb (envF fb m band) n = 0
  | 0, _ => rfl
  | n + 1, hn => by
    have ih := out_self (fb := fb) (m := m) hb n (by omega)
    have h := offF_self (fb := fb) (m := m) (band := band) (i := n) hb (by omega)
    rw [outG, ih]
    have e : offG fb (envF fb m band) n = offF fb m band n (fb n) := rfl
    rw [e, h]; rfl
theorem facts {na nb r : Nat} {fa fb : Nat → P3} {bd : Int} (hr : r < 4) (va : okQ na fa = true) (ha : na ≤ 8) (vb : okQ nb fb = true) (hb : nb ≤ 8) (hbd : bd = absv ((na : Int) - (nb : Int)) + (r : Int)) :
    elC na nb fa fb bd = 0 ∧ boundE na nb fa fb bd ≤ leastE na nb fa fb bd ∧ endsE na nb fa fb ≤ boundE na nb fa fb bd ∧ 0 ≤ endsE na nb fa fb ∧ envC nb fb (nb : Int) bd = 0 := by
  obtain ⟨a1, a2, a3⟩ := okQ_of va
  obtain ⟨b1, b2, b3⟩ := okQ_of vb
  have hab := absv_in (n := (na : Int) - (nb : Int)) (B := 8) (by omega) (by omega)
  have hbd2 : 0 ≤ bd ∧ bd ≤ 72 := by omega
  have hle : absv ((na : Int) - (nb : Int)) ≤ bd := by omega
  refine ⟨?_, ?_, ?_, ?_, ?_⟩
  · unfold elC; rw [if_pos ⟨va, vb⟩, if_pos ⟨hbd2, hle⟩]
  · refine bound_le va vb fun hf => ?_
    have h1 := tab_near (band := bd) a2 b2 a3 b3 (na - 1) (nb - 1) (by omega) (by omega) (by
      rw [show ((na - 1 : Nat) : Int) - ((nb - 1 : Nat) : Int) = (na : Int) - (nb : Int) by omega]
      exact hle)
    have h2 : far = 1000000000 := rfl
    omega
  · unfold boundE; omega
  · unfold endsE
    have h1 := (cst_in (a3 0 (by omega)) (b3 0 (by omega))).1
    have h2 := (cst_in (a3 (na - 1) (by omega)) (b3 (nb - 1) (by omega))).1
    split <;> omega
  · have h0 : absv ((nb : Int) - (nb : Int)) = 0 := by rw [Int.sub_self]; rfl
    unfold envC bandOk
    rw [if_pos vb, if_pos ⟨by omega, decide_eq_true ⟨hbd2, by rw [h0]; omega⟩⟩]
set_option maxRecDepth 100000 in
set_option maxHeartbeats 4000000 in
theorem walk (A : Option Addr) (n c : Nat) (w : World) (hn : n ≤ maxLen) (h : BytesAt w w.heap.size A n) :
    Calls Try.prog 3 #[.slice A n c] w fun e w' => e = .returned (.bool true) ∧ Below w.heap.size w w' := by
  by_cases h3 : 3000 < n
  · have H := Lib.hid (long_calls A none n c 0 0 w hn (by unfold maxLen; omega) true ⟨fun _ => .inl h3, fun _ => rfl⟩)
    clear h h3
    go_enter Try.func3, Try.ntmps3
    go_wp2_with fail
    refine H.out.mono ?_
    rintro e _ ⟨rfl, rfl⟩
    go_wp2
    go_ret
    exact ⟨rfl, Below.refl _ _⟩
  · have H := Lib.hid (long_calls A none n c 0 0 w hn (by unfold maxLen; omega) false ⟨fun h => (by cases h), fun h => by omega⟩)
    have H0 := Lib.hid (two_calls A n c w (by omega) h)
    clear h h3
    go_enter Try.func3, Try.ntmps3
    go_wp2_with fail
    refine H.out.mono ?_
    rintro e _ ⟨rfl, rfl⟩
    go_wp2_with fail
    refine H0.out.mono ?_
    rintro e w1 ⟨ga, Ca, na, fa, gb, Cb, nb, fb, r, hr, ⟨va, ha⟩, ⟨vb, hb⟩, rfl, pa, pb, hb1⟩
    have hab := absv_in (n := (na : Int) - (nb : Int)) (B := 8) (by omega) (by omega)
    obtain ⟨e1, q1, q2, q3, e4⟩ := facts (bd := absv ((na : Int) - (nb : Int)) + (r : Int)) hr va ha vb hb rfl
    obtain ⟨bd, hbd⟩ : ∃ bd : Int, absv ((na : Int) - (nb : Int)) + (r : Int) = bd := ⟨_, rfl⟩
    rw [hbd] at e1 q1 q2 e4 ⊢
    have hbd2 : 0 ≤ bd ∧ bd ≤ 72 := by omega
    clear hbd hab hr
    have nb1 := (okQ_of vb).1
    have HOK := Lib.hid (env_okE (na := nb) (band := bd) ⟨nb1, by omega⟩ vb hbd2 (by rw [Int.sub_self]; show (0 : Int) ≤ bd; omega))
    have HOC := Lib.hid (show outC nb fb (fun _ => nb) (envF fb nb bd) = 0 by unfold outC; rw [if_pos ⟨vb, HOK.out⟩, if_pos rfl])
    have HOR := Lib.hid (show outR nb fb (fun _ => nb) (envF fb nb bd) = 0 by unfold outR; rw [if_pos HOC.out]; exact out_self hbd2.1 nb (Nat.le_refl _))
    have BB1 := Lib.hid hb1
    have PA := Lib.hid pa
    have PB := Lib.hid pb
    have H1 := Lib.hid (lowerI (ca := Ca) (cb := Cb) (some ⟨ga, 0, none⟩) (some ⟨gb, 0, none⟩) na nb fa fb bd w1 (by omega) (by omega) (by unfold inI64; omega) pa pb)
    rw [show lbR na nb fa fb bd = boundE na nb fa fb bd by unfold lbR; rw [if_pos e1], e1] at H1
    have R2 := Lib.hid (show elR na nb fa fb bd = leastE na nb fa fb bd by unfold elR; rw [if_pos e1])
    have R3 := Lib.hid (show ebR na nb fa fb = endsE na nb fa fb by unfold ebR; rw [if_pos ⟨va, vb⟩])
    have R4 := Lib.hid (show twoC na nb fa fb = 0 by unfold twoC; rw [if_pos ⟨va, vb⟩])
    have Z1 := Lib.hid e1
    have Z4 := Lib.hid e4
    generalize boundE na nb fa fb bd = x at *
    generalize leastE na nb fa fb bd = y at *
    generalize endsE na nb fa fb = z at *
    have n1 : ¬ y < x := by omega
    have n2 : ¬ x < z := by omega
    have n3 : ¬ z < 0 := by omega
    clear hb1 pa pb H H0 e1 e4 q1 q2 q3 va vb
    go_wp2_with fail
    refine H1.out.mono ?_
    rintro e w2 ⟨rfl, hb2⟩
    have PA2 := Lib.hid (PA.out.kept hb2)
    have PB2 := Lib.hid (PB.out.kept hb2)
    have BB2 := Lib.hid (BB1.out.trans (hb2.mono BB1.out.size))
    clear hb2 H1 PA PB BB1
    have H1 := Lib.hid (elasticS (ca := Ca) (cb := Cb) (some ⟨ga, 0, none⟩) (some ⟨gb, 0, none⟩) na nb fa fb bd w2 (by omega) (by omega) PA2.out PB2.out)
    rw [R2.out, Z1.out] at H1
    clear R2 Z1
    go_wp2_with fail
    refine H1.out.mono ?_
    rintro e w3 ⟨rfl, hb2⟩
    have PA3 := Lib.hid (PA2.out.kept hb2)
    have PB3 := Lib.hid (PB2.out.kept hb2)
    have BB3 := Lib.hid (BB2.out.trans (hb2.mono BB2.out.size))
    clear hb2 H1 PA2 PB2 BB2
    have H1 := Lib.hid (endsBoundI (ca := Ca) (cb := Cb) (some ⟨ga, 0, none⟩) (some ⟨gb, 0, none⟩) na nb fa fb w3 (by omega) (by omega) PA3.out PB3.out)
    rw [R3.out, R4.out] at H1
    clear R3 R4
    go_wp2_with fail
    refine H1.out.mono ?_
    rintro e w4 ⟨rfl, hb2⟩
    have PB4 := Lib.hid (PB3.out.kept hb2)
    have BB4 := Lib.hid (BB3.out.trans (hb2.mono BB3.out.size))
    clear hb2 H1 PA3 PB3 BB3
    have H1 := Lib.hid (envelopeI_yes (cb := Cb) (some ⟨gb, 0, none⟩) nb fb nb bd w4 PB4.out Z4.out)
    clear Z4
    go_wp2_with fail
    refine H1.out.mono ?_
    rintro e w5 ⟨s, rfl, h4, hb2⟩
    obtain ⟨ea, ec, hs, hnum⟩ := four_nums h4
    have PB5 := Lib.hid (PB4.out.kept hb2)
    have BB5 := Lib.hid (BB4.out.trans (hb2.mono BB4.out.size))
    rw [hs 0 (by omega), hs 1 (by omega), hs 2 (by omega), hs 3 (by omega)]
    have BA := Lib.hid (below_alloc1 w5 (.cells #[.slice (ea 0) nb (ec 0), .slice (ea 1) nb (ec 1), .slice (ea 2) nb (ec 2), .slice (ea 3) nb (ec 3)] 32))
    have HE := Lib.hid (env_box (en := fun _ => nb) (ec := ec) hnum)
    have HNU := Lib.hid (show ∀ k, k < 4 → NumAt (w5.alloc (.cells #[.slice (ea 0) nb (ec 0), .slice (ea 1) nb (ec 1), .slice (ea 2) nb (ec 2), .slice (ea 3) nb (ec 3)] 32)) (ea k) nb (envF fb nb bd k) from fun k hk => (hnum k hk).kept BA.out)
    have H2 := Lib.hid (validES ea (fun _ => nb) ec (envF fb nb bd) _ (fun _ _ => by omega) HNU.out)
    rw [HOK.out] at H2
    have PB6 := Lib.hid (PB5.out.kept BA.out)
    have BB6 := Lib.hid (BB5.out.trans (BA.out.mono BB5.out.size))
    have d0 := HE.out.cells 0 (by omega)
    have d1 := HE.out.cells 1 (by omega)
    have d2 := HE.out.cells 2 (by omega)
    have d3 := HE.out.cells 3 (by omega)
    have zlt := HE.out.lt
    clear hb2 H1 PB4 BB4 h4 hs hnum PB5 BB5
    obtain ⟨w6, hw6⟩ : ∃ w6, w5.alloc (.cells #[.slice (ea 0) nb (ec 0), .slice (ea 1) nb (ec 1), .slice (ea 2) nb (ec 2), .slice (ea 3) nb (ec 3)] 32) = w6 := ⟨_, rfl⟩
    rw [hw6] at HNU H2 PB6 BB6 d0 d1 d2 d3 zlt
    go_wp2_with (rw [hw6])
    refine H2.out.mono ?_
    rintro e w7 ⟨rfl, hb2⟩
    have f0 := (hb2.cell (p := ⟨w5.heap.size, 0, none⟩) zlt).trans d0
    have f1 := (hb2.cell (p := ⟨w5.heap.size, 1, none⟩) zlt).trans d1
    have f2 := (hb2.cell (p := ⟨w5.heap.size, 2, none⟩) zlt).trans d2
    have f3 := (hb2.cell (p := ⟨w5.heap.size, 3, none⟩) zlt).trans d3
    have PB7 := Lib.hid (PB6.out.kept hb2)
    have BB7 := Lib.hid (BB6.out.trans (hb2.mono BB6.out.size))
    have H3 := Lib.hid (outsideOfI (ca := Cb) (some ⟨gb, 0, none⟩) nb fb ea (fun _ => nb) ec (envF fb nb bd) w7 (by omega) (fun _ _ => by omega) PB7.out (fun k hk => (HNU.out k hk).kept hb2))
    rw [HOR.out, HOC.out] at H3
    clear hb2 d0 d1 d2 d3 zlt H2 PB6 BB6 HNU
    go_wp2_with fail
    refine H3.out.mono ?_
    rintro e w8 ⟨rfl, hb2⟩
    have BB8 := Lib.hid (BB7.out.trans (hb2.mono BB7.out.size))
    clear hb2 H3 f0 f1 f2 f3
    go_wp2
    go_ret
    exact ⟨rfl, BB8.out⟩
theorem own : ownKnob Try.prog.godebug = none := by kernel_rfl
theorem reads : ∀ t ∈ Try.f3.params.toList, Try.prog.readableRec t = true ∧ t < Try.prog.types.size := by
  rw [Try.params3]
  intro t ht
  obtain rfl : t = 22 := by simpa using ht
  exact ⟨by kernel_rfl, of_decide_eq_true (by kernel_rfl)⟩

set_option maxRecDepth 100000 in
theorem contract (H : Type) (enc : TypeId × Value → H) (W : World) (base : Nat) (args : Array Value) (ds gs : List (DataW H)) (before : List MemPlace)
    (hval : ∀ (j : Nat) t v, Try.f3.params[j]? = some t → args[j]? = some v → Value.okWide Try.prog W .any base t v)
    (hW : DataW.Whole enc Try.prog Try.f3.params.toList Rows.fnBoundsSpec.vars false W args.toList ds gs before) :
    Calls Try.prog 3 args W fun e W' => ∃ v, e = .returned v ∧ Rows.fnBoundsSpec.post enc Try.prog Try.f3 false true false false W args v W' := by
  have hW' := hW
  obtain ⟨p, q, hA0, hV, rfl, hfz, hnd⟩ := hW
  have hA : DataW.TrodAll enc Try.prog W 0 (fun _ => true) true Try.f3.params.toList args.toList ds p := hA0
  rw [Try.params3] at hA hval
  obtain ⟨v0, zs0, d0, ds0, p0, q0, hargs, rfl, rfl, h0, e0⟩ := trodAll_cons hA
  obtain ⟨rfl, rfl, rfl⟩ := trodAll_nil e0
  obtain rfl : args = #[v0] := by cases args; simp_all
  obtain ⟨rfl, rfl⟩ := trodVars_none hV
  obtain ⟨A, n, c, rfl, hn, hb⟩ := open_bytesAt (hval 0 22 v0 rfl rfl) h0
  refine (walk A n c W hn hb).mono fun e W' ⟨he, hg⟩ => ?_
  subst he
  exact ⟨_, rfl, law_post (by kernel_rfl) reads (by kernel_rfl) Try.underlying4 rfl hW' rfl rfl rfl hg⟩

set_option maxRecDepth 100000 in
theorem lifted (os : Os) (started : os.Started) (H : Type) (enc : TypeId × Value → H) :
    ReturnsInHanded {} Try.checked os 3 .any (Rows.fnBoundsSpec.pre6 enc Try.prog Try.f3 Rows.fnBoundsRow.domain false) (Rows.fnBoundsSpec.post enc Try.prog Try.f3 false true false false) := by
  refine returnsInHanded_of_change (C := Try.checked) own started (by kernel_rfl) Try.func3
    (ChangeSpec.witness6 (enc := enc) (C := Try.checked) false ⟨#[], #[.slice none 0 0], []⟩ 8 (by kernel_rfl) (by kernel_rfl) (by kernel_rfl) (by kernel_rfl)) ?_
  intro W base args ds gs before hval hW _ _
  exact contract H enc W base args ds gs before hval hW

theorem holds : Rows.FnBoundsSaid :=
  OpenClaim.holds_of_wide 3 Try.f3 rfl rfl rfl rfl rfl rfl rfl ⟨rfl, rfl, rfl, rfl, rfl⟩ rfl rfl rfl rfl rfl (by kernel_rfl) Try.func3 (by kernel_rfl)
    (of_decide_eq_true (by kernel_rfl)) (by unfold Func.isWrapper; first | (rw [if_pos (by decide +kernel)]; kernel_rfl) | (rw [if_neg (by decide +kernel)]; exact ⟨rfl, rfl⟩))
    (fun os started H enc _ => lifted os started H enc)
end Go.Proofs.Ythpmckfjlbiiiab.fnD
