/-
  Proved: for all arguments, the call of the law on the least cost returns true and leaves its arguments as they were (the walk).
  Conditions: none.
-/
import Derived.Test.YthpmckfjlbiiiabFnB
import Derived.Test.YthpmckfjlbiiiabFnN
import Derived.Test.YthpmckfjlbiiiabPathA
import Derived.Test.YthpmckfjlbiiiabFitI
import Derived.Test.YthpmckfjlbiiiabElasI
namespace Go.Proofs.Ythpmckfjlbiiiab.fnE
open Go.ChangeShapes Go.WideShapes Go.ChangeAt Go.RowKit Go.Joins
open Go.Proofs.Ythpmckfjlbiiiab.core Go.Proofs.Ythpmckfjlbiiiab.rown Go.Proofs.Ythpmckfjlbiiiab.stk Go.Proofs.Ythpmckfjlbiiiab.boxed Go.Proofs.Ythpmckfjlbiiiab.ft Go.Proofs.Ythpmckfjlbiiiab.seq Go.Proofs.Ythpmckfjlbiiiab.src Go.Proofs.Ythpmckfjlbiiiab.tab Go.Proofs.Ythpmckfjlbiiiab.path Go.Proofs.Ythpmckfjlbiiiab.dp Go.Proofs.Ythpmckfjlbiiiab.fnB
open Go.Proofs.Ythpmckfjlbiiiab.wBackFeats (bck)
set_option linter.unusedVariables false
set_option linter.unusedSimpArgs false
theorem elR_of {na nb : Nat} {fa fb : Nat → P3} {band v : Int} (h0 : elC na nb fa fb band = 0) (h : leastE na nb fa fb band = v) : elR na nb fa fb band = v := by
  unfold elR; rw [if_pos h0]; exact h
set_option maxRecDepth 100000 in
set_option maxHeartbeats 4000000 in
theorem walk (A D : Option Addr) (n c m d : Nat) (w : World) (hn : n ≤ maxLen) (hm : m ≤ maxLen) (h : BytesAt w w.heap.size A n) (hd : BytesAt w w.heap.size D m) :
    Calls Try.prog 5 #[.slice A n c, .slice D m d] w fun e w' => e = .returned (.bool true) ∧ Below w.heap.size w w' := by
  by_cases h3 : 3000 < n ∨ 3000 < m
  · have H := Lib.hid (long_calls A D n c m d w hn hm true ⟨fun _ => h3, fun _ => rfl⟩)
    clear h hd h3
    go_enter Try.func5, Try.ntmps5
    go_wp2_with fail
    refine H.out.mono ?_
    rintro e _ ⟨rfl, rfl⟩
    go_wp2
    go_ret
    exact ⟨rfl, Below.refl _ _⟩
  · have H := Lib.hid (long_calls A D n c m d w hn hm false ⟨fun h => (by cases h), fun h => absurd h h3⟩)
    have H0 := Lib.hid (two_calls A n c w (by omega) h)
    have HD := Lib.hid hd
    have hm3 : m ≤ 3000 := by omega
    clear h hd h3
    go_enter Try.func5, Try.ntmps5
    go_wp2_with fail
    refine H.out.mono ?_
    rintro e _ ⟨rfl, rfl⟩
    go_wp2_with fail
    refine H0.out.mono ?_
    rintro e w1 ⟨ga, Ca, na, fa, gb, Cb, nb, fb, r, hr, ⟨va, ha⟩, ⟨vb, hb⟩, rfl, pa, pb, hb1⟩
    have hab := absv_in (n := (na : Int) - (nb : Int)) (B := 8) (by omega) (by omega)
    obtain ⟨e1, e2, e3, e4, l1, l2, l3⟩ := least_facts (bd := absv ((na : Int) - (nb : Int)) + (r : Int)) hr va ha vb hb rfl
    obtain ⟨bd, hbd⟩ : ∃ bd : Int, absv ((na : Int) - (nb : Int)) + (r : Int) = bd := ⟨_, rfl⟩
    rw [hbd] at e1 e2 l1 l3 ⊢
    have hbd2 : 0 ≤ bd ∧ bd ≤ 72 := by omega
    clear hbd hab hr
    have na1 : 1 ≤ na := (okQ_of va).1
    have nb1 : 1 ≤ nb := (okQ_of vb).1
    have hbk := least_back va vb
    obtain ⟨V, hV⟩ : ∃ V, leastE na nb fa fb bd = V := ⟨_, rfl⟩
    obtain ⟨U, hU⟩ : ∃ U, leastE na nb fa fb 72 = U := ⟨_, rfl⟩
    have hUV : ¬ V < U := by omega
    have R1 := Lib.hid (elR_of e1 hV)
    have R2 := Lib.hid (elR_of e2 (l1.trans hV))
    have R3 := Lib.hid (elR_of e3 l2)
    have R4 := Lib.hid (elR_of e4 hU)
    have vx := back_ok va
    have vy := back_ok vb
    have e5 : elC na nb (fun j => bck (fa (na - 1 - j))) (fun j => bck (fb (nb - 1 - j))) 72 = 0 := by
      have := (absv_in (n := (na : Int) - (nb : Int)) (B := 72) (by omega) (by omega)).2
      unfold elC; rw [if_pos ⟨vx, vy⟩, if_pos ⟨by omega, this⟩]
    have R5 := Lib.hid (elR_of e5 (hbk.trans hU))
    have Z1 := Lib.hid e1
    have Z2 := Lib.hid e2
    have Z3 := Lib.hid e3
    have Z4 := Lib.hid e4
    have Z5 := Lib.hid e5
    have VA := Lib.hid va
    have VB := Lib.hid vb
    have HUle := Lib.hid (show ∀ (k : Nat) (f : Nat → P2), okPath k f na nb 72 = true → U ≤ sumZ (pcAt fa fb f) k from fun k f hp => by rw [← hU]; exact path_le va vb hp)
    have BB1 := Lib.hid hb1
    have PA := Lib.hid pa
    have PB := Lib.hid pb
    have HD1 := Lib.hid (HD.out.kept hb1)
    clear e1 e2 e3 e4 e5 l1 l2 l3 hV hU hbk va vb vx vy hb1 pa pb H H0 HD
    have H1 := Lib.hid (elasticI (ca := Ca) (cb := Cb) (some ⟨ga, 0, none⟩) (some ⟨gb, 0, none⟩) na nb fa fb bd w1 (by omega) (by omega) (by unfold inI64; omega) PA.out PB.out)
    rw [R1.out, Z1.out] at H1
    clear R1 Z1
    go_wp2_with fail
    refine H1.out.mono ?_
    rintro e w2 ⟨rfl, hb2⟩
    have PA2 := Lib.hid (PA.out.kept hb2)
    have PB2 := Lib.hid (PB.out.kept hb2)
    have HD2 := Lib.hid (HD1.out.kept (hb2.mono BB1.out.size))
    have BB2 := Lib.hid (BB1.out.trans (hb2.mono BB1.out.size))
    clear hb2 H1 PA PB HD1 BB1
    have H1 := Lib.hid (elasticI (ca := Cb) (cb := Ca) (some ⟨gb, 0, none⟩) (some ⟨ga, 0, none⟩) nb na fb fa bd w2 (by omega) (by omega) (by unfold inI64; omega) PB2.out PA2.out)
    rw [R2.out, Z2.out] at H1
    clear R2 Z2
    go_wp2_with fail
    refine H1.out.mono ?_
    rintro e w3 ⟨rfl, hb2⟩
    have PA3 := Lib.hid (PA2.out.kept hb2)
    have PB3 := Lib.hid (PB2.out.kept hb2)
    have HD3 := Lib.hid (HD2.out.kept (hb2.mono BB2.out.size))
    have BB3 := Lib.hid (BB2.out.trans (hb2.mono BB2.out.size))
    clear hb2 H1 PA2 PB2 HD2 BB2
    have H1 := Lib.hid (elasticI (ca := Ca) (cb := Ca) (some ⟨ga, 0, none⟩) (some ⟨ga, 0, none⟩) na na fa fa 0 w3 (by omega) (by omega) (by unfold inI64; omega) PA3.out PA3.out)
    rw [R3.out, Z3.out] at H1
    clear R3 Z3
    go_wp2_with fail
    refine H1.out.mono ?_
    rintro e w4 ⟨rfl, hb2⟩
    have PA4 := Lib.hid (PA3.out.kept hb2)
    have PB4 := Lib.hid (PB3.out.kept hb2)
    have HD4 := Lib.hid (HD3.out.kept (hb2.mono BB3.out.size))
    have BB4 := Lib.hid (BB3.out.trans (hb2.mono BB3.out.size))
    clear hb2 H1 PA3 PB3 HD3 BB3
    have H1 := Lib.hid (elasticI (ca := Ca) (cb := Cb) (some ⟨ga, 0, none⟩) (some ⟨gb, 0, none⟩) na nb fa fb 72 w4 (by omega) (by omega) (by unfold inI64; omega) PA4.out PB4.out)
    rw [R4.out, Z4.out] at H1
    clear R4 Z4
    go_wp2_with fail
    refine H1.out.mono ?_
    rintro e w5 ⟨rfl, hb2⟩
    have PA5 := Lib.hid (PA4.out.kept hb2)
    have PB5 := Lib.hid (PB4.out.kept hb2)
    have HD5 := Lib.hid (HD4.out.kept (hb2.mono BB4.out.size))
    have BB5 := Lib.hid (BB4.out.trans (hb2.mono BB4.out.size))
    clear hb2 H1 PA4 PB4 HD4 BB4
    have H1 := Lib.hid (wBackFeats.spec_yes (c := Ca) (some ⟨ga, 0, none⟩) na fa w5 (by omega) PA5.out (okF_ofQ VA.out))
    generalize hfx : (fun j => bck (fa (na - 1 - j))) = fx at *
    generalize hfy : (fun j => bck (fb (nb - 1 - j))) = fy at *
    have HFY := Lib.hid hfy
    clear hfx hfy
    go_wp2_with fail
    refine H1.out.mono ?_
    rintro e w6 ⟨v, rfl, ho, hb2⟩
    obtain ⟨gx, Cx, rfl⟩ := slice_of ho na1
    have PA6 := Lib.hid (PA5.out.kept hb2)
    have PB6 := Lib.hid (PB5.out.kept hb2)
    have PX6 := Lib.hid (pts_row ho)
    have HD6 := Lib.hid (HD5.out.kept (hb2.mono BB5.out.size))
    have BB6 := Lib.hid (BB5.out.trans (hb2.mono BB5.out.size))
    clear hb2 ho H1 PA5 PB5 HD5 BB5
    have H1 := Lib.hid (wBackFeats.spec_yes (c := Cb) (some ⟨gb, 0, none⟩) nb fb w6 (by omega) PB6.out (okF_ofQ VB.out))
    rw [HFY.out] at H1
    go_wp2_with fail
    refine H1.out.mono ?_
    rintro e w7 ⟨v, rfl, ho, hb2⟩
    obtain ⟨gy, Cy, rfl⟩ := slice_of ho nb1
    have PA7 := Lib.hid (PA6.out.kept hb2)
    have PB7 := Lib.hid (PB6.out.kept hb2)
    have PX7 := Lib.hid (PX6.out.kept hb2)
    have PY7 := Lib.hid (pts_row ho)
    have HD7 := Lib.hid (HD6.out.kept (hb2.mono BB6.out.size))
    have BB7 := Lib.hid (BB6.out.trans (hb2.mono BB6.out.size))
    clear hb2 ho H1 PA6 PB6 PX6 HD6 BB6
    have H1 := Lib.hid (elasticI (ca := Cx) (cb := Cy) (some ⟨gx, 0, none⟩) (some ⟨gy, 0, none⟩) na nb fx fy 72 w7 (by omega) (by omega) (by unfold inI64; omega) PX7.out PY7.out)
    rw [R5.out, Z5.out] at H1
    clear R5 Z5 PX7 PY7
    go_wp2_with fail
    refine H1.out.mono ?_
    rintro e w8 ⟨rfl, hb2⟩
    have PA8 := Lib.hid (PA7.out.kept hb2)
    have PB8 := Lib.hid (PB7.out.kept hb2)
    have HD8 := Lib.hid (HD7.out.kept (hb2.mono BB7.out.size))
    have BB8 := Lib.hid (BB7.out.trans (hb2.mono BB7.out.size))
    clear hb2 H1 PA7 PB7 HD7 BB7
    have H1 := Lib.hid (patha_calls D m d na nb w8 hm3 na1 ha nb1 hb (HD8.out.up BB8.out.size))
    go_wp2_with fail
    refine H1.out.mono ?_
    rintro e w9 ⟨gp, Cp, k, f, hok, hk1, hk2, rfl, ho, hb2⟩
    have hUP := HUle.out k f hok
    obtain ⟨P, hP⟩ : ∃ P, sumZ (pcAt fa fb f) k = P := ⟨_, rfl⟩
    rw [hP] at hUP
    have HF := Lib.hid (show fitC na nb k fa fb f = 0 by unfold fitC; rw [if_pos ⟨VA.out, VB.out⟩, if_pos hok])
    have HP := Lib.hid (show pcR na nb k fa fb f = P by unfold pcR; rw [if_pos HF.out]; exact hP)
    have PC9 := Lib.hid (show SpAt w9 (some ⟨gp, 0, none⟩) k f from sp_row ho)
    have PA9 := Lib.hid (PA8.out.kept hb2)
    have PB9 := Lib.hid (PB8.out.kept hb2)
    have BB9 := Lib.hid (BB8.out.trans (hb2.mono BB8.out.size))
    have EV := Lib.hid (show vP k f (na : Int) (nb : Int) 72 = true by unfold vP; rw [if_pos ⟨by omega, by omega⟩]; exact hok)
    clear hb2 ho H1 PA8 PB8 HD8 BB8 HUle hok hP
    have H1 := Lib.hid (pathCostI (ca := Ca) (cb := Cb) (c := Cp) (some ⟨ga, 0, none⟩) (some ⟨gb, 0, none⟩) (some ⟨gp, 0, none⟩) na nb k fa fb f w9 (by omega) (by omega) (by omega) PA9.out PB9.out PC9.out)
    rw [HP.out, HF.out] at H1
    clear HP HF
    go_wp2_with fail
    refine H1.out.mono ?_
    rintro e w10 ⟨rfl, hb2⟩
    have PC10 := Lib.hid (PC9.out.kept hb2)
    have BB10 := Lib.hid (BB9.out.trans (hb2.mono BB9.out.size))
    clear hb2 H1 PA9 PB9 PC9 BB9
    have H1 := Lib.hid (pathI (c := Cp) (some ⟨gp, 0, none⟩) k f (na : Int) (nb : Int) 72 w10 (by omega) (by unfold inI64; omega) (by unfold inI64; omega) PC10.out)
    rw [EV.out] at H1
    go_wp2_with fail
    refine H1.out.mono ?_
    rintro e w11 ⟨rfl, hb2⟩
    have BB11 := Lib.hid (BB10.out.trans (hb2.mono BB10.out.size))
    clear hb2 H1
    go_wp2
    go_ret
    exact ⟨rfl, BB11.out⟩
theorem own : ownKnob Try.prog.godebug = none := by kernel_rfl
theorem reads : ∀ t ∈ Try.f5.params.toList, Try.prog.readableRec t = true ∧ t < Try.prog.types.size := by
  rw [Try.params5]
  intro t ht
  obtain rfl : t = 22 := by simpa using ht
  exact ⟨by kernel_rfl, of_decide_eq_true (by kernel_rfl)⟩

set_option maxRecDepth 100000 in
theorem contract (H : Type) (enc : TypeId × Value → H) (W : World) (base : Nat) (args : Array Value) (ds gs : List (DataW H)) (before : List MemPlace)
    (hval : ∀ (j : Nat) t v, Try.f5.params[j]? = some t → args[j]? = some v → Value.okWide Try.prog W .any base t v)
    (hW : DataW.Whole enc Try.prog Try.f5.params.toList Rows.fnElasticSpec.vars false W args.toList ds gs before) :
    Calls Try.prog 5 args W fun e W' => ∃ v, e = .returned v ∧ Rows.fnElasticSpec.post enc Try.prog Try.f5 false true false false W args v W' := by
  have hW' := hW
  obtain ⟨p, q, hA0, hV, rfl, hfz, hnd⟩ := hW
  have hA : DataW.TrodAll enc Try.prog W 0 (fun _ => true) true Try.f5.params.toList args.toList ds p := hA0
  rw [Try.params5] at hA hval
  obtain ⟨v0, zs0, d0, ds0, p0, q0, hargs, rfl, rfl, h0, e0⟩ := trodAll_cons hA
  obtain ⟨v1, zs1, d1, ds1, p1, q1, rfl, rfl, rfl, h1, e1⟩ := trodAll_cons e0
  obtain ⟨rfl, rfl, rfl⟩ := trodAll_nil e1
  obtain rfl : args = #[v0, v1] := by cases args; simp_all
  obtain ⟨rfl, rfl⟩ := trodVars_none hV
  obtain ⟨A, n, c, rfl, hn, hb⟩ := open_bytesAt (hval 0 22 v0 rfl rfl) h0
  obtain ⟨D, m, d, rfl, hm, hd⟩ := open_bytesAt (hval 1 22 v1 rfl rfl) h1
  refine (walk A D n c m d W hn hm hb hd).mono fun e W' ⟨he, hg⟩ => ?_
  subst he
  exact ⟨_, rfl, law_post (by kernel_rfl) reads (by kernel_rfl) Try.underlying4 rfl hW' rfl rfl rfl hg⟩

set_option maxRecDepth 100000 in
theorem lifted (os : Os) (started : os.Started) (H : Type) (enc : TypeId × Value → H) :
    ReturnsInHanded {} Try.checked os 5 .any (Rows.fnElasticSpec.pre6 enc Try.prog Try.f5 Rows.fnElasticRow.domain false) (Rows.fnElasticSpec.post enc Try.prog Try.f5 false true false false) := by
  refine returnsInHanded_of_change (C := Try.checked) own started (by kernel_rfl) Try.func5
    (ChangeSpec.witness6 (enc := enc) (C := Try.checked) false ⟨#[], #[.slice none 0 0, .slice none 0 0], []⟩ 8 (by kernel_rfl) (by kernel_rfl) (by kernel_rfl) (by kernel_rfl)) ?_
  intro W base args ds gs before hval hW _ _
  exact contract H enc W base args ds gs before hval hW

theorem holds : Rows.FnElasticSaid :=
  OpenClaim.holds_of_wide 5 Try.f5 rfl rfl rfl rfl rfl rfl rfl ⟨rfl, rfl, rfl, rfl, rfl⟩ rfl rfl rfl rfl rfl (by kernel_rfl) Try.func5 (by kernel_rfl)
    (of_decide_eq_true (by kernel_rfl)) (by unfold Func.isWrapper; first | (rw [if_pos (by decide +kernel)]; kernel_rfl) | (rw [if_neg (by decide +kernel)]; exact ⟨rfl, rfl⟩))
    (fun os started H enc _ => lifted os started H enc)
end Go.Proofs.Ythpmckfjlbiiiab.fnE
