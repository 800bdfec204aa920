/-
  Proved: what the document's functions that bound the least cost from below, and that return an envelope, return.
  Conditions: none.
-/
import Derived.Test.YtkcfghbkcgommabEnvOf
import Derived.Test.YtkcfghbkcgommabEndsI
import Derived.Test.YtkcfghbkcgommabElas
namespace Go.Proofs.Ytkcfghbkcgommab.env
open Go.ChangeShapes Go.WideShapes Go.ChangeAt Go.RowKit Go.Joins
open Go.Proofs.Ytkcfghbkcgommab.core Go.Proofs.Ytkcfghbkcgommab.rown Go.Proofs.Ytkcfghbkcgommab.stk Go.Proofs.Ytkcfghbkcgommab.boxed Go.Proofs.Ytkcfghbkcgommab.ft Go.Proofs.Ytkcfghbkcgommab.seq Go.Proofs.Ytkcfghbkcgommab.tab
set_option linter.unusedVariables false
set_option linter.unusedSimpArgs false
theorem own_sl {w : World} {base E k n : Nat} {v : Value} {row : Nat → List Value} (h : w.ownsRow base E k v n (rws row n)) (hk : 0 < k) : ∃ A c, v = .slice A n c := by
  obtain ⟨hl, h⟩ := h
  rcases h with ⟨rfl, e⟩ | ⟨g, cap, cur, rfl, _⟩
  · rw [e] at hl
    have hn : n = 0 := by
      rcases Nat.eq_zero_or_pos n with h' | h'
      · exact h'
      · have := Nat.mul_pos h' hk
        simp at hl
        omega
    subst hn
    exact ⟨_, _, rfl⟩
  · exact ⟨_, _, rfl⟩
theorem num_row {w : World} {base E n c : Nat} {A : Option Addr} {F : Nat → Int} (h : w.ownsRow base E 1 (.slice A n c) n (rws (one F) n)) : NumAt w A n F := fun i hi => by
  have h' := h
  rcases h with ⟨-, ⟨-, h0⟩ | ⟨g, cap, cur, e, -, -⟩⟩
  · omega
  · injection e with e1 e2 e3
    subst e1 e3
    exact ⟨g, 0, rfl, row_lt h', by rw [Nat.zero_add]; exact one_cell h' hi⟩
theorem four_nums {w : World} {base n : Nat} {s : Nat → Value} {F : Nat → Nat → Int} (h : Four w base (fun _ => n) s F) : ∃ (ea : Nat → Option Addr) (ec : Nat → Nat), (∀ k, k < 4 → s k = .slice (ea k) n (ec k)) ∧ ∀ k, k < 4 → NumAt w (ea k) n (F k) := by
  have : ∀ k, ∃ (A : Option Addr) (c : Nat), k < 4 → s k = .slice A n c ∧ NumAt w A n (F k) := fun k => by
    by_cases hk : k < 4
    · obtain ⟨A, c, e⟩ := own_sl (h.own k hk) (by decide)
      have ho := h.own k hk
      rw [e] at ho
      exact ⟨A, c, fun _ => ⟨e, num_row ho⟩⟩
    · exact ⟨none, 0, fun h' => absurd h' hk⟩
  refine ⟨fun k => (this k).choose, fun k => (this k).choose_spec.choose, fun k hk => ((this k).choose_spec.choose_spec hk).1, fun k hk => ((this k).choose_spec.choose_spec hk).2⟩
theorem win_ne {na nb i : Nat} {band : Int} (hb : 0 ≤ band) (hab : absv ((na : Int) - (nb : Int)) ≤ band) (hi : i < na) (hn : 1 ≤ nb) : ∃ j : Nat, (i : Int) - band ≤ (j : Int) ∧ (j : Int) ≤ (i : Int) + band ∧ j < nb := by
  unfold absv at hab
  by_cases h : i < nb
  · exact ⟨i, by omega, by omega, h⟩
  · exact ⟨nb - 1, by split at hab <;> omega, by omega, by omega⟩
theorem env_okE {na nb : Nat} {fb : Nat → P3} {band : Int} (ha : 1 ≤ na ∧ na ≤ 72) (vb : okQ nb fb = true) (hb : 0 ≤ band ∧ band ≤ 72) (hab : absv ((na : Int) - (nb : Int)) ≤ band) : okE (fun _ => na) (envF fb nb band) = true := by
  obtain ⟨b1, b2, b3⟩ := okQ_of vb
  have hx : ∀ ver i, i < na → (0 ≤ wLo (fun j => vOf ver (fb j)) nb ((i : Int) - band) ((i : Int) + band) ∧ wLo (fun j => vOf ver (fb j)) nb ((i : Int) - band) ((i : Int) + band) ≤ wHi (fun j => vOf ver (fb j)) nb ((i : Int) - band) ((i : Int) + band)) ∧ wHi (fun j => vOf ver (fb j)) nb ((i : Int) - band) ((i : Int) + band) ≤ 255 := fun ver i hi => by
    have h1 := w_in (g := fun j => vOf ver (fb j)) (m := nb) (a := (i : Int) - band) (b := (i : Int) + band) fun j hj => vOf_in (b3 j hj) ver
    have h2 := w_le (g := fun j => vOf ver (fb j)) (win_ne hb.1 hab hi b1)
    omega
  have e1 : bndOk na na (envF fb nb band 0) (envF fb nb band 1) = true := bnd_true ⟨rfl, ha, fun i hi => hx false i hi⟩
  have e2 : bndOk na na (envF fb nb band 2) (envF fb nb band 3) = true := bnd_true ⟨rfl, ha, fun i hi => hx true i hi⟩
  show (bndOk na na (envF fb nb band 0) (envF fb nb band 1) && bndOk na na (envF fb nb band 2) (envF fb nb band 3) && decide (na = na)) = true
  rw [e1, e2]
  simp
theorem outG_E (fa fb : Nat → P3) (m : Nat) (band : Int) : ∀ n, outG fa (envF fb m band) n = outE fa fb m band n
  | 0 => rfl
  | n + 1 => by unfold outG outE; rw [outG_E fa fb m band n]; rfl
set_option maxRecDepth 100000 in
set_option maxHeartbeats 8000000 in
theorem boundS {ca cb : Nat} (A B : Option Addr) (na nb : Nat) (fa fb : Nat → P3) (band : Int) (w : World) (pa : PtsAt w A na fa) (pb : PtsAt w B nb fb) (va : okQ na fa = true) (vb : okQ nb fb = true) (hb : 0 ≤ band ∧ band ≤ 72) (hab : absv ((na : Int) - (nb : Int)) ≤ band) :
    Calls Try.prog 24 #[.slice A na ca, .slice B nb cb, .int .i64 band] w fun e w' => e = .returned (.int .i64 (boundE na nb fa fb band)) ∧ Below w.heap.size w w' := by
  obtain ⟨a1, a2, a3⟩ := okQ_of va
  obtain ⟨b1, b2, b3⟩ := okQ_of vb
  have HO := Lib.hid (ofS (c := cb) B nb fb na band w b2 a2 hb pb)
  have HPA := Lib.hid pa
  have HPB := Lib.hid pb
  have VE := Lib.hid (env_okE ⟨a1, a2⟩ vb hb hab)
  have HS := Lib.hid (fun W ea ec B (hA : PtsAt W A na fa) (hE : EnvAt W B ea (fun _ => na) ec (envF fb nb band)) => outsideS (ca := ca) A na fa B ea (fun _ => na) ec (envF fb nb band) W hA hE va VE.out rfl)
  have HE := Lib.hid (fun W hA hB => endsS (ca := ca) (cb := cb) A B na nb fa fb W hA hB va vb)
  have HV := Lib.hid (show max (outG fa (envF fb nb band) na) (endsE na nb fa fb) = boundE na nb fa fb band by unfold boundE; rw [outG_E])
  clear pa pb va vb a3 b3 VE
  generalize boundE na nb fa fb band = R at *
  generalize outG fa (envF fb nb band) na = O at *
  generalize endsE na nb fa fb = D at *
  generalize envF fb nb band = F at *
  go_enter Try.func24, Try.ntmps24
  go_wp2_with fail
  refine HO.out.mono ?_
  rintro e w1 ⟨s, rfl, h4, hb1⟩
  obtain ⟨ea, ec, hs, hn⟩ := four_nums h4
  rw [hs 0 (by omega), hs 1 (by omega), hs 2 (by omega), hs 3 (by omega)]
  have BA := Lib.hid (below_alloc1 w1 (.cells #[.slice (ea 0) na (ec 0), .slice (ea 1) na (ec 1), .slice (ea 2) na (ec 2), .slice (ea 3) na (ec 3)] 77))
  have HEN := Lib.hid (env_box (en := fun _ => na) (ec := ec) hn)
  have B1 := Lib.hid (hb1.trans (BA.out.mono hb1.size))
  have PA1 := Lib.hid (HPA.out.kept B1.out)
  have PB1 := Lib.hid (HPB.out.kept B1.out)
  have H1 := Lib.hid (HS.out _ ea ec w1.heap.size PA1.out HEN.out)
  clear hs hn h4 hb1 HO HPA HPB HS HEN BA
  go_wp2_with fail
  refine H1.out.mono ?_
  rintro e w2 ⟨rfl, hb2⟩
  have B2 := Lib.hid (B1.out.trans (hb2.mono B1.out.size))
  have H2 := Lib.hid (HE.out w2 (PA1.out.kept hb2) (PB1.out.kept hb2))
  clear hb2 H1 HE PA1 PB1 B1
  go_wp2_with fail
  refine H2.out.mono ?_
  rintro e w3 ⟨rfl, hb3⟩
  have B3 := Lib.hid (B2.out.trans (hb3.mono B2.out.size))
  clear hb3 H2 B2
  go_wp2_with fail
  refine (maxE _ _ _).mono ?_
  rintro e _ ⟨rfl, rfl⟩
  rw [HV.out]
  go_wp2
  go_ret
  exact ⟨rfl, B3.out⟩
noncomputable def lbR (na nb : Nat) (fa fb : Nat → P3) (band : Int) : Int := if elC na nb fa fb band = 0 then boundE na nb fa fb band else 0
set_option maxRecDepth 100000 in
set_option maxHeartbeats 4000000 in
theorem lowerS {ca cb : Nat} (A B : Option Addr) (na nb : Nat) (fa fb : Nat → P3) (band : Int) (w : World) (ha : na ≤ 1048576) (hb : nb ≤ 1048576) (pa : PtsAt w A na fa) (pb : PtsAt w B nb fb) :
    Calls Try.prog 10 #[.slice A na ca, .slice B nb cb, .int .i64 band] w fun e w' => e = .returned (.tuple #[.int .i64 (lbR na nb fa fb band), .int .i64 (elC na nb fa fb band)]) ∧ Below w.heap.size w w' := by
  have HC := Lib.hid (codeS (ca := ca) (cb := cb) A B na nb fa fb band w ha hb pa pb)
  have HPA := Lib.hid pa
  have HPB := Lib.hid pb
  clear pa pb
  by_cases h0 : elC na nb fa fb band = 0
  rotate_left
  · have HR := Lib.hid (show lbR na nb fa fb band = 0 by unfold lbR; rw [if_neg h0])
    have h12 : elC na nb fa fb band = 1 ∨ elC na nb fa fb band = 2 := by have := el_any na nb fa fb band; omega
    rw [HR.out]
    clear h0 HR HPA HPB
    rcases h12 with h | h
    all_goals
      rw [h] at HC ⊢
      clear h
      go_enter Try.func10, Try.ntmps10
      go_wp2_with fail
      refine HC.out.mono ?_
      rintro e w1 ⟨rfl, hb1⟩
      have B1 := Lib.hid hb1
      clear hb1
      go_wp2
      go_ret2
      exact ⟨rfl, B1.out⟩
  have HR := Lib.hid (show lbR na nb fa fb band = boundE na nb fa fb band by unfold lbR; rw [if_pos h0])
  obtain ⟨v1, v2, v3, v4⟩ := el_of h0
  have HL := Lib.hid (fun W hA hB => boundS (ca := ca) (cb := cb) A B na nb fa fb band W hA hB v1 v2 v3 v4)
  rw [HR.out]
  rw [h0] at HC ⊢
  clear h0 HR v1 v2 v3 v4
  generalize boundE na nb fa fb band = v at *
  go_enter Try.func10, Try.ntmps10
  go_wp2_with fail
  refine HC.out.mono ?_
  rintro e w1 ⟨rfl, hb1⟩
  have B1 := Lib.hid hb1
  have HL1 := Lib.hid (HL.out w1 (HPA.out.kept hb1) (HPB.out.kept hb1))
  clear hb1 HC HPA HPB HL
  go_wp2_with fail
  refine HL1.out.mono ?_
  rintro e w2 ⟨rfl, hb2⟩
  have B2 := Lib.hid (B1.out.trans (hb2.mono B1.out.size))
  clear hb2
  go_wp2
  go_ret2
  exact ⟨rfl, B2.out⟩
end Go.Proofs.Ytkcfghbkcgommab.env
