/-
  Proved: what the library's search for the least of measured lists returns with the program's comparison.
  Conditions: there is one at least.
-/
import Derived.Test.YthpmckfjlbiiiaaMeas
namespace Go.Proofs.Ythpmckfjlbiiiaa.env
open Go.ChangeShapes Go.WideShapes Go.ChangeAt Go.RowKit Go.Joins
open Go.Proofs.Ythpmckfjlbiiiaa.core Go.Proofs.Ythpmckfjlbiiiaa.rown Go.Proofs.Ythpmckfjlbiiiaa.stk Go.Proofs.Ythpmckfjlbiiiaa.boxed Go.Proofs.Ythpmckfjlbiiiaa.ft Go.Proofs.Ythpmckfjlbiiiaa.seq Go.Proofs.Ythpmckfjlbiiiaa.tab
set_option linter.unusedVariables false
set_option linter.unusedSimpArgs false
def cmpV (x y : Int) : Int := if x < y then -1 else if y < x then 1 else 0
theorem cmpI (x y : Int) (w : World) : Calls Try.prog 107 #[.int .i64 x, .int .i64 y] w fun e w' => e = .returned (.int .i64 (cmpV x y)) ∧ w = w' := by
  have H := Lib.hid (fun v W => nanI v W)
  have HV := Lib.hid (show cmpV x y = if x < y then -1 else if y < x then 1 else 0 from rfl)
  rw [HV.out]
  clear HV
  by_cases h1 : x < y
  · rw [if_pos h1]
    go_enter Try.func107, Try.ntmps107
    go_wp2_with fail
    with_reducible refine (H.out _ _).mono ?_
    rintro e _ ⟨rfl, rfl⟩
    go_wp2_with fail
    with_reducible refine (H.out _ _).mono ?_
    rintro e _ ⟨rfl, rfl⟩
    go_wp2
    go_ret
    exact ⟨rfl, rfl⟩
  · rw [if_neg h1]
    by_cases h2 : y < x
    · rw [if_pos h2]
      have h3 : y < x ∨ False := .inl h2
      go_enter Try.func107, Try.ntmps107
      go_wp2_with fail
      with_reducible refine (H.out _ _).mono ?_
      rintro e _ ⟨rfl, rfl⟩
      go_wp2_with fail
      with_reducible refine (H.out _ _).mono ?_
      rintro e _ ⟨rfl, rfl⟩
      go_wp2
      go_ret
      exact ⟨rfl, rfl⟩
    · rw [if_neg h2]
      go_enter Try.func107, Try.ntmps107
      go_wp2_with fail
      with_reducible refine (H.out _ _).mono ?_
      rintro e _ ⟨rfl, rfl⟩
      go_wp2_with fail
      with_reducible refine (H.out _ _).mono ?_
      rintro e _ ⟨rfl, rfl⟩
      go_wp2
      go_ret
      exact ⟨rfl, rfl⟩
theorem compareI (a b c d : Int) (w : World) : Calls Try.prog 82 #[.agg #[.int .i64 a, .int .i64 b], .agg #[.int .i64 c, .int .i64 d]] w fun e w' => e = .returned (.int .i64 (cmpV b d)) ∧ Below w.heap.size w w' := by
  have H := Lib.hid (fun W => cmpI b d W)
  generalize cmpV b d = r at *
  have B1 := Lib.hid (below_alloc1 w (.cells #[.int .i64 a, .int .i64 b] 98))
  have B2 := Lib.hid (B1.out.alloc B1.out.size (.cells #[.int .i64 c, .int .i64 d] 98))
  go_enter Try.func82, Try.ntmps82
  go_wp2_with fail
  with_reducible refine (H.out _).mono ?_
  rintro e _ ⟨rfl, rfl⟩
  go_wp2
  go_ret
  exact ⟨rfl, B2.out⟩
/-- A block of two numbers. -/
structure TwoC (w : World) (b : Nat) (x y : Int) : Prop where
  c0 : w.cell? ⟨b, 0, none⟩ = some (.int .i64 x)
  c1 : w.cell? ⟨b, 1, none⟩ = some (.int .i64 y)
  f0 : w.frozen? ⟨b, 0, none⟩ = false
  f1 : w.frozen? ⟨b, 1, none⟩ = false
  lt : b < w.heap.size
theorem TwoC.of {w : World} {b : Nat} {x y : Int} {t : TypeId} (h : w.heap[b]? = some (.cells #[.int .i64 x, .int .i64 y] t (0, 0))) : TwoC w b x y := ⟨by rw [cell_of_block h]; rfl, by rw [cell_of_block h]; rfl, unfrozen_of_block h _, unfrozen_of_block h _, block_size h⟩
theorem TwoC.far {w w' : World} {b : Nat} {x y : Int} (h : TwoC w b x y) (hb : Below w.heap.size w w') : TwoC w' b x y := ⟨(hb.cell (p := ⟨b, 0, none⟩) h.lt).trans h.c0, (hb.cell (p := ⟨b, 1, none⟩) h.lt).trans h.c1, (hb.frozen (p := ⟨b, 0, none⟩) h.lt).trans h.f0, (hb.frozen (p := ⟨b, 1, none⟩) h.lt).trans h.f1, Nat.lt_of_lt_of_le h.lt hb.size⟩
theorem TwoC.set {w : World} {b : Nat} {x y u v : Int} (h : TwoC w b x y) : TwoC ((w.setCell ⟨b, 0, none⟩ (.int .i64 u)).setCell ⟨b, 1, none⟩ (.int .i64 v)) b u v := by
  obtain ⟨h0, h1, f0, f1, hl⟩ := h
  refine ⟨?_, ?_, ?_, ?_, by simpa using hl⟩
  · go_simp
  · go_simp
  · go_simp
  · go_simp
theorem TwoC.apart {w : World} {b d : Nat} {x y u v : Int} (h : TwoC w b x y) (hd : d ≠ b) : TwoC ((w.setCell ⟨d, 0, none⟩ (.int .i64 u)).setCell ⟨d, 1, none⟩ (.int .i64 v)) b x y := by
  obtain ⟨h0, h1, f0, f1, hl⟩ := h
  have hd' : ¬ b = d := fun e => hd e.symm
  refine ⟨?_, ?_, ?_, ?_, by simpa using hl⟩
  · go_simp
  · go_simp
  · go_simp
  · go_simp
/-- The first of the least ones among the elements up to k. -/
def mn (m : Nat → P2) : Nat → P2
  | 0 => m 0
  | k + 1 => if (m (k + 1)).2 < (mn m k).2 then m (k + 1) else mn m k
set_option maxRecDepth 100000 in
set_option maxHeartbeats 4000000 in
theorem minI {c : Nat} (A : Option Addr) (L : Nat) (m : Nat → P2) (w : World) (hL : L + 1 ≤ 1048576) (hp : SpAt w A (L + 1) m) :
    Calls Try.prog 81 #[.slice A (L + 1) c, .func (.func 82) #[] #[]] w fun e w' => e = .returned (.agg #[.int .i64 (mn m L).1, .int .i64 (mn m L).2]) ∧ Below w.heap.size w w' := by
  have HP := Lib.hid hp
  have HN := Lib.hid (show mn m 0 = m 0 ∧ ∀ k, mn m (k + 1) = if (m (k + 1)).2 < (mn m k).2 then m (k + 1) else mn m k from ⟨rfl, fun _ => rfl⟩)
  have HC := Lib.hid (fun a b c d W => compareI a b c d W)
  have hmx : Try.prog.follows .mixedOrders = true := by kernel_rfl
  generalize mn m = G at *
  obtain ⟨b, o, rfl, hb, c0, c1⟩ := hp 0 (by omega)
  simp only [Nat.zero_mul, Nat.add_zero] at c0 c1
  obtain ⟨⟨x0, y0⟩, hm0⟩ : ∃ p, m 0 = p := ⟨_, rfl⟩
  rw [hm0] at c0 c1
  have B1 := Lib.hid (below_alloc1 w (.cells #[.int .i64 0, .int .i64 0] 98))
  have B2 := Lib.hid (B1.out.alloc B1.out.size (.cells #[.int .i64 x0, .int .i64 y0] 98))
  have K1 := Lib.hid (heap_alloc_new (w.alloc (.cells #[.int .i64 0, .int .i64 0] 98)) (.cells #[.int .i64 x0, .int .i64 y0] 98))
  have K0 := Lib.hid ((Below.heap_alloc (w.alloc (.cells #[.int .i64 0, .int .i64 0] 98)) (.cells #[.int .i64 x0, .int .i64 y0] 98) w.heap.size (by simp)).trans (heap_alloc_new w (.cells #[.int .i64 0, .int .i64 0] 98)))
  have hcond : ¬ ((L : Int) + 1 < 1) := by omega
  have hpos : (0 : Int) < (L : Int) + 1 := by omega
  have hpn : 0 < L + 1 := by omega
  have hMw : IntKind.i64.wrap (L : Int) = (L : Int) := IntWalk.i64_in _ (by omega)
  go_enter Try.func81, Try.ntmps81
  go_wp2
  obtain ⟨W1, hW1⟩ : ∃ W1, (w.alloc (.cells #[.int .i64 0, .int .i64 0] 98)).alloc (.cells #[.int .i64 x0, .int .i64 y0] 98) = W1 := ⟨_, rfl⟩
  have hsz : (w.alloc (.cells #[.int .i64 0, .int .i64 0] 98)).heap.size = w.heap.size + 1 := by simp
  rw [hsz] at K1
  have hb0 : w.heap.size = w.heap.size := rfl
  generalize hZ : w.heap.size = Z at *
  rw [hW1] at B2 K1 K0 ⊢
  clear B1 hW1 hb0 c0 c1
  go_loopw [6] (fun i wr => ∃ (k : Nat) (x y : Int), k ≤ L ∧ i = .int .i64 ((k : Int) + 1) ∧ Hid (G k = (x, y)) ∧ TwoC wr (Z + 1) x y ∧ TwoC wr Z 0 0 ∧ Hid (Below Z w wr)) (fun i _ => L + 1 - (intOf i).toNat)
  case atStart => exact ⟨0, x0, y0, Nat.zero_le _, rfl, Lib.hid (by rw [HN.out.1, hm0]), .of K1.out, .of K0.out, B2⟩
  case round =>
    obtain ⟨k, x, y, hk, rfl, HG, hk1, hk0, HB⟩ := hrel
    have k1 := hk1.lt
    have cx := hk1.c0
    have cy := hk1.c1
    by_cases hlt : k < L
    · obtain ⟨b', o', e', hb', c0, c1⟩ := HP.out (k + 1) (by omega)
      cases e'
      rw [hZ] at hb'
      obtain ⟨⟨u, v⟩, hm⟩ : ∃ p, m (k + 1) = p := ⟨_, rfl⟩
      rw [hm] at c0 c1
      have hli : (k : Int) + 1 < (L : Int) + 1 := by omega
      have h0i : 0 ≤ (k : Int) + 1 := by omega
      have htn : ((k : Int) + 1).toNat = k + 1 := by omega
      have hln : k + 1 < L + 1 := by omega
      have c0' := (HB.out.cell (p := ⟨b, o + (k + 1) * 2, none⟩) hb').trans c0
      have c1' := (HB.out.cell (p := ⟨b, o + (k + 1) * 2 + 1, none⟩) hb').trans c1
      have hbr : b < wr.heap.size := by have := HB.out.size; omega
      have C0 := core.cell_kept (a := ⟨b, o + (k + 1) * 2, none⟩) hbr c0'
      have C1 := core.cell_kept (a := ⟨b, o + (k + 1) * 2 + 1, none⟩) hbr c1'
      have CX := core.cell_kept (a := ⟨Z + 1, 0, none⟩) k1 cx
      have CY := core.cell_kept (a := ⟨Z + 1, 1, none⟩) k1 cy
      have hgx := HN.out.2 k
      rw [HG.out, hm] at hgx
      simp only at hgx
      have hC := HC.out u v x y
      have hcv : decide (cmpV v y < 0) = decide (v < y) := by
        unfold cmpV
        by_cases h1 : v < y
        · rw [if_pos h1]; simp [h1]
        · rw [if_neg h1]; split <;> simp [h1]
      generalize cmpV v y = r at *
      have HCV := Lib.hid hcv
      clear hcv
      go_wp2
      refine wp_region_quiet_kept (by assumption) (by kernel_rfl) ?_
      repeat (first | go_big_quiet_step ((go_at_call 82; with_reducible exact Calls.kept_of (hC _))) | quiet_step ((go_at_call 82; with_reducible exact Calls.kept_of (hC _))))
      refine wpQuiet_nil ?_
      intro w4 hw'
      have hB : Below wr.heap.size wr w4 := by obtain ⟨⟨wk, hb0⟩, hw''⟩ := hw'; rw [hw'']; exact hb0
      clear hw' C0 C1 CX CY
      have hbx := hk1.far hB
      have hb0 := hk0.far hB
      have c0'' := (hB.cell (p := ⟨b, o + (k + 1) * 2, none⟩) hbr).trans c0'
      have c1'' := (hB.cell (p := ⟨b, o + (k + 1) * 2 + 1, none⟩) hbr).trans c1'
      have HB4 := Lib.hid (HB.out.trans (hB.mono (by rw [← hZ]; exact HB.out.size)))
      clear hB cx cy c0 c1 c0' c1' hk1 hk0 k1 HB hb' hC
      have hkw : IntKind.i64.wrap ((k : Int) + 1 + 1) = (k : Int) + 1 + 1 := IntWalk.i64_in _ (by omega)
      by_cases hvy : v < y
      · have HG2 := Lib.hid (show G (k + 1) = (u, v) by rw [hgx, if_pos hvy])
        have hr : r < 0 := by have := HCV.out; rw [decide_eq_true hvy] at this; simpa using this
        clear hgx hvy HCV
        have HX := Lib.hid (hbx.set (u := u) (v := v))
        have H0 := Lib.hid (hb0.apart (d := Z + 1) (u := u) (v := v) (by omega))
        have HB5 := Lib.hid ((HB4.out.setCell (p := ⟨Z + 1, 0, none⟩) (by simp) (.int .i64 u)).setCell (p := ⟨Z + 1, 1, none⟩) (by simp) (.int .i64 v))
        obtain ⟨x0', x1', xf0, xf1, xl⟩ := hbx
        clear hb0
        go_wp2
        go_roundw
        case rel => exact ⟨k + 1, u, v, by omega, by go_num, HG2, HX.out, H0.out, HB5⟩
        case measure => simp [intOf]; omega
      · have HG2 := Lib.hid (show G (k + 1) = (x, y) by rw [hgx, if_neg hvy])
        have hr : ¬ r < 0 := by have := HCV.out; rw [decide_eq_false hvy] at this; simpa using this
        clear hgx hvy HCV
        go_wp2
        go_roundw
        case rel => exact ⟨k + 1, x, y, by omega, by go_num, HG2, hbx, hb0, HB4⟩
        case measure => simp [intOf]; omega
    · obtain rfl : k = L := by omega
      have hnl : ¬ (k : Int) + 1 < (k : Int) + 1 := by omega
      have z0 := hk0.lt
      have HX := Lib.hid (hk0.set (u := x) (v := y))
      have HB5 := Lib.hid ((HB.out.setCell (p := ⟨Z, 0, none⟩) (by simp) (.int .i64 x)).setCell (p := ⟨Z, 1, none⟩) (by simp) (.int .i64 y))
      obtain ⟨x0', x1', xf0, xf1, xl⟩ := hk0
      clear hk1
      have HE := Lib.hid HG.out
      go_wp2
      rw [HG.out]
      obtain ⟨r0, r1, -, -, -⟩ := HX.out
      exact bodyPost_ret (v := .agg #[.int .i64 x, .int .i64 y]) (by simp [results, Try.results81, go_sem, r0, r1, x0', x1', xf0, xf1]) rfl ⟨rfl, by exact HB5.out⟩
end Go.Proofs.Ythpmckfjlbiiiaa.env
