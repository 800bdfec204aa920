/-
  Proved: both functions that raise the costs of hypotheses return the same, in memory of their own.
  Conditions: none.
-/
import Derived.Test.YtofgdgdmmlgmnaaHyK
namespace Go.Proofs.Ytofgdgdmmlgmnaa.wRaiseHyps
open Go.ChangeShapes Go.WideShapes Go.ChangeAt Go.RowKit Go.Joins
open Go.Proofs.Ytofgdgdmmlgmnaa.core Go.Proofs.Ytofgdgdmmlgmnaa.rown Go.Proofs.Ytofgdgdmmlgmnaa.stk Go.Proofs.Ytofgdgdmmlgmnaa.boxed Go.Proofs.Ytofgdgdmmlgmnaa.ft Go.Proofs.Ytofgdgdmmlgmnaa.lab Go.Proofs.Ytofgdgdmmlgmnaa.hyp
set_option linter.unusedVariables false
set_option linter.unusedSimpArgs false
/-- The hypotheses raised. -/
def up (f : Nat → Hy) (d : Int) (i : Nat) : Hy := ((f i).1, (f i).2 + d)
/-- The code. -/
noncomputable def raC (n : Nat) (f : Nat → Hy) (d : Int) : Int := @ite _ (hyB n f = true) (Classical.propDecidable _) (@ite _ ((0 ≤ d ∧ d ≤ 1000000) ∧ ∀ i, i < n → (f i).2 + d ≤ 1000000) (Classical.propDecidable _) 0 2) 1
noncomputable def raN (n : Nat) (f : Nat → Hy) (d : Int) : Nat := if raC n f d = 0 then n else 0
theorem ra_inv {n : Nat} {f : Nat → Hy} {d : Int} (h : hyB n f = false) : raC n f d = 1 ∧ raN n f d = 0 := by
  have h1 : raC n f d = 1 := by unfold raC; rw [@if_neg _ _ (by rw [h]; exact fun h => by cases h)]
  exact ⟨h1, by unfold raN; rw [h1]; rfl⟩
theorem ra_rng {n : Nat} {f : Nat → Hy} {d : Int} (h : hyB n f = true) (h2 : ¬ ((0 ≤ d ∧ d ≤ 1000000) ∧ ∀ i, i < n → (f i).2 + d ≤ 1000000)) : raC n f d = 2 ∧ raN n f d = 0 := by
  have h1 : raC n f d = 2 := by unfold raC; rw [@if_pos _ _ h, @if_neg _ _ h2]
  exact ⟨h1, by unfold raN; rw [h1]; rfl⟩
theorem ra_ok {n : Nat} {f : Nat → Hy} {d : Int} (h : hyB n f = true) (h2 : (0 ≤ d ∧ d ≤ 1000000) ∧ ∀ i, i < n → (f i).2 + d ≤ 1000000) : raC n f d = 0 ∧ raN n f d = n := by
  have h1 : raC n f d = 0 := by unfold raC; rw [@if_pos _ _ h, @if_pos _ _ h2]
  exact ⟨h1, by unfold raN; rw [h1]; rfl⟩
theorem no_N {n : Nat} {f : Nat → Hy} {d : Int} (h : hyB n f = false ∨ cB d = false) : raN n f d = 0 := by
  cases hv : hyB n f with
  | false => exact (ra_inv hv).2
  | true =>
    rcases h with h | h
    · rw [hv] at h; cases h
    · exact (ra_rng hv (fun hh => by rw [cB_iff.2 hh.1] at h; cases h)).2
theorem up_row (f : Nat → Hy) (d : Int) (k : Nat) : rws (hyR (up f d)) (k + 1) = rws (hyR (up f d)) k ++ [.string (f k).1, .int .i64 ((f k).2 + d)] := rfl
def Ra (w : World) (n : Nat) (f : Nat → Hy) (d : Int) (N : Nat) (code : Int) : Ending → World → Prop := fun e w' => ∃ v, e = .returned (.tuple #[v, .int .i64 code]) ∧ w'.ownsRow w.heap.size 40 2 v N (rws (hyR (up f d)) N) ∧ Below w.heap.size w w'
theorem ra_nil {w w' : World} {n : Nat} {f : Nat → Hy} {d : Int} {code : Int} (hb : Below w.heap.size w w') : Ra w n f d 0 code (.returned (.tuple #[.slice none 0 0, .int .i64 code])) w' := ⟨_, rfl, World.ownsRow_nil _ _ _ _, hb⟩
set_option maxRecDepth 100000 in
set_option maxHeartbeats 4000000 in
theorem spec_no {c : Nat} (A : Option Addr) (n : Nat) (f : Nat → Hy) (d : Int) (w : World) (hl : HyL n f) (hp : HyAt w A n f) (h0 : hyB n f = false ∨ cB d = false) :
    Calls Try.prog 31 #[.slice A n c, .int .i64 d] w fun e w' => e = .returned (.tuple #[.slice none 0 0, .int .i64 (raC n f d)]) ∧ Below w.heap.size w w' := by
  have HV := Lib.hid (hyOkS (c := c) A n f w hl hp)
  have HI := Lib.hid (fun W => inC d W)
  have hund : undef = Value.tuple #[] := rfl
  have hn := hl.hn
  clear hp hl
  cases hv : hyB n f with
  | false =>
    have HC := Lib.hid (ra_inv (d := d) hv)
    rw [hv] at HV
    clear hv h0 HI
    go_enter Try.func31, Try.ntmps31
    go_wp2_with fail
    refine HV.out.mono ?_
    rintro e w1 ⟨rfl, hb⟩
    have HB := Lib.hid hb
    clear hb HV
    go_wp2
    go_ret2
    exact ⟨by rw [HC.out.1]; rfl, HB.out⟩
  | true =>
    have hc : cB d = false := by
      rcases h0 with h | h
      · rw [hv] at h; cases h
      · exact h
    have HC := Lib.hid (ra_rng (d := d) hv (fun h => by rw [cB_iff.2 h.1] at hc; cases hc))
    rw [hv] at HV
    rw [hc] at HI
    clear hv h0 hc
    go_enter Try.func31, Try.ntmps31
    go_wp2_with fail
    refine HV.out.mono ?_
    rintro e w1 ⟨rfl, hb⟩
    have HB := Lib.hid hb
    clear hb HV
    go_wp2_with fail
    refine (HI.out _).mono ?_
    rintro e w2 ⟨rfl, hb2⟩
    have HB2 := Lib.hid (HB.out.trans (hb2.mono HB.out.size))
    clear hb2
    go_wp2
    go_ret2
    exact ⟨by rw [HC.out.1]; rfl, HB2.out⟩
set_option maxRecDepth 100000 in
set_option maxHeartbeats 4000000 in
theorem impl_no {c : Nat} (A : Option Addr) (n : Nat) (f : Nat → Hy) (d : Int) (w : World) (hl : HyL n f) (hp : HyAt w A n f) (h0 : hyB n f = false ∨ cB d = false) :
    Calls Try.prog 32 #[.slice A n c, .int .i64 d] w fun e w' => e = .returned (.tuple #[.slice none 0 0, .int .i64 (raC n f d)]) ∧ Below w.heap.size w w' := by
  have HV := Lib.hid (validHI (c := c) A n f w hl hp)
  have HI := Lib.hid (fun W => toB (costI d W))
  have hund : undef = Value.tuple #[] := rfl
  have hn := hl.hn
  clear hp hl
  cases hv : hyB n f with
  | false =>
    have HC := Lib.hid (ra_inv (d := d) hv)
    rw [hv] at HV
    clear hv h0 HI
    go_enter Try.func32, Try.ntmps32
    go_wp2_with fail
    refine HV.out.mono ?_
    rintro e w1 ⟨rfl, hb⟩
    have HB := Lib.hid hb
    clear hb HV
    go_wp2
    go_ret2
    exact ⟨by rw [HC.out.1]; rfl, HB.out⟩
  | true =>
    have hc : cB d = false := by
      rcases h0 with h | h
      · rw [hv] at h; cases h
      · exact h
    have HC := Lib.hid (ra_rng (d := d) hv (fun h => by rw [cB_iff.2 h.1] at hc; cases hc))
    rw [hv] at HV
    rw [hc] at HI
    clear hv h0 hc
    go_enter Try.func32, Try.ntmps32
    go_wp2_with fail
    refine HV.out.mono ?_
    rintro e w1 ⟨rfl, hb⟩
    have HB := Lib.hid hb
    clear hb HV
    go_wp2_with fail
    refine (HI.out _).mono ?_
    rintro e w2 ⟨rfl, hb2⟩
    have HB2 := Lib.hid (HB.out.trans (hb2.mono HB.out.size))
    clear hb2
    go_wp2
    go_ret2
    exact ⟨by rw [HC.out.1]; rfl, HB2.out⟩
abbrev SR (w0 : World) (b p q : Nat) (s : ByteArray) (c : Int) (W : World) : Prop := W.cell? ⟨b, p, none⟩ = some (.string s) ∧ W.cell? ⟨b, q, none⟩ = some (.int .i64 c) ∧ b < W.heap.size ∧ Below w0.heap.size w0 W
theorem SR_alloc {w0 W : World} {b p q : Nat} {s : ByteArray} {c : Int} (o : Obj) (h : SR w0 b p q s c W) : SR w0 b p q s c (W.alloc o) := by
  obtain ⟨h0, h1, hz, hg⟩ := h
  have hb := below_alloc1 W o
  exact ⟨(hb.cell (p := ⟨b, p, none⟩) hz).trans h0, (hb.cell (p := ⟨b, q, none⟩) hz).trans h1, Nat.lt_of_lt_of_le hz hb.size, hg.alloc hg.size o⟩
theorem SR_of {w0 W : World} {b p q : Nat} {s : ByteArray} {c : Int} (hb : b < w0.heap.size) (c0 : w0.cell? ⟨b, p, none⟩ = some (.string s)) (c1 : w0.cell? ⟨b, q, none⟩ = some (.int .i64 c)) (hB : Below w0.heap.size w0 W) : SR w0 b p q s c W :=
  ⟨(hB.cell (p := ⟨b, p, none⟩) hb).trans c0, (hB.cell (p := ⟨b, q, none⟩) hb).trans c1, Nat.lt_of_lt_of_le hb hB.size, hB⟩
theorem mk0 (w : World) (n : Nat) (hn : n ≤ 1000) : ∃ cur : Array Value, cur.size = n * 2 ∧
    (Instr.makeSlice 31 (.int .i64 0) (.int .i64 (n : Int))).run Try.prog w = .ok (.slice (some ⟨w.heap.size, 0, none⟩) 0 n) (w.alloc (.cells cur 40)) := by
  obtain ⟨i0, hi, hz0, hz1, hz2⟩ := rown.info_get infoH
  have hr := run_make (P := Try.prog) w 31 40 i0 _ Try.underlying31 hi hz0 .i64 .i64 0 n (by omega) (by omega) (by rw [hz2]; omega) (by omega)
  refine ⟨_, ?_, hr⟩
  rw [hz1]
  simp [madeCells]
theorem row00 (w : World) (n : Nat) (hn : n ≤ 1000) (cur : Array Value) (hc : cur.size = n * 2) (f : Nat → Hy) : (w.alloc (.cells cur 40)).ownsRow w.heap.size 40 2 (.slice (some ⟨w.heap.size, 0, none⟩) 0 n) 0 (rws (hyR f) 0) :=
  ⟨by simp [rws], .inr ⟨w.heap.size, n, _, rfl, Nat.le_refl _, heap_alloc_new _ _, Nat.zero_le _, by unfold maxLen; omega, hc, by simp [rws]⟩⟩
set_option maxRecDepth 100000 in
set_option maxHeartbeats 8000000 in
theorem spec_yes {c : Nat} (A : Option Addr) (n : Nat) (f : Nat → Hy) (d : Int) (w : World) (hl : HyL n f) (hp : HyAt w A n f) (hv : hyB n f = true) (hd : cB d = true) :
    Calls Try.prog 31 #[.slice A n c, .int .i64 d] w (Ra w n f d (raN n f d) (raC n f d)) := by
  obtain ⟨i0, hi0, hz0, hz1, hz2⟩ := rown.info_get infoH
  have HV := Lib.hid (hyOkS (c := c) A n f w hl hp)
  have HI := Lib.hid (fun W => inC d W)
  have hn := (hy_iff.1 hv).1
  have HO := Lib.hid (hy_iff.1 hv).2
  have HBAD := Lib.hid (fun k (hk : k < n) (h : ¬ (f k).2 + d ≤ 1000000) => ra_rng (d := d) hv (fun hh => h (hh.2 k hk)))
  have HGOOD := Lib.hid (fun (h : ∀ i, i < n → (f i).2 + d ≤ 1000000) => ra_ok (d := d) hv ⟨cB_iff.1 hd, h⟩)
  have hdr := cB_iff.1 hd
  have HP := Lib.hid hp
  rw [hv] at HV
  rw [hd] at HI
  clear hv hp hl hd
  go_enter Try.func31, Try.ntmps31
  go_wp2_with fail
  refine HV.out.mono ?_
  rintro e w1 ⟨rfl, hb⟩
  have HB0 := Lib.hid hb
  clear hb HV
  go_wp2_with fail
  refine (HI.out _).mono ?_
  rintro e w2 ⟨rfl, hb2⟩
  have HB1 := Lib.hid (HB0.out.trans (hb2.mono HB0.out.size))
  clear hb2 HB0 HI
  go_wp2
  go_loopw [6, 7] (fun out i w' => ∃ (k g q : Nat), k ≤ n ∧ i = .int .i64 (k : Int) ∧ out = .slice (some ⟨g, 0, none⟩) k q ∧ Hid (∀ j, j < k → (f j).2 + d ≤ 1000000) ∧ Hid (w'.ownsRow w.heap.size 40 2 (.slice (some ⟨g, 0, none⟩) k q) k (rws (hyR (up f d)) k)) ∧ Hid (Below w.heap.size w w')) (fun _ i _ => n - (intOf i).toNat)
  case atStart => exact ⟨0, _, _, Nat.zero_le _, rfl, rfl, Lib.hid (fun j hj => absurd hj (by omega)), Lib.hid (row_low (rown.empty_row w2 40 2) HB1.out.size), Lib.hid (HB1.out.alloc HB1.out.size _)⟩
  case round =>
    obtain ⟨k, g, q, hk, rfl, rfl, HE, HR, HB⟩ := hrel
    by_cases hlt : k < n
    · obtain ⟨b1, o1, rfl, hb0, q0, q1⟩ := HP.out k hlt
      have c0 := (HB.out.cell (p := ⟨b1, o1 + k * 2, none⟩) hb0).trans q0
      have c1 := (HB.out.cell (p := ⟨b1, o1 + k * 2 + 1, none⟩) hb0).trans q1
      have hb1 := Nat.lt_of_lt_of_le hb0 HB.out.size
      have HS3 := Lib.hid (fun (W : World) (hB : Below w.heap.size w W) => SR_of hb0 q0 q1 hB)
      clear q0 q1
      have hli : (k : Int) < (n : Int) := by omega
      have hck := (HO.out k hlt).1.2
      have HRW := Lib.hid (up_row f d k)
      have HBK := Lib.hid (fun h => HBAD.out k hlt h)
      have HNX := Lib.hid (fun (h : (f k).2 + d ≤ 1000000) => hy_next (P := fun j => (f j).2 + d ≤ 1000000) HE.out h)
      obtain ⟨x, hx⟩ : ∃ x, f k = x := ⟨_, rfl⟩
      obtain ⟨xs, xc⟩ := x
      rw [hx] at c0 c1 hck HRW HBK HNX HS3
      dsimp only at c0 c1 hck HRW HBK HNX HS3
      obtain ⟨z, hz⟩ : ∃ z, xc + d = z := ⟨_, rfl⟩
      have hw1 : IntKind.i64.wrap (xc + d) = z := by rw [hz]; simp [IntKind.wrap, IntKind.bits, IntKind.signed]; omega
      have hw2 : wrap64 (xc + d) = z := by rw [hz]; unfold wrap64; omega
      rw [hz] at HRW HBK HNX
      clear hx HE hck hdr hz
      by_cases hzl : z ≤ 1000000
      · have hz1' : ¬ (1000000 : Int) < z := by omega
        have dz : decide ((1000000 : Int) < z) = false := decide_eq_false hz1'
        have HE2 := Lib.hid (HNX.out hzl)
        have Z3 := Lib.hid (show k + 1 ≤ maxLen by simp only [maxLen]; omega)
        have Z4 := Lib.hid (show (k + 1) * 24 ≤ 140737488355328 by omega)
        have hz := HB.out.size
        clear HNX HBK hzl
        have hkd := HS3.out _ HB.out.drew
        have HOd := Lib.hid (rown.ownsRow_kept HR.out (Below.refl wr.heap.size wr).drew)
        clear HR
        go_wp2
        go_region_held3 (fun W => W.cell? ⟨b1, o1 + k * 2, none⟩ = some (.string xs) ∧ W.cell? ⟨b1, o1 + k * 2 + 1, none⟩ = some (.int .i64 xc) ∧ b1 < W.heap.size ∧ Below w.heap.size w W) (first | assumption | exact hkd | exact SR_alloc _ hkd | exact HS3.out _ HB5.out | go_keep)
          (first
            | (refine step_append_lies _ (by rfl) (.tmp 29) (.tmp 43) _ (by rfl) w.heap.size 40 i0 _ 2 24 Try.underlying31 hi0 hz0 hz1 hz2 rfl (by decide) (.slice (some ⟨g, 0, none⟩) k q) k _ (by rfl) (rown.ownsRow_kept HOd.out (below_alloc1 _ _)) ⟨wr.heap.size, 0, none⟩ 1 1 [.string xs, .int .i64 z] (by rfl) rfl (two_new rfl) (by simp [Value.oneCell']) (by decide) Z3.out Z4.out (Nat.le_trans HB.out.size (by simp)) _ rfl ?_; intro g3 cap3 w5 hown hgr hat hlt3; have HO5 := Lib.hid hown; have HB5 := Lib.hid (HB.out.drew.trans (rown.under HOd.out HB.out.size hgr)); clear hown hgr hat))
        all_goals
          clear hkd
          go_wp2
          go_roundw
          case rel => exact ⟨k + 1, g3, cap3, by omega, by go_num, rfl, HE2, Lib.hid (by rw [HRW.out]; exact HO5.out), HB5⟩
          case measure => simp [intOf]; omega
      · have hz1' : (1000000 : Int) < z := by omega
        have HF := Lib.hid (HBK.out (by omega))
        clear HNX HBK hzl
        go_wp2
        go_ret2
        rw [HF.out.1, HF.out.2]
        exact ra_nil HB.out
    · obtain rfl : k = n := by omega
      have HF := Lib.hid (HGOOD.out HE.out)
      go_wp2
      go_ret2
      rw [HF.out.1, HF.out.2]
      exact ⟨_, rfl, HR.out, HB.out⟩
set_option maxRecDepth 100000 in
set_option maxHeartbeats 8000000 in
theorem impl_yes {c : Nat} (A : Option Addr) (n : Nat) (f : Nat → Hy) (d : Int) (w : World) (hl : HyL n f) (hp : HyAt w A n f) (hv : hyB n f = true) (hd : cB d = true) :
    Calls Try.prog 32 #[.slice A n c, .int .i64 d] w (Ra w n f d (raN n f d) (raC n f d)) := by
  obtain ⟨i0, hi0, hz0, hz1, hz2⟩ := rown.info_get infoH
  have HV := Lib.hid (validHI (c := c) A n f w hl hp)
  have HI := Lib.hid (fun W => toB (costI d W))
  have hn := (hy_iff.1 hv).1
  have HO := Lib.hid (hy_iff.1 hv).2
  have HBAD := Lib.hid (fun k (hk : k < n) (h : ¬ (f k).2 + d ≤ 1000000) => ra_rng (d := d) hv (fun hh => h (hh.2 k hk)))
  have HGOOD := Lib.hid (fun (h : ∀ i, i < n → (f i).2 + d ≤ 1000000) => ra_ok (d := d) hv ⟨cB_iff.1 hd, h⟩)
  have hdr := cB_iff.1 hd
  have HP := Lib.hid hp
  rw [hv] at HV
  clear hv hp hl
  go_enter Try.func32, Try.ntmps32
  go_wp2_with fail
  refine HV.out.mono ?_
  rintro e w1 ⟨rfl, hb⟩
  have HB0 := Lib.hid hb
  have HI1 := Lib.hid (HI.out w1)
  clear hb HV
  rw [hd] at HI1
  go_wp2_with fail
  refine HI1.out.mono ?_
  rintro e w2 ⟨rfl, hb2⟩
  have HB1 := Lib.hid (HB0.out.trans (hb2.mono HB0.out.size))
  clear hb2 HB0
  clear hd HI1
  obtain ⟨cur, hcs, hmk⟩ := mk0 w2 n (by omega)
  have R0 := Lib.hid (row_low (b' := w.heap.size) (row00 w2 n (by omega) cur hcs (up f d)) HB1.out.size)
  have B0 := Lib.hid (HB1.out.alloc HB1.out.size (.cells cur 40))
  clear hcs
  go_wp2
  clear hmk
  go_loopw [6, 20] (fun out i w' => ∃ (k g q : Nat), k ≤ n ∧ i = .int .i64 (k : Int) ∧ out = .slice (some ⟨g, 0, none⟩) k q ∧ Hid (∀ j, j < k → (f j).2 + d ≤ 1000000) ∧ Hid (w'.ownsRow w.heap.size 40 2 (.slice (some ⟨g, 0, none⟩) k q) k (rws (hyR (up f d)) k)) ∧ Hid (Below w.heap.size w w')) (fun _ i _ => n - (intOf i).toNat)
  case atStart => exact ⟨0, _, _, Nat.zero_le _, rfl, rfl, Lib.hid (fun j hj => absurd hj (by omega)), R0, B0⟩
  case round =>
    obtain ⟨k, g, q, hk, rfl, rfl, HE, HR, HB⟩ := hrel
    by_cases hlt : k < n
    · obtain ⟨b1, o1, rfl, hb1, c0, c1⟩ := (HP.out.kept HB.out) k hlt
      have hli : (k : Int) < (n : Int) := by omega
      have hck := (HO.out k hlt).1.2
      have HRW := Lib.hid (up_row f d k)
      have HBK := Lib.hid (fun h => HBAD.out k hlt h)
      have HNX := Lib.hid (fun (h : (f k).2 + d ≤ 1000000) => hy_next (P := fun j => (f j).2 + d ≤ 1000000) HE.out h)
      obtain ⟨x, hx⟩ : ∃ x, f k = x := ⟨_, rfl⟩
      obtain ⟨xs, xc⟩ := x
      rw [hx] at c0 c1 hck HRW HBK HNX
      dsimp only at c0 c1 hck HRW HBK HNX
      obtain ⟨z, hz⟩ : ∃ z, xc + d = z := ⟨_, rfl⟩
      have hw1 : IntKind.i64.wrap (xc + d) = z := by rw [hz]; simp [IntKind.wrap, IntKind.bits, IntKind.signed]; omega
      have hw2 : wrap64 (xc + d) = z := by rw [hz]; unfold wrap64; omega
      rw [hz] at HRW HBK HNX
      have HCZ := Lib.hid (show cB z = decide (z ≤ 1000000) by unfold cB; rw [decide_eq_true (show 0 ≤ z by omega)]; rfl)
      have HI := Lib.hid (fun W => costI z W)
      rw [HCZ.out] at HI
      clear hx HE hck hdr hz HCZ
      have HOA := Lib.hid (rown.ownsRow_kept HR.out (below_alloc1 wr (.cells #[.string xs, .int .i64 z] 40)))
      have HBA := Lib.hid (HB.out.alloc HB.out.size (.cells #[.string xs, .int .i64 z] 40))
      by_cases hzl : z ≤ 1000000
      · rw [decide_eq_true hzl] at HI
        have HE2 := Lib.hid (HNX.out hzl)
        have Z3 := Lib.hid (show k + 1 ≤ maxLen by simp only [maxLen]; omega)
        have Z4 := Lib.hid (show (k + 1) * 24 ≤ 140737488355328 by omega)
        clear HNX HBK hzl HR
        go_wp2_with fail
        refine (HI.out _).mono ?_
        rintro e _ ⟨rfl, rfl⟩
        have hzA : w.heap.size ≤ (wr.alloc (.cells #[.string xs, .int .i64 z] 40)).heap.size := HBA.out.size
        obtain ⟨p0, p1⟩ := (show (wr.alloc (.cells #[.string xs, .int .i64 z] 40)).cell? ⟨wr.heap.size, 0, none⟩ = some (.string xs) ∧ (wr.alloc (.cells #[.string xs, .int .i64 z] 40)).cell? ⟨wr.heap.size, 1, none⟩ = some (.int .i64 z) from ⟨pair0 rfl, pair1 rfl⟩)
        obtain ⟨W3, hW3⟩ : ∃ W3, wr.alloc (.cells #[.string xs, .int .i64 z] 40) = W3 := ⟨_, rfl⟩
        rw [hW3] at HOA HBA hzA p0 p1 ⊢
        clear hW3
        go_wp2_with (first
          | (at_builtin
             go_loud (refine wpList_append_lies (W3.alloc (.cells #[.string xs, .int .i64 z] 40)) rfl _ _ 31 rfl w.heap.size 40 i0 _ 2 24 Try.underlying31 hi0 hz0 hz1 hz2 rfl (by decide) (.slice (some ⟨g, 0, none⟩) k q) k _ rfl (rown.ownsRow_kept HOA.out (below_alloc1 _ _)) ⟨W3.heap.size, 0, none⟩ 1 1 [.string xs, .int .i64 z] rfl rfl (two_new rfl) (by simp [Value.oneCell']) (by decide) Z3.out Z4.out (Nat.le_trans hzA (by simp)) _ rfl ?_)
             intro g3 cap3 w5 hown hgr hat hlt3
             have HO5 := Lib.hid hown
             have HB5 := Lib.hid (HBA.out.trans (rown.under HOA.out hzA hgr))
             clear hown hgr hat))
        clear p0 p1 hzA
        go_wp2
        go_roundw
        case rel => exact ⟨k + 1, g3, cap3, by omega, by go_num, rfl, HE2, Lib.hid (by rw [HRW.out]; exact HO5.out), HB5⟩
        case measure => simp [intOf]; omega
      · rw [decide_eq_false hzl] at HI
        have HF := Lib.hid (HBK.out (by omega))
        clear HNX HBK hzl HR
        go_wp2_with fail
        refine (HI.out _).mono ?_
        rintro e _ ⟨rfl, rfl⟩
        go_wp2
        go_ret2
        rw [HF.out.1, HF.out.2]
        exact ra_nil HBA.out
    · obtain rfl : k = n := by omega
      have HF := Lib.hid (HGOOD.out HE.out)
      go_wp2
      go_ret2
      rw [HF.out.1, HF.out.2]
      exact ⟨_, rfl, HR.out, HB.out⟩
theorem meat (vs0 : Nat → Value) (g0 : Nat → Dat) (a1 : Int) (ht0 : tyrHypS g0) (hi1 : inI64 a1) :
    costRec 1 g0 ≤ 1048576 → ∃ (R : Nat → Dat) (r1 : Int), tyrHypS R ∧ cntRec 1 R ≤ 100000000000 ∧ (∀ (W : World) (us0 : Nat → Value), ReadsRec W 1 us0 g0 → (∃ (A : Option Addr) (n c : Nat), us0 0 = .slice A n c ∧ n ≤ c) → Calls Try.prog 31 #[us0 0, .int .i64 a1] W fun e W' => ∃ xs : Nat → Value, e = .returned (.tuple #[xs 0, .int .i64 r1]) ∧ OwnRec W' 1 xs R (iv W.heap.size W'.heap.size) ∧ Below W.heap.size W W') ∧ (∀ (W : World) (us0 : Nat → Value), ReadsRec W 1 us0 g0 → (∃ (A : Option Addr) (n c : Nat), us0 0 = .slice A n c ∧ n ≤ c) → Calls Try.prog 32 #[us0 0, .int .i64 a1] W fun e W' => ∃ xs : Nat → Value, e = .returned (.tuple #[xs 0, .int .i64 r1]) ∧ OwnRec W' 1 xs R (iv W.heap.size W'.heap.size) ∧ Below W.heap.size W W') := by
  intro hq
  obtain ⟨N, hN⟩ : ∃ N, raN (hyN g0) (hyF g0) a1 = N := ⟨_, rfl⟩
  obtain ⟨C, hC⟩ : ∃ C, raC (hyN g0) (hyF g0) a1 = C := ⟨_, rfl⟩
  have hNn : N = 0 ∨ (N = hyN g0 ∧ hyN g0 ≤ 8 ∧ ∀ i, i < hyN g0 → ((hyF g0 i).1.size ≤ maxLen ∧ 0 ≤ (hyF g0 i).2 + a1 ∧ (hyF g0 i).2 + a1 ≤ 1000000)) := by
    by_cases h0 : raC (hyN g0) (hyF g0) a1 = 0
    · right
      have hv : hyB (hyN g0) (hyF g0) = true := by
        cases hv : hyB (hyN g0) (hyF g0) with
        | true => rfl
        | false => rw [(ra_inv hv).1] at h0; cases h0
      by_cases hr : (0 ≤ a1 ∧ a1 ≤ 1000000) ∧ ∀ i, i < hyN g0 → (hyF g0 i).2 + a1 ≤ 1000000
      · refine ⟨by rw [← hN, (ra_ok hv hr).2], (hy_iff.1 hv).1, fun i hi => ?_⟩
        have h2 := ((hy_iff.1 hv).2 i hi).1
        have h3 := labB_size h2.1
        exact ⟨by unfold maxLen; omega, by have := hr.1; omega, hr.2 i hi⟩
      · rw [(ra_rng hv hr).1] at h0; cases h0
    · left
      rw [← hN]
      unfold raN
      rw [if_neg h0]
  have hs : ∀ i, i < N → (up (hyF g0) a1 i).1.size ≤ maxLen := fun i hi => by
    rcases hNn with h | ⟨rfl, -, h⟩
    · omega
    · exact (h i hi).1
  have hc : ∀ i, i < N → inI64 (up (hyF g0) a1 i).2 := fun i hi => by
    rcases hNn with h | ⟨rfl, -, h⟩
    · omega
    · have := (h i hi).2
      show inI64 ((hyF g0 i).2 + a1)
      unfold inI64
      omega
  have key : ∀ (K : FuncId) (W : World) (v : Value), Calls Try.prog K #[v, .int .i64 a1] W (Ra W (hyN g0) (hyF g0) a1 N C) → Calls Try.prog K #[v, .int .i64 a1] W fun e W' => ∃ xs : Nat → Value, e = .returned (.tuple #[xs 0, .int .i64 C]) ∧ OwnRec W' 1 xs (datH N (up (hyF g0) a1)) (iv W.heap.size W'.heap.size) ∧ Below W.heap.size W W' :=
    fun K W v h => finH (T := fun v => .tuple #[v, .int .i64 C]) hs hc h
  refine ⟨datH N (up (hyF g0) a1), C, datH_ty _ _, Nat.le_trans (datH_cnt _ _) (by rcases hNn with h | ⟨h, h8, -⟩ <;> omega), fun W us h _ => ?_, fun W us h _ => ?_⟩
  · obtain ⟨A, c, e, -, hl, hp⟩ := reads_hy h ht0 hq
    rw [e]
    refine key _ _ _ ?_
    by_cases h0 : hyB (hyN g0) (hyF g0) = false ∨ cB a1 = false
    · have h1 : raN (hyN g0) (hyF g0) a1 = 0 := no_N h0
      obtain rfl : 0 = N := by rw [← hN, h1]
      rw [← hC]
      exact (spec_no A _ _ _ W hl hp h0).mono fun e w' ⟨he, hb⟩ => by rw [he]; exact ra_nil hb
    · rw [← hN, ← hC]
      exact spec_yes A _ _ _ W hl hp (by cases hh : hyB (hyN g0) (hyF g0) with | true => rfl | false => exact absurd (.inl hh) h0) (by cases hh : cB a1 with | true => rfl | false => exact absurd (.inr hh) h0)
  · obtain ⟨A, c, e, -, hl, hp⟩ := reads_hy h ht0 hq
    rw [e]
    refine key _ _ _ ?_
    by_cases h0 : hyB (hyN g0) (hyF g0) = false ∨ cB a1 = false
    · have h1 : raN (hyN g0) (hyF g0) a1 = 0 := no_N h0
      obtain rfl : 0 = N := by rw [← hN, h1]
      rw [← hC]
      exact (impl_no A _ _ _ W hl hp h0).mono fun e w' ⟨he, hb⟩ => by rw [he]; exact ra_nil hb
    · rw [← hN, ← hC]
      exact impl_yes A _ _ _ W hl hp (by cases hh : hyB (hyN g0) (hyF g0) with | true => rfl | false => exact absurd (.inl hh) h0) (by cases hh : cB a1 with | true => rfl | false => exact absurd (.inr hh) h0)
end Go.Proofs.Ytofgdgdmmlgmnaa.wRaiseHyps
