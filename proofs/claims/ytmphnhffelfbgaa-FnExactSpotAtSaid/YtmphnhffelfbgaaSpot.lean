/-
  Proved: where the place at a part of a stroke's length lies (plain lemmas), and what the document's function on it returns.
  Conditions: the points are in their range, and no more than 60; the part is one of the parts.
-/
import Derived.Test.YtmphnhffelfbgaaArcs
import Derived.Test.YtmphnhffelfbgaaNear
import Derived.Test.YtmphnhffelfbgaaBoxed
import Derived.BigQuiet
import Derived.StillTailTactics
namespace Go.Proofs.Ytmphnhffelfbgaa.spot
open Go.ChangeShapes Go.WideShapes Go.ChangeAt Go.RowKit Go.Joins
open Go.Proofs.Ytmphnhffelfbgaa.core Go.Proofs.Ytmphnhffelfbgaa.stk Go.Proofs.Ytmphnhffelfbgaa.seg Go.Proofs.Ytmphnhffelfbgaa.lenS Go.Proofs.Ytmphnhffelfbgaa.rown Go.Proofs.Ytmphnhffelfbgaa.boxed Go.Proofs.Ytmphnhffelfbgaa.near Go.Proofs.Ytmphnhffelfbgaa.arcs
set_option linter.unusedVariables false
set_option linter.unusedSimpArgs false
theorem lens_mono (pts : Nat → P3) {i j : Nat} (h : i ≤ j) : lens pts i ≤ lens pts j := sumTo_mono _ h
theorem lens_zero (pts : Nat → P3) : lens pts 0 = 0 := rfl
/-- The place's length is reached at the point i. -/
def Hit (a : Nat → Nat) (want parts : Int) (i : Nat) : Prop := 1 ≤ a i ∧ want ≤ (a i : Int) * parts
/-- The first point at which it is reached; n if there is none. -/
def IsE (a : Nat → Nat) (want parts : Int) (n e : Nat) : Prop := e ≤ n ∧ (∀ i, i < e → ¬ Hit a want parts i) ∧ ∀ i, e ≤ i → i < n → Hit a want parts i
theorem hit_mono {pts : Nat → P3} {want parts : Int} (hp : 0 < parts) {i j : Nat} (h : i ≤ j) (hi : Hit (lens pts) want parts i) : Hit (lens pts) want parts j := by
  have hm := lens_mono pts h
  refine ⟨by have := hi.1; omega, Int.le_trans hi.2 ?_⟩
  exact Int.mul_le_mul_of_nonneg_right (by omega) (by omega)
theorem isE_ex {pts : Nat → P3} {want parts : Int} (hp : 0 < parts) : ∀ n, ∃ e, IsE (lens pts) want parts n e
  | 0 => ⟨0, Nat.le_refl _, fun i h => absurd h (by omega), fun i _ h => absurd h (by omega)⟩
  | n + 1 => by
    obtain ⟨e, h1, h2, h3⟩ := isE_ex (pts := pts) (want := want) hp n
    rcases Nat.lt_or_ge e n with h | h
    · refine ⟨e, by omega, h2, fun i hi hn => ?_⟩
      rcases Nat.lt_or_ge i n with h' | h'
      · exact h3 i hi h'
      · exact hit_mono hp (show n - 1 ≤ i by omega) (h3 (n - 1) (by omega) (by omega))
    · obtain rfl : e = n := by omega
      by_cases hh : Hit (lens pts) want parts e
      · exact ⟨e, by omega, h2, fun i hi hn => (show i = e by omega) ▸ hh⟩
      · exact ⟨e + 1, by omega, fun i hi => by
          rcases Nat.lt_or_ge i e with h' | h'
          · exact h2 i h'
          · obtain rfl : i = e := by omega
            exact hh, fun i hi hn => by omega⟩
theorem e_pos {pts : Nat → P3} {want parts : Int} {n e : Nat} (h1 : 1 ≤ n) (h : IsE (lens pts) want parts n e) : 1 ≤ e := by
  rcases Nat.eq_zero_or_pos e with h0 | h0
  · subst h0
    have := (h.2.2 0 (by omega) (by omega)).1
    rw [lens_zero] at this
    omega
  · exact h0
def wantOf (pts : Nat → P3) (n : Nat) (part : Int) : Int := (lens pts (n - 1) : Int) * part
def restOf (pts : Nat → P3) (n e : Nat) (part parts : Int) : Int := wantOf pts n part - (lens pts (e - 1) : Int) * parts
def allOf (pts : Nat → P3) (e : Nat) (parts : Int) : Int := ((lens pts e : Int) - (lens pts (e - 1) : Int)) * parts
/-- The place. -/
def spX (pts : Nat → P3) (n e : Nat) (part parts : Int) : Int := if e = n then (pts 0).1 else (pts (e - 1)).1 + nr (((pts e).1 - (pts (e - 1)).1) * restOf pts n e part parts) (allOf pts e parts)
def spY (pts : Nat → P3) (n e : Nat) (part parts : Int) : Int := if e = n then (pts 0).2.1 else (pts (e - 1)).2.1 + nr (((pts e).2.1 - (pts (e - 1)).2.1) * restOf pts n e part parts) (allOf pts e parts)
/-- A product of a bounded number and a bounded factor. -/
theorem mul_bd {x y B C : Int} (hx : 0 ≤ x) (hx2 : x ≤ B) (hy : 0 ≤ y) (hy2 : y ≤ C) : 0 ≤ x * y ∧ x * y ≤ B * C := ⟨Int.mul_nonneg hx hy, Int.mul_le_mul hx2 hy2 hy (by omega)⟩
theorem mul_bd2 {x y B C : Int} (hx : -B ≤ x) (hx2 : x ≤ B) (hy : 0 ≤ y) (hy2 : y ≤ C) : -(B * C) ≤ x * y ∧ x * y ≤ B * C := by
  have h0 : 0 ≤ B := by omega
  rcases Int.le_total 0 x with h | h
  · have := mul_bd h hx2 hy hy2
    omega
  · have := mul_bd (x := -x) (y := y) (B := B) (C := C) (by omega) (by omega) hy hy2
    rw [Int.neg_mul] at this
    omega
theorem lens_bd {pts : Nat → P3} {n : Nat} (h60 : n ≤ 60) (hr : ∀ i, i < n → Rg (pts i)) {i : Nat} (hi : i < n) : (lens pts i : Int) ≤ 5469300 := by
  have := lens_le hr i (by omega)
  have h2 : i * 92700 ≤ 59 * 92700 := Nat.mul_le_mul_right _ (by omega)
  omega
theorem prod_bd {a parts : Int} (h0 : 0 ≤ a) (h1 : a ≤ 5469300) (hp : 0 ≤ parts) (hp2 : parts ≤ 1000) : 0 ≤ a * parts ∧ a * parts ≤ 5469300000 := by
  have := mul_bd h0 h1 hp hp2
  omega
theorem specSpot (x y t : Int) (w : World) : Calls Try.prog 49 #[pt x y t] w fun e w' => e = .returned (.agg #[.int .i64 x, .int .i64 y]) ∧ Below w.heap.size w w' := by
  go_enter Try.func49, Try.ntmps49
  go_wp2
  exact bodyPost_ret (v := .agg #[.int .i64 x, .int .i64 y]) (by simp [results, Try.results49, go_sem]) rfl ⟨rfl, below_alloc2 _ _ _⟩
theorem implSpot (x y t : Int) (w : World) : Calls Try.prog 52 #[pt x y t] w fun e w' => e = .returned (.agg #[.int .i64 x, .int .i64 y]) ∧ Below w.heap.size w w' := by
  go_enter Try.func52, Try.ntmps52
  go_wp2
  exact bodyPost_ret (v := .agg #[.int .i64 x, .int .i64 y]) (by simp [results, Try.results52, go_sem]) rfl ⟨rfl, below_alloc2 _ _ _⟩
set_option maxRecDepth 100000 in
set_option maxHeartbeats 4000000 in
theorem specAt {c o d g : Nat} (A : Option Addr) (b n e : Nat) (pts : Nat → P3) (part parts : Int) (w : World) (h1 : 1 ≤ n) (h60 : n ≤ 60) (hr : ∀ i, i < n → Rg (pts i)) (hq : 1 ≤ parts ∧ parts ≤ 1000) (hpa : 0 ≤ part ∧ part ≤ parts) (hE : IsE (lens pts) (wantOf pts n part) parts n e)
    (hbz : b < w.heap.size) (hs : w.cell? ⟨b, o, none⟩ = some (.slice A n c)) (hp : PtsAt w A n pts) (hg : g < w.heap.size) (ha : ∀ i, i < n → w.cell? ⟨g, i, none⟩ = some (.int .i64 (lens pts i : Nat))) :
    Calls Try.prog 62 #[.pointer (some ⟨b, o, none⟩), .slice (some ⟨g, 0, none⟩) n d, .int .i64 part, .int .i64 parts] w fun e' w' => e' = .returned (.agg #[.int .i64 (spX pts n e part parts), .int .i64 (spY pts n e part parts)]) ∧ Below w.heap.size w w' := by
  obtain ⟨N, rfl⟩ : ∃ N, n = N + 1 := ⟨n - 1, by omega⟩
  have hepos := e_pos h1 hE
  have HR := Lib.hid hr
  have HP := Lib.hid hp
  have HS := Lib.hid hs
  have HA := Lib.hid ha
  have HLB := Lib.hid (fun i (hi : i < N + 1) => lens_bd h60 hr hi)
  have HLO := Lib.hid hE.2.1
  have HHI := Lib.hid hE.2.2
  have hen := hE.1
  have HEX := Lib.hid (show spX pts (N + 1) e part parts = _ from rfl)
  have HEY := Lib.hid (show spY pts (N + 1) e part parts = _ from rfl)
  have B0 := Lib.hid (below_alloc1 w (.cells #[.int .i64 0, .int .i64 0] 46))
  have K0 := Lib.hid (heap_alloc_new w (.cells #[.int .i64 0, .int .i64 0] 46))
  have aN := HA.out N (by omega)
  have hLN := HLB.out N (by omega)
  have hwb := prod_bd (a := (lens pts N : Int)) (parts := part) (by omega) hLN hpa.1 (by omega)
  have HW := Lib.hid (show wantOf pts (N + 1) part = (lens pts N : Int) * part from rfl)
  obtain ⟨want, hw⟩ : ∃ x, wantOf pts (N + 1) part = x := ⟨_, rfl⟩
  rw [hw] at HLO HHI
  have hw2 : (lens pts N : Int) * part = want := by rw [← HW.out, hw]
  rw [hw2] at hwb
  have E0 : IntKind.i64.wrap ((lens pts N : Int) * part) = want := by rw [hw2]; exact IntWalk.i64_in _ (by omega)
  have HWN := Lib.hid hw
  have HMO := Lib.hid (fun i j (h : i ≤ j) => lens_mono pts h)
  obtain ⟨la, hla⟩ : ∃ f : Nat → Int, f = fun i => (lens pts i : Int) := ⟨_, rfl⟩
  have HLA := Lib.hid (show ∀ i, (lens pts i : Int) = la i from fun i => by rw [hla])
  have HRG := Lib.hid hr
  have aN' : w.cell? ⟨g, N, none⟩ = some (.int .i64 (la N)) := by rw [← HLA.out]; exact aN
  rw [HLA.out] at E0 hLN
  clear aN hE hr hp ha hw hw2 HW hla hs
  go_enter Try.func62, Try.ntmps62
  have hN2 : (N : Int) < ((N + 1 : Nat) : Int) := by omega
  have aN2 := (B0.out.cell (p := ⟨g, N, none⟩) hg).trans aN'
  go_wp2
  clear aN2 aN' E0
  obtain ⟨w0, hw0⟩ : ∃ w0, w0 = w.alloc (.cells #[.int .i64 0, .int .i64 0] 46) := ⟨_, rfl⟩
  rw [← hw0] at B0 K0 ⊢
  clear hw0
  go_loopw [10] (fun i w' => ∃ k : Nat, 1 ≤ k ∧ k ≤ e ∧ i = .int .i64 (k : Int) ∧ Hid (Below w0.heap.size w0 w')) (fun i _ => N + 1 - (intOf i).toNat)
  case atStart => exact ⟨1, Nat.le_refl _, hepos, rfl, Lib.hid (Below.refl _ _)⟩
  case round =>
    obtain ⟨k, hk1, hk, rfl, HB⟩ := hrel
    have hmx := stk.mixed
    by_cases hlt : k < N + 1
    · obtain ⟨j, rfl⟩ : ∃ j, k = j + 1 := ⟨k - 1, by omega⟩
      have hg0 : g < w0.heap.size := Nat.lt_of_lt_of_le hg B0.out.size
      have hgz : g < wr.heap.size := Nat.lt_of_lt_of_le hg0 HB.out.size
      have k0 := (HB.out.cell (p := ⟨g, j + 1, none⟩) hg0).trans ((B0.out.cell (p := ⟨g, j + 1, none⟩) hg).trans (HA.out (j + 1) (by omega)))
      have k1 := (HB.out.cell (p := ⟨g, j, none⟩) hg0).trans ((B0.out.cell (p := ⟨g, j, none⟩) hg).trans (HA.out j (by omega)))
      have hx := HLB.out (j + 1) (by omega)
      have hmo := HMO.out j (j + 1) (by omega)
      have hx0 : 0 ≤ (lens pts (j + 1) : Int) := by omega
      have hy0 : 0 ≤ (lens pts j : Int) := by omega
      have hyx : (lens pts j : Int) ≤ (lens pts (j + 1) : Int) := by omega
      have hlo := HLO.out (j + 1)
      have hlo0 := HLO.out j (by omega)
      have hhi := HHI.out (j + 1)
      unfold Hit at hlo hlo0 hhi
      have hlo' : j + 1 < e → (lens pts (j + 1) : Int) < 1 ∨ (lens pts (j + 1) : Int) * parts < want := fun h => by
        have := hlo h
        by_cases h1 : 1 ≤ lens pts (j + 1)
        · right
          rcases Int.lt_or_le ((lens pts (j + 1) : Int) * parts) want with h2 | h2
          · exact h2
          · exact absurd ⟨h1, h2⟩ this
        · left; omega
      have hlo0' : (lens pts j : Int) < 1 ∨ (lens pts j : Int) * parts < want := by
        by_cases h1 : 1 ≤ lens pts j
        · right
          rcases Int.lt_or_le ((lens pts j : Int) * parts) want with h2 | h2
          · exact h2
          · exact absurd ⟨h1, h2⟩ hlo0
        · left; omega
      have hhi' : e ≤ j + 1 → 1 ≤ (lens pts (j + 1) : Int) ∧ want ≤ (lens pts (j + 1) : Int) * parts := fun h => by
        have := hhi h hlt
        exact ⟨by omega, this.2⟩
      clear hlo hlo0 hhi hmo
      generalize hxd : (lens pts (j + 1) : Int) = x at *
      generalize hyd : (lens pts j : Int) = y at *
      have HXD := Lib.hid hxd
      have HYD := Lib.hid hyd
      clear hxd hyd
      have hxp := prod_bd hx0 hx (by omega : (0 : Int) ≤ parts) hq.2
      have hxy : x = y → x * parts = y * parts := fun h => by rw [h]
      obtain ⟨xp, hxpe⟩ : ∃ z, x * parts = z := ⟨_, rfl⟩
      obtain ⟨yp, hype⟩ : ∃ z, y * parts = z := ⟨_, rfl⟩
      rw [hxpe] at hxp hlo' hhi' hxy
      rw [hype] at hlo0' hxy
      have E1 : IntKind.i64.wrap (x * parts) = xp := by rw [hxpe]; exact IntWalk.i64_in _ (by omega)
      have F1 : wrap64 (x * parts) = xp := by rw [← IntWalk.i64_left]; exact E1
      have c0 := cell_kept (w := wr) hgz k0
      have c1 := cell_kept (w := wr) hgz k1
      have hli : ((j + 1 : Nat) : Int) < ((N + 1 : Nat) : Int) := by omega
      have hdj : decide (j < N) = true := decide_eq_true (by omega)
      have hjn : j < N + 1 := by omega
      have hj1n : j + 1 < N + 1 := hlt
      have hj00 : (0 : Int) ≤ (j : Int) + 1 := by omega
      have hw1 : IntKind.i64.wrap (j : Int) = (j : Int) := IntWalk.i64_in _ (by omega)
      have HK0 := Lib.hid k0
      have HK1 := Lib.hid k1
      have HYP := Lib.hid hype
      have HXP := Lib.hid hxpe
      clear k0 k1 hxpe hype
      by_cases hje : j + 1 < e
      · have hlo2 := hlo' hje
        by_cases hc : x = y
        · have hc2 : (x == y) = true := by simpa using hc
          clear hlo2 hlo' hlo0' hhi' hxy
          subst hc
          go_wp2
          refine wp_region_quiet_kept (by assumption) (by kernel_rfl) ?_
          repeat (first | go_big_quiet_step (fail) | quiet_step (fail))
          refine wpQuiet_nil ?_
          intro w2 hw'
          have hB : Below wr.heap.size wr w2 := by obtain ⟨⟨wk, hb0⟩, hw''⟩ := hw'; rw [hw'']; exact hb0
          have HB2 := Lib.hid (HB.out.trans (hB.mono HB.out.size))
          clear hw' hB c0 c1 E1 F1
          go_wp2
          go_roundw
          case rel => exact ⟨j + 1 + 1, by omega, by omega, by go_num, HB2⟩
          case measure => simp [intOf]; omega
        · have hc2 : (x == y) = false := by simpa using hc
          have hlt3 : xp < want := by omega
          have hd3 : decide (xp < want) = true := decide_eq_true hlt3
          clear hlo2 hlo' hlo0' hhi' hxy
          go_wp2
          refine wp_region_quiet_kept (by assumption) (by kernel_rfl) ?_
          repeat (first | go_big_quiet_step (fail) | quiet_step (fail))
          refine wpQuiet_nil ?_
          intro w2 hw'
          have hB : Below wr.heap.size wr w2 := by obtain ⟨⟨wk, hb0⟩, hw''⟩ := hw'; rw [hw'']; exact hb0
          have HB2 := Lib.hid (HB.out.trans (hB.mono HB.out.size))
          clear hw' hB c0 c1 E1 F1
          go_wp2
          go_roundw
          case rel => exact ⟨j + 1 + 1, by omega, by omega, by go_num, HB2⟩
          case measure => simp [intOf]; omega
      · obtain rfl : e = j + 1 := by omega
        have hhi2 := hhi' (Nat.le_refl _)
        have hc : ¬ x = y := fun h => by have := hxy h; omega
        have hc2 : (x == y) = false := by simpa using hc
        have hc4 : decide (x = y) = false := decide_eq_false hc
        have hd3 : decide (xp < want) = false := decide_eq_false (by omega)
        have hnl : ¬ xp < want := by omega
        clear hlo' hhi' hxy
        go_wp2
        refine wp_region_quiet_kept (by assumption) (by kernel_rfl) ?_
        repeat (first | go_big_quiet_step (fail) | quiet_step (fail))
        refine wpQuiet_nil ?_
        intro w2 hw'
        have hB : Below wr.heap.size wr w2 := by obtain ⟨⟨wk, hb0⟩, hw''⟩ := hw'; rw [hw'']; exact hb0
        have HB2 := Lib.hid (HB.out.trans (hB.mono HB.out.size))
        have hB2 := hB
        clear hw' hB c0 c1 E1 F1
        have HBW := Lib.hid (B0.out.trans (HB2.out.mono B0.out.size))
        have sb := (HBW.out.cell (p := ⟨b, o, none⟩) hbz).trans HS.out
        have sbz : b < w2.heap.size := Nat.lt_of_lt_of_le hbz HBW.out.size
        obtain ⟨ga, oa, rfl, hga, p0, p1, p2⟩ := (HP.out.kept HBW.out) j (by omega)
        obtain ⟨g2, o2, e2, -, q0, q1, q2⟩ := (HP.out.kept HBW.out) (j + 1) hlt
        injection e2 with e2
        injection e2 with e2 e3
        subst e2 e3
        have hrp := HRG.out j (by omega)
        have hrq := HRG.out (j + 1) hlt
        have HX := Lib.hid (show spX pts (N + 1) (j + 1) part parts = (pts j).1 + nr (((pts (j + 1)).1 - (pts j).1) * (want - y * parts)) ((x - y) * parts) by
          unfold spX restOf allOf
          rw [if_neg (by omega), HWN.out, Nat.add_sub_cancel, HXD.out, HYD.out])
        have HY := Lib.hid (show spY pts (N + 1) (j + 1) part parts = (pts j).2.1 + nr (((pts (j + 1)).2.1 - (pts j).2.1) * (want - y * parts)) ((x - y) * parts) by
          unfold spY restOf allOf
          rw [if_neg (by omega), HWN.out, Nat.add_sub_cancel, HXD.out, HYD.out])
        obtain ⟨p, hpk⟩ : ∃ p, pts j = p := ⟨_, rfl⟩
        obtain ⟨q, hqk⟩ : ∃ p, pts (j + 1) = p := ⟨_, rfl⟩
        rw [hpk] at p0 p1 p2 hrp HX HY
        rw [hqk] at q0 q1 q2 hrq HX HY
        rw [HYP.out] at HX HY
        clear hpk hqk
        unfold Rg at hrp hrq
        have hal : 1 ≤ (x - y) * parts := by
          have := Int.mul_le_mul (show (1 : Int) ≤ x - y by omega) (show (1 : Int) ≤ parts by omega) (by omega) (by omega)
          omega
        have hal2 := prod_bd (a := x - y) (parts := parts) (by omega) (by omega) (by omega) hq.2
        have hyb := prod_bd hy0 (show y ≤ 5469300 by omega) (show (0 : Int) ≤ parts by omega) hq.2
        rw [HYP.out] at hyb
        have hyz : y < 1 → yp = 0 := fun h => by rw [← HYP.out, show y = 0 by omega, Int.zero_mul]
        obtain ⟨rest, hrest⟩ : ∃ z, want - yp = z := ⟨_, rfl⟩
        obtain ⟨al, hale⟩ : ∃ z, (x - y) * parts = z := ⟨_, rfl⟩
        rw [hrest, hale] at HX HY
        rw [hale] at hal hal2
        have hrb : 0 ≤ rest ∧ rest ≤ 5469300000 := by omega
        have hmx := mul_bd2 (x := q.1 - p.1) (y := rest) (B := 4095) (C := 5469300000) (by omega) (by omega) hrb.1 hrb.2
        have hmy := mul_bd2 (x := q.2.1 - p.2.1) (y := rest) (B := 4095) (C := 5469300000) (by omega) (by omega) hrb.1 hrb.2
        obtain ⟨mx, hmxe⟩ : ∃ z, (q.1 - p.1) * rest = z := ⟨_, rfl⟩
        obtain ⟨my, hmye⟩ : ∃ z, (q.2.1 - p.2.1) * rest = z := ⟨_, rfl⟩
        rw [hmxe] at HX hmx
        rw [hmye] at HY hmy
        have hnx := down_le (n := 2 * mx + al) (d := 2 * al) (B := 100000000000000) (by omega) (by omega) (by omega)
        have hny := down_le (n := 2 * my + al) (d := 2 * al) (B := 100000000000000) (by omega) (by omega) (by omega)
        rw [show (2 * mx + al) / (2 * al) = nr mx al from rfl] at hnx
        rw [show (2 * my + al) / (2 * al) = nr my al from rfl] at hny
        have HNX := Lib.hid (fun W => specNear mx al (by omega) (by omega) (by omega) (by omega) W)
        have HNY := Lib.hid (fun W => specNear my al (by omega) (by omega) (by omega) (by omega) W)
        generalize nr mx al = vx at *
        generalize nr my al = vy at *
        obtain ⟨ex, hex⟩ : ∃ z, q.1 - p.1 = z := ⟨_, rfl⟩
        obtain ⟨ey, hey⟩ : ∃ z, q.2.1 - p.2.1 = z := ⟨_, rfl⟩
        obtain ⟨dxy, hdxy⟩ : ∃ z, x - y = z := ⟨_, rfl⟩
        rw [hex] at hmxe
        rw [hey] at hmye
        rw [hdxy] at hale
        have G1 : IntKind.i64.wrap (y * parts) = yp := by rw [HYP.out]; exact IntWalk.i64_in _ (by omega)
        have G2 : IntKind.i64.wrap (want - yp) = rest := by rw [hrest]; exact IntWalk.i64_in _ (by omega)
        have G3 : IntKind.i64.wrap (x - y) = dxy := by rw [hdxy]; exact IntWalk.i64_in _ (by omega)
        have G4 : IntKind.i64.wrap (dxy * parts) = al := by rw [hale]; exact IntWalk.i64_in _ (by omega)
        have G5 : IntKind.i64.wrap (q.1 - p.1) = ex := by rw [hex]; exact IntWalk.i64_in _ (by omega)
        have G6 : IntKind.i64.wrap (ex * rest) = mx := by rw [hmxe]; exact IntWalk.i64_in _ (by omega)
        have G7 : IntKind.i64.wrap (q.2.1 - p.2.1) = ey := by rw [hey]; exact IntWalk.i64_in _ (by omega)
        have G8 : IntKind.i64.wrap (ey * rest) = my := by rw [hmye]; exact IntWalk.i64_in _ (by omega)
        have G9 : IntKind.i64.wrap (p.1 + vx) = p.1 + vx := IntWalk.i64_in _ (by omega)
        have G10 : IntKind.i64.wrap (p.2.1 + vy) = p.2.1 + vy := IntWalk.i64_in _ (by omega)
        have G1' : wrap64 (y * parts) = yp := by rw [← IntWalk.i64_left]; exact G1
        have G2' : wrap64 (want - yp) = rest := by rw [← IntWalk.i64_left]; exact G2
        have y1 : w2.cell? ⟨g, j, none⟩ = some (.int .i64 y) := (hB2.cell (p := ⟨g, j, none⟩) hgz).trans HK1.out
        have y0 : w2.cell? ⟨g, j + 1, none⟩ = some (.int .i64 x) := (hB2.cell (p := ⟨g, j + 1, none⟩) hgz).trans HK0.out
        have hgz2 : g < w2.heap.size := Nat.lt_of_lt_of_le hgz hB2.size
        have HG2 := Lib.hid hgz2
        have BX := Lib.hid (below_alloc2 w2 (.cells #[.int .i64 p.1, .int .i64 p.2.1, .int .i64 p.2.2] 65) (.cells #[.int .i64 q.1, .int .i64 q.2.1, .int .i64 q.2.2] 65))
        have KP := Lib.hid (show ((w2.alloc (.cells #[.int .i64 p.1, .int .i64 p.2.1, .int .i64 p.2.2] 65)).alloc (.cells #[.int .i64 q.1, .int .i64 q.2.1, .int .i64 q.2.2] 65)).heap[w2.heap.size]? = some (.cells #[.int .i64 p.1, .int .i64 p.2.1, .int .i64 p.2.2] 65 (0, 0)) by rw [Below.heap_alloc _ _ _ (by simp)]; exact heap_alloc_new _ _)
        have KQ := Lib.hid (show ((w2.alloc (.cells #[.int .i64 p.1, .int .i64 p.2.1, .int .i64 p.2.2] 65)).alloc (.cells #[.int .i64 q.1, .int .i64 q.2.1, .int .i64 q.2.2] 65)).heap[w2.heap.size + 1]? = some (.cells #[.int .i64 q.1, .int .i64 q.2.1, .int .i64 q.2.2] 65 (0, 0)) by have := heap_alloc_new (w2.alloc (.cells #[.int .i64 p.1, .int .i64 p.2.1, .int .i64 p.2.2] 65)) (.cells #[.int .i64 q.1, .int .i64 q.2.1, .int .i64 q.2.2] 65); simpa using this)
        have KR := Lib.hid ((HB2.out.block _ (block_size K0.out)).trans K0.out)
        clear hB2 hrest hale hex hey hdxy hmxe hmye hgz hal hyb
        go_wp2
        clear p0 p1 p2 q0 q1 q2 sb sbz G1 G2 G1' G2'
        obtain ⟨wo, hwo⟩ : ∃ wo : World, wo = (w2.alloc (.cells #[.int .i64 p.1, .int .i64 p.2.1, .int .i64 p.2.2] 65)).alloc (.cells #[.int .i64 q.1, .int .i64 q.2.1, .int .i64 q.2.2] 65) := ⟨_, rfl⟩
        rw [← hwo] at BX KP KQ ⊢
        clear hwo
        have hgo : g < wo.heap.size := Nat.lt_of_lt_of_le hgz2 BX.out.size
        have c0 := cell_kept (w := wo) hgo ((BX.out.cell (p := ⟨g, j + 1, none⟩) hgz2).trans y0)
        have c1 := cell_kept (w := wo) hgo ((BX.out.cell (p := ⟨g, j, none⟩) hgz2).trans y1)
        clear y0 y1 hgz2
        refine wp_region_quiet_kept (by assumption) (by kernel_rfl) ?_
        repeat (first | go_big_quiet_step (fail) | quiet_step (fail))
        refine wpQuiet_nil ?_
        intro w4 hw'
        have hB : Below wo.heap.size wo w4 := by obtain ⟨⟨wk, hb0⟩, hw''⟩ := hw'; rw [hw'']; exact hb0
        have L1 := Lib.hid ((hB.block _ (block_size KP.out)).trans KP.out)
        have L2 := Lib.hid ((hB.block _ (block_size KQ.out)).trans KQ.out)
        have BY := Lib.hid (BX.out.trans (hB.mono BX.out.size))
        have L0 := Lib.hid ((BY.out.block _ (block_size KR.out)).trans KR.out)
        have BW := Lib.hid (HBW.out.trans (BY.out.mono HBW.out.size))
        clear hw' hB c0 c1 KP KQ KR BX G3 G4 hgo
        go_wp2
        obtain ⟨w9, hw9⟩ : ∃ w9, w9 = w4.drew := ⟨_, rfl⟩
        have x0 : w9.cell? ⟨w2.heap.size, 0, none⟩ = some (.int .i64 p.1) := by rw [hw9]; show w4.cell? _ = _; rw [cell_of_block L1.out]; rfl
        have x1 : w9.cell? ⟨w2.heap.size, 1, none⟩ = some (.int .i64 p.2.1) := by rw [hw9]; show w4.cell? _ = _; rw [cell_of_block L1.out]; rfl
        have x2 : w9.cell? ⟨w2.heap.size + 1, 0, none⟩ = some (.int .i64 q.1) := by rw [hw9]; show w4.cell? _ = _; rw [cell_of_block L2.out]; rfl
        have x3 : w9.cell? ⟨w2.heap.size + 1, 1, none⟩ = some (.int .i64 q.2.1) := by rw [hw9]; show w4.cell? _ = _; rw [cell_of_block L2.out]; rfl
        have L0D := Lib.hid (show w9.heap[w.heap.size]? = some (.cells #[.int .i64 0, .int .i64 0] 46 (0, 0)) by rw [hw9]; exact L0.out)
        have BWD := Lib.hid (show Below w.heap.size w w9 by rw [hw9]; exact BW.out.drew)
        refine wp_region_still_tail 25 (by assumption) (by kernel_rfl) ?_
        rw [show ({ w4 with drawn := w4.drawn + 1 } : World) = w9 from hw9.symm]
        clear hw9 L1 L2 L0 BW BY
        simp only [List.take_succ_cons, List.take_zero, List.drop_succ_cons, List.drop_zero]
        iterate 10 still_step
        still_call ((HNX.out _).mono fun _ _ h => ⟨h.1, h.2.symm⟩)
        iterate 11 still_step
        still_call ((HNY.out _).mono fun _ _ h => ⟨h.1, h.2.symm⟩)
        iterate 2 still_step
        refine wpStill_nil ?_
        clear x0 x1 x2 x3 G5 G6 G7 G8 G9 G10
        have r0 : w9.cell? ⟨w.heap.size, 0, none⟩ = some (.int .i64 0) := by rw [cell_of_block L0D.out]; rfl
        have r1 : w9.cell? ⟨w.heap.size, 1, none⟩ = some (.int .i64 0) := by rw [cell_of_block L0D.out]; rfl
        have rf := unfrozen_of_block L0D.out
        have rz := block_size L0D.out
        go_wp2
        exact bodyPost_ret (v := .agg #[.int .i64 (p.1 + vx), .int .i64 (p.2.1 + vy)]) (by simp [results, Try.results62, go_sem, r0, r1]) rfl ⟨by rw [HX.out, HY.out], (BWD.out.setCell (Nat.le_refl _) _).setCell (Nat.le_refl _) _⟩
    · obtain rfl : k = N + 1 := by omega
      obtain rfl : e = N + 1 := by omega
      have HBW := Lib.hid (B0.out.trans (HB.out.mono B0.out.size))
      have sb := (HBW.out.cell (p := ⟨b, o, none⟩) hbz).trans HS.out
      have sbz : b < wr.heap.size := Nat.lt_of_lt_of_le hbz HBW.out.size
      obtain ⟨ga, oa, rfl, hga, p0, p1, p2⟩ := (HP.out.kept HBW.out) 0 (by omega)
      simp only [Nat.zero_mul, Nat.add_zero] at p0 p1 p2
      have HX := Lib.hid (show spX pts (N + 1) (N + 1) part parts = (pts 0).1 by unfold spX; rw [if_pos rfl])
      have HY := Lib.hid (show spY pts (N + 1) (N + 1) part parts = (pts 0).2.1 by unfold spY; rw [if_pos rfl])
      obtain ⟨p, hpk⟩ : ∃ p, pts 0 = p := ⟨_, rfl⟩
      rw [hpk] at p0 p1 p2 HX HY
      have KR := Lib.hid ((HB.out.block _ (block_size K0.out)).trans K0.out)
      have HSPOT := Lib.hid (fun W => specSpot p.1 p.2.1 p.2.2 W)
      have hdn : decide (N + 1 < N + 1) = false := decide_eq_false (by omega)
      have hdn2 : decide (N < N) = false := decide_eq_false (by omega)
      clear hpk
      go_wp2
      refine wp_region_quiet_kept (by assumption) (by kernel_rfl) ?_
      repeat (first | go_big_quiet_step (fail) | quiet_step (fail))
      refine wpQuiet_nil ?_
      intro w2 hw'
      have hB : Below wr.heap.size wr w2 := by obtain ⟨⟨wk, hb0⟩, hw''⟩ := hw'; rw [hw'']; exact hb0
      have sb := (hB.cell (p := ⟨b, o, none⟩) sbz).trans sb
      have sbz : b < w2.heap.size := Nat.lt_of_lt_of_le sbz hB.size
      have p0 := (hB.cell (p := ⟨ga, oa, none⟩) hga).trans p0
      have p1 := (hB.cell (p := ⟨ga, oa + 1, none⟩) hga).trans p1
      have p2 := (hB.cell (p := ⟨ga, oa + 2, none⟩) hga).trans p2
      have hga := Nat.lt_of_lt_of_le hga hB.size
      have LR := Lib.hid ((hB.block _ (block_size KR.out)).trans KR.out)
      have BW := Lib.hid (HBW.out.trans (hB.mono HBW.out.size))
      clear hw' hB KR
      go_wp2_with fail
      with_reducible refine (HSPOT.out _).mono ?_
      rintro e w3 ⟨rfl, hb⟩
      have BW3 := Lib.hid (BW.out.trans (hb.mono BW.out.size))
      have L0D := Lib.hid ((hb.block _ (block_size LR.out)).trans LR.out)
      have r0 : w3.cell? ⟨w.heap.size, 0, none⟩ = some (.int .i64 0) := by rw [cell_of_block L0D.out]; rfl
      have r1 : w3.cell? ⟨w.heap.size, 1, none⟩ = some (.int .i64 0) := by rw [cell_of_block L0D.out]; rfl
      have rf := unfrozen_of_block L0D.out
      have rz := block_size L0D.out
      clear hb sb sbz p0 p1 p2
      go_wp2
      exact bodyPost_ret (v := .agg #[.int .i64 p.1, .int .i64 p.2.1]) (by simp [results, Try.results62, go_sem, r0, r1]) rfl ⟨by rw [HX.out, HY.out], (BW3.out.setCell (Nat.le_refl _) _).setCell (Nat.le_refl _) _⟩
end Go.Proofs.Ytmphnhffelfbgaa.spot
