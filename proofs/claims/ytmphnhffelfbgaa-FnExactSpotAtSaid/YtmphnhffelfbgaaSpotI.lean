/-
  Proved: what the program's functions on the place at a part of a stroke's length return.
  Conditions: the points are in their range, and no more than 60; the part is one of the parts.
-/
import Derived.Test.YtmphnhffelfbgaaSpot
import Derived.Test.YtmphnhffelfbgaaBs
import Derived.BigRegion
import Derived.Deep.RegionHeld3
import Derived.Deep.DeepCutAuto
namespace Go.Proofs.Ytmphnhffelfbgaa.spot
open Go.ChangeShapes Go.WideShapes Go.ChangeAt Go.RowKit Go.Joins
open Go.Proofs.Ytmphnhffelfbgaa.core Go.Proofs.Ytmphnhffelfbgaa.stk Go.Proofs.Ytmphnhffelfbgaa.seg Go.Proofs.Ytmphnhffelfbgaa.lenS Go.Proofs.Ytmphnhffelfbgaa.rown Go.Proofs.Ytmphnhffelfbgaa.boxed Go.Proofs.Ytmphnhffelfbgaa.near Go.Proofs.Ytmphnhffelfbgaa.arcs
set_option linter.unusedVariables false
set_option linter.unusedSimpArgs false
set_option maxHeartbeats 1000000 in
theorem between_calls (f t d h : Int) (ex m v : Int) (hex : t - f = ex) (hm : ex * d = m) (hv : nr m h = v) (h0 : 0 < h) (h1 : h ≤ 1000000000000000000) (hf : -10000 ≤ f ∧ f ≤ 10000) (ht : -10000 ≤ t ∧ t ≤ 10000) (hmb : -1000000000000000 ≤ m ∧ m ≤ 1000000000000000) (hvb : -1000000000000000000 ≤ v ∧ v ≤ 1000000000000000000) (w : World) :
    Calls Try.prog 87 #[.int .i64 f, .int .i64 t, .int .i64 d, .int .i64 h] w fun e w' => e = .returned (.int .i64 (f + v)) ∧ w' = w := by
  have HN := Lib.hid (fun W => implNear m h h0 h1 (by omega) (by omega) W)
  rw [hv] at HN
  have G1 : IntKind.i64.wrap (t - f) = ex := by rw [hex]; exact IntWalk.i64_in _ (by omega)
  have G2 : IntKind.i64.wrap (ex * d) = m := by rw [hm]; exact IntWalk.i64_in _ (by omega)
  have F1 : wrap64 (t - f) = ex := by rw [← IntWalk.i64_left]; exact G1
  have F2 : wrap64 (ex * d) = m := by rw [← IntWalk.i64_left]; exact G2
  clear hex hm hv
  go_enter Try.func87, Try.ntmps87
  go_wp2_with fail
  refine (HN.out _).mono ?_
  rintro e w1 ⟨rfl, rfl⟩
  go_wp2
  go_ret
  exact ⟨stk.ret_int (by first | rfl | omega), rfl⟩
set_option maxHeartbeats 1000000 in
theorem tlen_calls {c d g : Nat} (A : Option Addr) (N : Nat) (L : Int) (w : World) (h60 : N + 1 ≤ 60) (hg : g < w.heap.size) (ha : w.cell? ⟨g, N, none⟩ = some (.int .i64 L)) :
    Calls Try.prog 85 #[.agg #[.slice A (N + 1) c, .slice (some ⟨g, 0, none⟩) (N + 1) d]] w fun e w' => e = .returned (.int .i64 L) ∧ Below w.heap.size w w' := by
  have hN2 : (N : Int) < ((N + 1 : Nat) : Int) := by omega
  have hz : g < (w.alloc (.cells #[.slice A (N + 1) c, .slice (some ⟨g, 0, none⟩) (N + 1) d] 82)).heap.size := by simp; omega
  go_enter Try.func85, Try.ntmps85
  go_wp2
  go_ret
  exact ⟨rfl, below_alloc1 _ _⟩
theorem quo_iff {want parts x : Int} (hp : 0 < parts) : (want + parts - 1) / parts ≤ x ↔ want ≤ x * parts := by
  rw [← Int.lt_add_one_iff, Int.ediv_lt_iff_lt_mul hp, Int.add_mul, Int.one_mul]
  omega
theorem quo_lt {want parts x : Int} (hp : 0 < parts) : x < (want + parts - 1) / parts ↔ x * parts < want := by
  have := quo_iff (want := want) (x := x) hp
  omega
set_option maxRecDepth 100000 in
set_option maxHeartbeats 4000000 in
theorem implAt {c d g : Nat} (A : Option Addr) (n e : Nat) (pts : Nat → P3) (part parts : Int) (w : World) (h1 : 1 ≤ n) (h60 : n ≤ 60) (hr : ∀ i, i < n → Rg (pts i)) (hq : 1 ≤ parts ∧ parts ≤ 1000) (hpa : 0 ≤ part ∧ part ≤ parts) (hE : IsE (lens pts) (wantOf pts n part) parts n e)
    (hp : PtsAt w A n pts) (hg : g < w.heap.size) (ha : ∀ i, i < n → w.cell? ⟨g, i, none⟩ = some (.int .i64 (lens pts i : Nat))) :
    Calls Try.prog 64 #[.agg #[.slice A n c, .slice (some ⟨g, 0, none⟩) n d], .int .i64 part, .int .i64 parts] w fun e' w' => e' = .returned (.agg #[.int .i64 (spX pts n e part parts), .int .i64 (spY pts n e part parts)]) ∧ Below w.heap.size w w' := by
  obtain ⟨N, rfl⟩ : ∃ N, n = N + 1 := ⟨n - 1, by omega⟩
  have hepos := e_pos h1 hE
  have HRG := Lib.hid hr
  have HP := Lib.hid hp
  have HA := Lib.hid ha
  have HLB := Lib.hid (fun i (hi : i < N + 1) => lens_bd h60 hr hi)
  have HLO := Lib.hid hE.2.1
  have HHI := Lib.hid hE.2.2
  have hen := hE.1
  have hLN := HLB.out N (by omega)
  have hwb := prod_bd (a := (lens pts N : Int)) (parts := part) (by omega) hLN hpa.1 (by omega)
  have HW := Lib.hid (show wantOf pts (N + 1) part = (lens pts N : Int) * part from rfl)
  obtain ⟨want, hw⟩ : ∃ x, wantOf pts (N + 1) part = x := ⟨_, rfl⟩
  rw [hw] at HLO HHI
  have hw2 : (lens pts N : Int) * part = want := by rw [← HW.out, hw]
  rw [hw2] at hwb
  have HWN := Lib.hid hw
  have HMO := Lib.hid (fun i j (h : i ≤ j) => lens_mono pts h)
  -- the number that is looked for
  obtain ⟨Q, hQ⟩ : ∃ z, (want + parts - 1) / parts = z := ⟨_, rfl⟩
  have hQ2 : (want + parts - 1).tdiv parts = Q := by rw [← hQ]; exact Int.tdiv_eq_ediv_of_nonneg (by omega)
  have hQb : 0 ≤ Q ∧ Q ≤ 5469301000 := by
    have h1 := Int.ediv_nonneg (a := want + parts - 1) (b := parts) (by omega) (by omega)
    have h2 := Int.ediv_le_self (a := want + parts - 1) parts (by omega)
    omega
  have hTl : ∀ i, i < e → (lens pts i : Int) < max 1 Q := fun i hi => by
    have h := HLO.out i hi
    unfold Hit at h
    have hk := quo_lt (want := want) (x := (lens pts i : Int)) (show 0 < parts by omega)
    rw [hQ] at hk
    by_cases h1 : 1 ≤ lens pts i
    · have : (lens pts i : Int) * parts < want := Int.not_le.1 fun h2 => h ⟨h1, h2⟩
      have := hk.2 this
      omega
    · omega
  have hTh : ∀ i, e ≤ i → i < N + 1 → max 1 Q ≤ (lens pts i : Int) := fun i hi hn => by
    obtain ⟨h1, h2⟩ := HHI.out i hi hn
    have hk := quo_iff (want := want) (x := (lens pts i : Int)) (show 0 < parts by omega)
    rw [hQ] at hk
    have := hk.2 h2
    omega
  obtain ⟨r, hrr⟩ : ∃ r, r = decide (e < N + 1 ∧ (lens pts e : Int) = max 1 Q) := ⟨_, rfl⟩
  have hbs : ∀ (W : World), Below w.heap.size w W → Calls Try.prog 86 #[.slice (some ⟨g, 0, none⟩) (N + 1) d, .int .i64 (max 1 Q)] W fun e' w' => e' = .returned (.tuple #[.int .i64 (e : Int), .bool r]) ∧ Below W.heap.size W w' := fun W hW => (bs.bs_calls (n := N + 1) (d := d) (g := g) (f := fun i => (lens pts i : Int)) (t := max 1 Q) (x := e) (r := r) W hrr h60 (Nat.lt_of_lt_of_le hg hW.size) (fun i hi => (hW.cell (p := ⟨g, i, none⟩) hg).trans (HA.out i hi)) hen hTl hTh).mono fun _ _ h => ⟨h.1, h.2 ▸ Below.refl _ _⟩
  have HBS := Lib.hid hbs
  clear hbs
  have aN := HA.out N (by omega)
  have HTL := Lib.hid (fun (W : World) (hW : Below w.heap.size w W) => tlen_calls (c := c) (d := d) (g := g) A N (lens pts N : Nat) W h60 (Nat.lt_of_lt_of_le hg hW.size) ((hW.cell (p := ⟨g, N, none⟩) hg).trans aN))
  obtain ⟨LN, hLNe⟩ : ∃ z : Int, (lens pts N : Int) = z := ⟨_, rfl⟩
  rw [hLNe] at hLN hw2 HTL
  have E0 : IntKind.i64.wrap (LN * part) = want := by rw [hw2]; exact IntWalk.i64_in _ (by omega)
  obtain ⟨s1, hs1⟩ : ∃ z, want + parts = z := ⟨_, rfl⟩
  obtain ⟨s2, hs2⟩ : ∃ z, s1 - 1 = z := ⟨_, rfl⟩
  have E1 : IntKind.i64.wrap (want + parts) = s1 := by rw [hs1]; exact IntWalk.i64_in _ (by omega)
  have E2 : IntKind.i64.wrap (s1 - 1) = s2 := by rw [hs2]; exact IntWalk.i64_in _ (by omega)
  have E3 : s2.tdiv parts = Q := by rw [← hs2, ← hs1]; exact hQ2
  have E4 : IntKind.i64.wrap Q = Q := IntWalk.i64_in _ (by omega)
  have F1 : wrap64 (want + parts) = s1 := by rw [← IntWalk.i64_left]; exact E1
  have F2 : wrap64 (s1 - 1) = s2 := by rw [← IntWalk.i64_left]; exact E2
  have hp0 : ¬ parts = 0 := by omega
  have hp1 : (parts == 0) = false := by simp; omega
  have B0 := Lib.hid (below_alloc2 w (.cells #[.slice A (N + 1) c, .slice (some ⟨g, 0, none⟩) (N + 1) d] 82) (.cells #[.int .i64 0, .int .i64 0] 46))
  have K0 := Lib.hid (show ((w.alloc (.cells #[.slice A (N + 1) c, .slice (some ⟨g, 0, none⟩) (N + 1) d] 82)).alloc (.cells #[.int .i64 0, .int .i64 0] 46)).heap[w.heap.size]? = some (.cells #[.slice A (N + 1) c, .slice (some ⟨g, 0, none⟩) (N + 1) d] 82 (0, 0)) by rw [Below.heap_alloc _ _ _ (by simp)]; exact heap_alloc_new _ _)
  have K1 := Lib.hid (show ((w.alloc (.cells #[.slice A (N + 1) c, .slice (some ⟨g, 0, none⟩) (N + 1) d] 82)).alloc (.cells #[.int .i64 0, .int .i64 0] 46)).heap[w.heap.size + 1]? = some (.cells #[.int .i64 0, .int .i64 0] 46 (0, 0)) by have := heap_alloc_new (w.alloc (.cells #[.slice A (N + 1) c, .slice (some ⟨g, 0, none⟩) (N + 1) d] 82)) (.cells #[.int .i64 0, .int .i64 0] 46); simpa using this)
  clear hE hr hp ha hw hw2 HW hQ hQ2 hTl hTh hrr aN hs1 hs2
  go_enter Try.func64, Try.ntmps64
  go_wp2_with fail
  refine (HTL.out _ B0.out).mono ?_
  rintro e' w1 ⟨rfl, hb1⟩
  have B1 := Lib.hid (B0.out.trans (hb1.mono B0.out.size))
  have L0 := Lib.hid ((hb1.block _ (block_size K0.out)).trans K0.out)
  have L1 := Lib.hid ((hb1.block _ (block_size K1.out)).trans K1.out)
  clear hb1 K0 K1 B0 HTL
  have hmx := stk.mixed
  have t1 := cell_kept (w := w1) (a := ⟨w.heap.size, 1, none⟩) (v := .slice (some ⟨g, 0, none⟩) (N + 1) d) (block_size L0.out) (by rw [cell_of_block L0.out]; rfl)
  go_wp2
  go_cut [8, 9] (fun s8 s9 wx => s8 = .int .i64 (e : Int) ∧ s9 = .bool r ∧ Hid (Below w1.heap.size w1 wx))
  case first =>
    refine wp_region_quiet_kept (by assumption) (by kernel_rfl) ?_
    repeat (first | go_big_quiet_step ((go_at_call 86; with_reducible exact Calls.kept_of (HBS.out _ (B1.out.trans ((Kept.below _).mono B1.out.size))))) | quiet_step ((go_at_call 86; with_reducible exact Calls.kept_of (HBS.out _ (B1.out.trans ((Kept.below _).mono B1.out.size))))))
    refine wpQuiet_nil ?_
    intro w2 hw'
    have hB : Below w1.heap.size w1 w2 := by obtain ⟨⟨wk, hb0⟩, hw''⟩ := hw'; rw [hw'']; exact hb0
    go_wp2_with fail
    go_meet
    exact ⟨rfl, rfl, Lib.hid hB⟩
  case rest =>
    obtain ⟨rfl, rfl, HBC⟩ := hcut
    have BWC := Lib.hid (B1.out.trans (HBC.out.mono B1.out.size))
    have M0 := Lib.hid ((HBC.out.block _ (block_size L0.out)).trans L0.out)
    have M1 := Lib.hid ((HBC.out.block _ (block_size L1.out)).trans L1.out)
    have u0 : wc.cell? ⟨w.heap.size, 0, none⟩ = some (.slice A (N + 1) c) := by rw [cell_of_block M0.out]; rfl
    have u1 : wc.cell? ⟨w.heap.size, 1, none⟩ = some (.slice (some ⟨g, 0, none⟩) (N + 1) d) := by rw [cell_of_block M0.out]; rfl
    have uz := block_size M0.out
    clear t1 E0 E1 E2 E3 E4 F1 F2 L0 L1 HBC HBS hp1 hp0 B1
    by_cases hlt : e < N + 1
    · obtain ⟨j, rfl⟩ : ∃ j, e = j + 1 := ⟨e - 1, by omega⟩
      have hx := HLB.out (j + 1) hlt
      have hmo := HMO.out j (j + 1) (by omega)
      have hx0 : 0 ≤ (lens pts (j + 1) : Int) := by omega
      have hy0 : 0 ≤ (lens pts j : Int) := by omega
      have hyx : (lens pts j : Int) ≤ (lens pts (j + 1) : Int) := by omega
      have hlo0 := HLO.out j (by omega)
      have hhi := HHI.out (j + 1) (Nat.le_refl _) hlt
      unfold Hit at hlo0 hhi
      have hlo0' : (lens pts j : Int) < 1 ∨ (lens pts j : Int) * parts < want := by
        by_cases h1 : 1 ≤ lens pts j
        · right
          rcases Int.lt_or_le ((lens pts j : Int) * parts) want with h2 | h2
          · exact h2
          · exact absurd ⟨h1, h2⟩ hlo0
        · left; omega
      have hhi2 : 1 ≤ (lens pts (j + 1) : Int) ∧ want ≤ (lens pts (j + 1) : Int) * parts := ⟨by omega, hhi.2⟩
      have k0 := (BWC.out.cell (p := ⟨g, j + 1, none⟩) hg).trans (HA.out (j + 1) hlt)
      have k1 := (BWC.out.cell (p := ⟨g, j, none⟩) hg).trans (HA.out j (by omega))
      clear hlo0 hhi hmo
      generalize hxd : (lens pts (j + 1) : Int) = x at *
      generalize hyd : (lens pts j : Int) = y at *
      have HXD := Lib.hid hxd
      have HYD := Lib.hid hyd
      clear hxd hyd
      obtain ⟨xp, hxpe⟩ : ∃ z, x * parts = z := ⟨_, rfl⟩
      obtain ⟨yp, hype⟩ : ∃ z, y * parts = z := ⟨_, rfl⟩
      have hxy : x = y → x * parts = y * parts := fun h => by rw [h]
      rw [hxpe] at hhi2 hxy
      rw [hype] at hlo0' hxy
      have hc : ¬ x = y := fun h => by have := hxy h; omega
      have HYP := Lib.hid hype
      have HK0 := Lib.hid k0
      have HK1 := Lib.hid k1
      clear hxpe hype k0 k1
      obtain ⟨ga, oa, rfl, hga, p0, p1, p2⟩ := (HP.out.kept BWC.out) j (by omega)
      obtain ⟨g2, o2, e2, -, q0, q1, q2⟩ := (HP.out.kept BWC.out) (j + 1) hlt
      injection e2 with e2
      injection e2 with e2 e3
      subst e2 e3
      have hrp := HRG.out j (by omega)
      have hrq := HRG.out (j + 1) hlt
      have HX := Lib.hid (show spX pts (N + 1) (j + 1) part parts = (pts j).1 + nr (((pts (j + 1)).1 - (pts j).1) * (want - y * parts)) ((x - y) * parts) by
        unfold spX restOf allOf
        rw [if_neg (by omega), HWN.out, Nat.add_sub_cancel, HXD.out, HYD.out])
      have HY := Lib.hid (show spY pts (N + 1) (j + 1) part parts = (pts j).2.1 + nr (((pts (j + 1)).2.1 - (pts j).2.1) * (want - y * parts)) ((x - y) * parts) by
        unfold spY restOf allOf
        rw [if_neg (by omega), HWN.out, Nat.add_sub_cancel, HXD.out, HYD.out])
      obtain ⟨p, hpk⟩ : ∃ p, pts j = p := ⟨_, rfl⟩
      obtain ⟨q, hqk⟩ : ∃ p, pts (j + 1) = p := ⟨_, rfl⟩
      rw [hpk] at p0 p1 p2 hrp HX HY
      rw [hqk] at q0 q1 q2 hrq HX HY
      rw [HYP.out] at HX HY
      clear hpk hqk
      unfold Rg at hrp hrq
      have hal : 1 ≤ (x - y) * parts := by
        have := Int.mul_le_mul (show (1 : Int) ≤ x - y by omega) (show (1 : Int) ≤ parts by omega) (by omega) (by omega)
        omega
      have hal2 := prod_bd (a := x - y) (parts := parts) (by omega) (by omega) (by omega) hq.2
      have hyb := prod_bd hy0 (show y ≤ 5469300 by omega) (show (0 : Int) ≤ parts by omega) hq.2
      rw [HYP.out] at hyb
      have hyz : y < 1 → yp = 0 := fun h => by rw [← HYP.out, show y = 0 by omega, Int.zero_mul]
      obtain ⟨rest, hrest⟩ : ∃ z, want - yp = z := ⟨_, rfl⟩
      obtain ⟨al, hale⟩ : ∃ z, (x - y) * parts = z := ⟨_, rfl⟩
      rw [hrest, hale] at HX HY
      rw [hale] at hal hal2
      have hrb : 0 ≤ rest ∧ rest ≤ 5469300000 := by omega
      have hmx := mul_bd2 (x := q.1 - p.1) (y := rest) (B := 4095) (C := 5469300000) (by omega) (by omega) hrb.1 hrb.2
      have hmy := mul_bd2 (x := q.2.1 - p.2.1) (y := rest) (B := 4095) (C := 5469300000) (by omega) (by omega) hrb.1 hrb.2
      obtain ⟨mx, hmxe⟩ : ∃ z, (q.1 - p.1) * rest = z := ⟨_, rfl⟩
      obtain ⟨my, hmye⟩ : ∃ z, (q.2.1 - p.2.1) * rest = z := ⟨_, rfl⟩
      rw [hmxe] at HX hmx
      rw [hmye] at HY hmy
      have hnx := down_le (n := 2 * mx + al) (d := 2 * al) (B := 100000000000000) (by omega) (by omega) (by omega)
      have hny := down_le (n := 2 * my + al) (d := 2 * al) (B := 100000000000000) (by omega) (by omega) (by omega)
      rw [show (2 * mx + al) / (2 * al) = nr mx al from rfl] at hnx
      rw [show (2 * my + al) / (2 * al) = nr my al from rfl] at hny
      generalize hvx : nr mx al = vx at *
      generalize hvy : nr my al = vy at *
      have HBX := Lib.hid (fun W => between_calls p.1 q.1 rest al (q.1 - p.1) mx vx rfl hmxe hvx (by omega) (by omega) (by omega) (by omega) (by omega) (by omega) W)
      have HBY := Lib.hid (fun W => between_calls p.2.1 q.2.1 rest al (q.2.1 - p.2.1) my vy rfl hmye hvy (by omega) (by omega) (by omega) (by omega) (by omega) (by omega) W)
      obtain ⟨dxy, hdxy⟩ : ∃ z, x - y = z := ⟨_, rfl⟩
      rw [hdxy] at hale
      have G1 : IntKind.i64.wrap (y * parts) = yp := by rw [HYP.out]; exact IntWalk.i64_in _ (by omega)
      have G2 : IntKind.i64.wrap (want - yp) = rest := by rw [hrest]; exact IntWalk.i64_in _ (by omega)
      have G3 : IntKind.i64.wrap (x - y) = dxy := by rw [hdxy]; exact IntWalk.i64_in _ (by omega)
      have G4 : IntKind.i64.wrap (dxy * parts) = al := by rw [hale]; exact IntWalk.i64_in _ (by omega)
      have G1' : wrap64 (y * parts) = yp := by rw [← IntWalk.i64_left]; exact G1
      have G2' : wrap64 (want - yp) = rest := by rw [← IntWalk.i64_left]; exact G2
      have hji : ((j + 1 : Nat) : Int) < ((N + 1 : Nat) : Int) := by omega
      have hji2 : (j : Int) + 1 < (N : Int) + 1 := by omega
      have hji3 : (j : Int) < (N : Int) + 1 := by omega
      have hji4 : (j : Int) < (N : Int) := by omega
      have hji5 : j < N := by omega
      have hjn : j < N + 1 := by omega
      have hj00 : (0 : Int) ≤ (j : Int) + 1 := by omega
      have hw1 : IntKind.i64.wrap (j : Int) = (j : Int) := IntWalk.i64_in _ (by omega)
      have hne : ¬ ((j + 1 : Nat) : Int) = ((N + 1 : Nat) : Int) := by omega
      have hne2 : (((j + 1 : Nat) : Int) == ((N + 1 : Nat) : Int)) = false := by simp; omega
      have hne3 : ¬ j = N := by omega
      have HSS := Lib.hid (show ∀ W, Below wc.heap.size wc W → (Below wc.heap.size wc W ∧ W.cell? ⟨w.heap.size, 0, none⟩ = some (.slice (some ⟨ga, oa, none⟩) (N + 1) c) ∧ W.cell? ⟨ga, oa + j * 3, none⟩ = some (.int .i64 p.1) ∧ W.cell? ⟨ga, oa + j * 3 + 1, none⟩ = some (.int .i64 p.2.1) ∧ W.cell? ⟨ga, oa + j * 3 + 2, none⟩ = some (.int .i64 p.2.2) ∧ W.cell? ⟨ga, oa + (j + 1) * 3, none⟩ = some (.int .i64 q.1) ∧ W.cell? ⟨ga, oa + (j + 1) * 3 + 1, none⟩ = some (.int .i64 q.2.1) ∧ W.cell? ⟨ga, oa + (j + 1) * 3 + 2, none⟩ = some (.int .i64 q.2.2)) from fun W hW => ⟨hW, (hW.cell (p := ⟨w.heap.size, 0, none⟩) uz).trans u0, (hW.cell (p := ⟨ga, oa + j * 3, none⟩) hga).trans p0, (hW.cell (p := ⟨ga, oa + j * 3 + 1, none⟩) hga).trans p1, (hW.cell (p := ⟨ga, oa + j * 3 + 2, none⟩) hga).trans p2, (hW.cell (p := ⟨ga, oa + (j + 1) * 3, none⟩) hga).trans q0, (hW.cell (p := ⟨ga, oa + (j + 1) * 3 + 1, none⟩) hga).trans q1, (hW.cell (p := ⟨ga, oa + (j + 1) * 3 + 2, none⟩) hga).trans q2⟩)
      have HKA := Lib.hid (show ∀ (W : World) (o : Obj), (Below wc.heap.size wc W ∧ W.cell? ⟨w.heap.size, 0, none⟩ = some (.slice (some ⟨ga, oa, none⟩) (N + 1) c) ∧ W.cell? ⟨ga, oa + j * 3, none⟩ = some (.int .i64 p.1) ∧ W.cell? ⟨ga, oa + j * 3 + 1, none⟩ = some (.int .i64 p.2.1) ∧ W.cell? ⟨ga, oa + j * 3 + 2, none⟩ = some (.int .i64 p.2.2) ∧ W.cell? ⟨ga, oa + (j + 1) * 3, none⟩ = some (.int .i64 q.1) ∧ W.cell? ⟨ga, oa + (j + 1) * 3 + 1, none⟩ = some (.int .i64 q.2.1) ∧ W.cell? ⟨ga, oa + (j + 1) * 3 + 2, none⟩ = some (.int .i64 q.2.2)) → (Below wc.heap.size wc (W.alloc o) ∧ (W.alloc o).cell? ⟨w.heap.size, 0, none⟩ = some (.slice (some ⟨ga, oa, none⟩) (N + 1) c) ∧ (W.alloc o).cell? ⟨ga, oa + j * 3, none⟩ = some (.int .i64 p.1) ∧ (W.alloc o).cell? ⟨ga, oa + j * 3 + 1, none⟩ = some (.int .i64 p.2.1) ∧ (W.alloc o).cell? ⟨ga, oa + j * 3 + 2, none⟩ = some (.int .i64 p.2.2) ∧ (W.alloc o).cell? ⟨ga, oa + (j + 1) * 3, none⟩ = some (.int .i64 q.1) ∧ (W.alloc o).cell? ⟨ga, oa + (j + 1) * 3 + 1, none⟩ = some (.int .i64 q.2.1) ∧ (W.alloc o).cell? ⟨ga, oa + (j + 1) * 3 + 2, none⟩ = some (.int .i64 q.2.2)) from fun W o h => HSS.out _ (h.1.alloc h.1.size o))
      have HB2 := Lib.hid (show ∀ a b : Obj, Below wc.heap.size wc ((wc.alloc a).alloc b).drew from fun a b => (below_alloc2 wc a b).drew)
      have hkw := HSS.out wc (Below.refl _ _)
      have hkd := HSS.out wc.drew (Below.refl _ _).drew
      clear hrest hale hdxy hmxe hmye hvx hvy hlo0' hhi2 hxy hal hyz hyb
      go_wp2
      go_cut [10, 11] (fun s6 s7 wx => ∃ b6 b7 : Nat, s6 = .pointer (some ⟨b6, 0, none⟩) ∧ s7 = .pointer (some ⟨b7, 0, none⟩) ∧ Below wc.heap.size wc wx ∧ b6 < wx.heap.size ∧ b7 < wx.heap.size ∧ wx.cell? ⟨b6, 0, none⟩ = some (.int .i64 p.1) ∧ wx.cell? ⟨b6, 1, none⟩ = some (.int .i64 p.2.1) ∧ wx.cell? ⟨b7, 0, none⟩ = some (.int .i64 q.1) ∧ wx.cell? ⟨b7, 1, none⟩ = some (.int .i64 q.2.1))
      case first =>
        clear HXD HYD HYP HK0 HK1 HX HY HBX HBY G1 G2 G3 G4 G1' G2' hne hne2 hne3 hx hx0 hy0 hyx hc hq hpa h1 hLN hwb hQb hrp hrq hal2 hrb hnx hny HLB HLO HHI HMO HWN HA HP HRG M0 M1 BWC hepos hen
        go_region_held3 (fun W => (Below wc.heap.size wc W ∧ W.cell? ⟨w.heap.size, 0, none⟩ = some (.slice (some ⟨ga, oa, none⟩) (N + 1) c) ∧ W.cell? ⟨ga, oa + j * 3, none⟩ = some (.int .i64 p.1) ∧ W.cell? ⟨ga, oa + j * 3 + 1, none⟩ = some (.int .i64 p.2.1) ∧ W.cell? ⟨ga, oa + j * 3 + 2, none⟩ = some (.int .i64 p.2.2) ∧ W.cell? ⟨ga, oa + (j + 1) * 3, none⟩ = some (.int .i64 q.1) ∧ W.cell? ⟨ga, oa + (j + 1) * 3 + 1, none⟩ = some (.int .i64 q.2.1) ∧ W.cell? ⟨ga, oa + (j + 1) * 3 + 2, none⟩ = some (.int .i64 q.2.2))) (first | assumption | exact hkw | exact hkd | exact HKA.out _ _ (by assumption) | exact HSS.out _ (HB2.out _ _) | go_keep) (fail)
        all_goals
          go_wp2_with fail
          go_meet
          refine ⟨_, _, rfl, rfl, HB2.out _ _, ?_, ?_, ?_, ?_, ?_, ?_⟩
          all_goals first | omega | (simp [World.drew]; done) | (simp [World.drew]; omega) | go_simp
      case rest =>
        obtain ⟨b6, b7, rfl, rfl, hB, z6, z7, x6, y6, x7, y7⟩ := hcut
        have hgz : g < wc.heap.size := Nat.lt_of_lt_of_le (Nat.lt_of_lt_of_le hg BWC.out.size) hB.size
        have kx := (hB.cell (p := ⟨g, j + 1, none⟩) (Nat.lt_of_lt_of_le hg BWC.out.size)).trans HK0.out
        have ky := (hB.cell (p := ⟨g, j, none⟩) (Nat.lt_of_lt_of_le hg BWC.out.size)).trans HK1.out
        have BW2 := Lib.hid (BWC.out.trans (hB.mono BWC.out.size))
        have P0 := Lib.hid ((hB.block _ (block_size M0.out)).trans M0.out)
        have P1 := Lib.hid ((hB.block _ (block_size M1.out)).trans M1.out)
        have v1 : wc.cell? ⟨w.heap.size, 1, none⟩ = some (.slice (some ⟨g, 0, none⟩) (N + 1) d) := by rw [cell_of_block P0.out]; rfl
        have vz := block_size P0.out
        clear hkw hkd HKA HSS HB2 hB u0 u1 uz M0 M1 BWC p0 p1 p2 q0 q1 q2 hga HK0 HK1
        go_wp2
        have c0 := cell_kept (w := wc) hgz kx
        have c1 := cell_kept (w := wc) hgz ky
        have t1 := cell_kept (w := wc) vz v1
        clear kx ky v1 G1 G2 G1' G2'
        refine wp_region_quiet_kept (by assumption) (by kernel_rfl) ?_
        repeat (first | go_big_quiet_step (fail) | quiet_step (fail))
        refine wpQuiet_nil ?_
        intro w4 hw'
        have hB : Below wc.heap.size wc w4 := by obtain ⟨⟨wk, hb0⟩, hw''⟩ := hw'; rw [hw'']; exact hb0
        have x6' := (hB.cell (p := ⟨b6, 0, none⟩) z6).trans x6
        have y6' := (hB.cell (p := ⟨b6, 1, none⟩) z6).trans y6
        have x7' := (hB.cell (p := ⟨b7, 0, none⟩) z7).trans x7
        have y7' := (hB.cell (p := ⟨b7, 1, none⟩) z7).trans y7
        have Q1 := Lib.hid ((hB.block _ (block_size P1.out)).trans P1.out)
        have BW4 := Lib.hid (BW2.out.trans (hB.mono BW2.out.size))
        clear hw' hB c0 c1 t1 G3 G4 x6 y6 x7 y7 P0 P1 BW2
        obtain ⟨w9, hw9⟩ : ∃ w9, w9 = w4.drew := ⟨_, rfl⟩
        have x6 : w9.cell? ⟨b6, 0, none⟩ = some (.int .i64 p.1) := by rw [hw9]; exact x6'
        have y6 : w9.cell? ⟨b6, 1, none⟩ = some (.int .i64 p.2.1) := by rw [hw9]; exact y6'
        have x7 : w9.cell? ⟨b7, 0, none⟩ = some (.int .i64 q.1) := by rw [hw9]; exact x7'
        have y7 : w9.cell? ⟨b7, 1, none⟩ = some (.int .i64 q.2.1) := by rw [hw9]; exact y7'
        have L0D := Lib.hid (show w9.heap[w.heap.size + 1]? = some (.cells #[.int .i64 0, .int .i64 0] 46 (0, 0)) by rw [hw9]; exact Q1.out)
        have BWD := Lib.hid (show Below w.heap.size w w9 by rw [hw9]; exact BW4.out.drew)
        clear x6' y6' x7' y7' Q1 BW4
        go_wp2
        refine wp_region_still_tail 15 (by assumption) (by kernel_rfl) ?_
        rw [show ({ w4 with drawn := w4.drawn + 1 } : World) = w9 from hw9.symm]
        clear hw9
        simp only [List.take_succ_cons, List.take_zero, List.drop_succ_cons, List.drop_zero]
        iterate 6 still_step
        still_call (HBX.out _)
        iterate 6 still_step
        still_call (HBY.out _)
        still_step
        refine wpStill_nil ?_
        clear x6 y6 x7 y7
        have r0 : w9.cell? ⟨w.heap.size + 1, 0, none⟩ = some (.int .i64 0) := by rw [cell_of_block L0D.out]; rfl
        have r1 : w9.cell? ⟨w.heap.size + 1, 1, none⟩ = some (.int .i64 0) := by rw [cell_of_block L0D.out]; rfl
        have rf := unfrozen_of_block L0D.out
        have rz := block_size L0D.out
        go_wp2
        exact bodyPost_ret (v := .agg #[.int .i64 (p.1 + vx), .int .i64 (p.2.1 + vy)]) (by simp [results, Try.results64, go_sem, r0, r1]) rfl ⟨by rw [HX.out, HY.out], (BWD.out.setCell (show w.heap.size ≤ w.heap.size + 1 by omega) _).setCell (show w.heap.size ≤ w.heap.size + 1 by omega) _⟩
    · obtain rfl : e = N + 1 := by omega
      obtain ⟨ga, oa, rfl, hga, p0, p1, p2⟩ := (HP.out.kept BWC.out) 0 (by omega)
      simp only [Nat.zero_mul, Nat.add_zero] at p0 p1 p2
      have HX := Lib.hid (show spX pts (N + 1) (N + 1) part parts = (pts 0).1 by unfold spX; rw [if_pos rfl])
      have HY := Lib.hid (show spY pts (N + 1) (N + 1) part parts = (pts 0).2.1 by unfold spY; rw [if_pos rfl])
      obtain ⟨p, hpk⟩ : ∃ p, pts 0 = p := ⟨_, rfl⟩
      rw [hpk] at p0 p1 p2 HX HY
      have HSPOT := Lib.hid (fun W => implSpot p.1 p.2.1 p.2.2 W)
      clear hpk
      go_wp2_with fail
      with_reducible refine (HSPOT.out _).mono ?_
      rintro e w3 ⟨rfl, hb⟩
      have BW3 := Lib.hid (BWC.out.trans (hb.mono BWC.out.size))
      have L0D := Lib.hid ((hb.block _ (block_size M1.out)).trans M1.out)
      have r0 : w3.cell? ⟨w.heap.size + 1, 0, none⟩ = some (.int .i64 0) := by rw [cell_of_block L0D.out]; rfl
      have r1 : w3.cell? ⟨w.heap.size + 1, 1, none⟩ = some (.int .i64 0) := by rw [cell_of_block L0D.out]; rfl
      have rf := unfrozen_of_block L0D.out
      have rz := block_size L0D.out
      clear hb u0 u1 p0 p1 p2
      go_wp2
      exact bodyPost_ret (v := .agg #[.int .i64 p.1, .int .i64 p.2.1]) (by simp [results, Try.results64, go_sem, r0, r1]) rfl ⟨by rw [HX.out, HY.out], (BW3.out.setCell (show w.heap.size ≤ w.heap.size + 1 by omega) _).setCell (show w.heap.size ≤ w.heap.size + 1 by omega) _⟩
end Go.Proofs.Ytmphnhffelfbgaa.spot
