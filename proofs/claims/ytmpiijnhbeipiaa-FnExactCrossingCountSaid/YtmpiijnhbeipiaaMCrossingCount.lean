/-
  Proved: both functions return the same number of crossings of two strokes.
  Conditions: none.
-/
import Derived.Test.YtmpiijnhbeipiaaMeet
import Derived.Test.YtmpiijnhbeipiaaLenI
namespace Go.Proofs.Ytmpiijnhbeipiaa.wCrossingCount
open Go.ChangeShapes Go.WideShapes Go.ChangeAt Go.RowKit Go.Joins
open Go.Proofs.Ytmpiijnhbeipiaa.core Go.Proofs.Ytmpiijnhbeipiaa.geoM Go.Proofs.Ytmpiijnhbeipiaa.stk Go.Proofs.Ytmpiijnhbeipiaa.seg Go.Proofs.Ytmpiijnhbeipiaa.side Go.Proofs.Ytmpiijnhbeipiaa.all Go.Proofs.Ytmpiijnhbeipiaa.lenS Go.Proofs.Ytmpiijnhbeipiaa.segs Go.Proofs.Ytmpiijnhbeipiaa.lenI Go.Proofs.Ytmpiijnhbeipiaa.meetS Go.Proofs.Ytmpiijnhbeipiaa.meetI Go.Proofs.Ytmpiijnhbeipiaa.meet
set_option linter.unusedVariables false
set_option linter.unusedSimpArgs false
/-- Whether segment i of the first stroke meets segment j of the second one. -/
def hit (P Q : Nat → P3) (i j : Nat) : Bool := meetB (P i) (P (i + 1)) (Q j) (Q (j + 1))
def row (P Q : Nat → P3) (i : Nat) : Nat → Nat
  | 0 => 0
  | j + 1 => row P Q i j + if hit P Q i j then 1 else 0
def tot (P Q : Nat → P3) (m : Nat) : Nat → Nat
  | 0 => 0
  | i + 1 => tot P Q m i + row P Q i m
theorem row_le (P Q : Nat → P3) (i : Nat) : ∀ j, row P Q i j ≤ j
  | 0 => Nat.le_refl _
  | j + 1 => by
    have := row_le P Q i j
    rw [row]
    split <;> omega
theorem tot_le (P Q : Nat → P3) (m : Nat) (hm : m ≤ 59) : ∀ i, tot P Q m i ≤ i * 59
  | 0 => Nat.le_refl _
  | i + 1 => by
    have h1 := tot_le P Q m hm i
    have h2 := row_le P Q i m
    rw [tot]
    omega
theorem row_yes {P Q : Nat → P3} {i j : Nat} (h : hit P Q i j = true) : row P Q i (j + 1) = row P Q i j + 1 := by rw [row, if_pos h]
theorem row_no {P Q : Nat → P3} {i j : Nat} (h : hit P Q i j = false) : row P Q i (j + 1) = row P Q i j := by rw [row, if_neg (by rw [h]; simp)]; rfl
set_option maxRecDepth 100000 in
set_option maxHeartbeats 4000000 in
theorem implCount {cA cB : Nat} (A : Option Addr) (n : Nat) (P : Nat → P3) (B : Option Addr) (k : Nat) (Q : Nat → P3) (w : World) (hn : n ≤ 1048576) (hk : k ≤ 1048576) (hp : PtsAt w A n P) (hq : PtsAt w B k Q) (hv : vS n P = true) (hu : vS k Q = true) :
    Calls Try.prog 29 #[.agg #[.slice A n cA], .agg #[.slice B k cB]] w fun e w' => e = .returned (.tuple #[.int .i64 (tot P Q (k - 1) (n - 1) : Nat), .int .i64 0]) ∧ Below w.heap.size w w' := by
  obtain ⟨h1, h60, -⟩ := vS_of hv
  obtain ⟨h1', h60', -⟩ := vS_of hu
  have HR := Lib.hid (vS_rg hv)
  have HR' := Lib.hid (vS_rg hu)
  have B0 := Lib.hid (below_alloc2 w (.cells #[.slice A n cA] 38) (.cells #[.slice B k cB] 38))
  have HP := Lib.hid (fun (V : World) (hV : Below w.heap.size w V) => hp.kept hV)
  have HQ := Lib.hid (fun (V : World) (hV : Below w.heap.size w V) => hq.kept hV)
  have HV1 := Lib.hid (fun (V : World) (hV : Below w.heap.size w V) => by have h := implValid_calls (c := cA) A n P V hn (hp.kept hV); rw [hv] at h; exact h)
  have HV2 := Lib.hid (fun (V : World) (hV : Below w.heap.size w V) => by have h := implValid_calls (c := cB) B k Q V hk (hq.kept hV); rw [hu] at h; exact h)
  have HG1 := Lib.hid (fun (V : World) (hV : Below w.heap.size w V) => segs_calls (c := cA) A n P V h1 h60 (hp.kept hV))
  have HG2 := Lib.hid (fun (V : World) (hV : Below w.heap.size w V) => segs_calls (c := cB) B k Q V h1' h60' (hq.kept hV))
  obtain ⟨m, hm⟩ : ∃ m, n - 1 = m := ⟨_, rfl⟩
  obtain ⟨l, hl⟩ : ∃ l, k - 1 = l := ⟨_, rfl⟩
  rw [hm] at HG1 ⊢
  rw [hl] at HG2 ⊢
  have hm59 : m ≤ 59 := by omega
  have hl59 : l ≤ 59 := by omega
  have HM := Lib.hid (show n = m + 1 by omega)
  have HL := Lib.hid (show k = l + 1 by omega)
  have HTL := Lib.hid (tot_le P Q l hl59)
  have C0 := Lib.hid (show ((w.alloc (.cells #[.slice A n cA] 38)).alloc (.cells #[.slice B k cB] 38)).cell? ⟨w.heap.size, 0, none⟩ = some (.slice A n cA) from cellA _ _ _ _ _ (by simp) (by simp))
  have C1 := Lib.hid (show ((w.alloc (.cells #[.slice A n cA] 38)).alloc (.cells #[.slice B k cB] 38)).cell? ⟨w.heap.size + 1, 0, none⟩ = some (.slice B k cB) from cellN _ _ _ _ _ _ (by simp) (by simp))
  have Z0 := Lib.hid (show w.heap.size + 1 < ((w.alloc (.cells #[.slice A n cA] 38)).alloc (.cells #[.slice B k cB] 38)).heap.size by simp)
  clear hp hq hv hu hm hl h1 h60 h1' h60' hn hk
  go_enter Try.func29, Try.ntmps29
  go_wp2_with fail
  refine (HV1.out _ B0.out).mono ?_
  rintro e w1 ⟨rfl, hb⟩
  have c0 := Lib.hid ((hb.cell (p := ⟨w.heap.size, 0, none⟩) (Nat.lt_of_succ_lt Z0.out)).trans C0.out)
  have c1 := (hb.cell (p := ⟨w.heap.size + 1, 0, none⟩) Z0.out).trans C1.out
  have z1 := Lib.hid (Nat.lt_of_lt_of_le Z0.out hb.size)
  have B1 := Lib.hid (B0.out.trans (hb.mono B0.out.size))
  clear hb C0 C1 Z0 HV1
  go_wp2_with fail
  refine (HV2.out _ B1.out).mono ?_
  rintro e w2 ⟨rfl, hb⟩
  have c2 := Lib.hid ((hb.cell (p := ⟨w.heap.size, 0, none⟩) (Nat.lt_of_succ_lt z1.out)).trans c0.out)
  have c3 := (hb.cell (p := ⟨w.heap.size + 1, 0, none⟩) z1.out).trans c1
  have z2 := Lib.hid (Nat.lt_of_lt_of_le z1.out hb.size)
  have B2 := Lib.hid (B1.out.trans (hb.mono B1.out.size))
  clear hb c0 c1 z1 HV2
  go_wp2_with fail
  refine (HG2.out _ B2.out).mono ?_
  rintro e w3 ⟨G2, d2, rfl, hs2, hb⟩
  have c4 := (hb.cell (p := ⟨w.heap.size, 0, none⟩) (Nat.lt_of_succ_lt z2.out)).trans c2.out
  have z3 := Lib.hid (Nat.lt_of_lt_of_le z2.out hb.size)
  have B3 := Lib.hid (B2.out.trans (hb.mono B2.out.size))
  have S2 := Lib.hid hs2
  clear hb c2 c3 z2 hs2 HG2
  go_wp2_with fail
  refine (HG1.out _ B3.out).mono ?_
  rintro e w4 ⟨G1, d1, rfl, hs1, hb⟩
  have S1 := Lib.hid hs1
  have S3 := Lib.hid (S2.out.kept hb)
  have B4 := Lib.hid (B3.out.trans (hb.mono B3.out.size))
  clear hb c4 z3 hs1 HG1 S2
  go_wp2
  go_loopw [6, 25] (fun s i w' => ∃ a : Nat, a ≤ m ∧ i = .int .i64 (a : Int) ∧ s = .int .i64 (tot P Q l a : Nat) ∧ Hid (Below w4.heap.size w4 w')) (fun _ i _ => m - (intOf i).toNat)
  case atStart => exact ⟨0, Nat.zero_le _, rfl, rfl, Lib.hid (Below.refl _ _)⟩
  case round =>
    obtain ⟨a, ha, rfl, rfl, HB⟩ := hrel
    by_cases hlt : a < m
    · obtain ⟨g, rfl, hg, q0, q1, q2, q3, q4, q5⟩ := (S1.out.kept HB.out) a hlt
      have HTA := Lib.hid (show tot P Q l (a + 1) = tot P Q l a + row P Q a l from rfl)
      have hta := HTL.out a
      have hai : (a : Int) < (m : Int) := by omega
      have hra := HR.out a (by have := HM.out; omega)
      have hrb := HR.out (a + 1) (by have := HM.out; omega)
      have HRA := Lib.hid hra
      have HRB := Lib.hid hrb
      clear hra hrb
      obtain ⟨T, hT⟩ : ∃ T, tot P Q l a = T := ⟨_, rfl⟩
      rw [hT] at HTA hta ⊢
      obtain ⟨p, hpk⟩ : ∃ p, P a = p := ⟨_, rfl⟩
      obtain ⟨p', hpk'⟩ : ∃ p', P (a + 1) = p' := ⟨_, rfl⟩
      rw [hpk] at q0 q1 q2 HRA
      rw [hpk'] at q3 q4 q5 HRB
      have HHIT := Lib.hid (fun j => (show meetB p p' (Q j) (Q (j + 1)) = hit P Q a j by unfold hit; rw [hpk, hpk']))
      clear hT hpk hpk'
      have BX := Lib.hid (below_alloc1 wr (.cells #[.int .i64 p.1, .int .i64 p.2.1, .int .i64 p.2.2, .int .i64 p'.1, .int .i64 p'.2.1, .int .i64 p'.2.2] 66))
      have BK := Lib.hid (heap_alloc_new wr (.cells #[.int .i64 p.1, .int .i64 p.2.1, .int .i64 p.2.2, .int .i64 p'.1, .int .i64 p'.2.1, .int .i64 p'.2.2] 66))
      go_wp2
      clear q0 q1 q2 q3 q4 q5
      obtain ⟨wo, hwo⟩ : ∃ wo : World, wo = wr.alloc (.cells #[.int .i64 p.1, .int .i64 p.2.1, .int .i64 p.2.2, .int .i64 p'.1, .int .i64 p'.2.1, .int .i64 p'.2.2] 66) := ⟨_, rfl⟩
      rw [← hwo] at BX BK ⊢
      obtain ⟨gr, hgr⟩ : ∃ gr, wr.heap.size = gr := ⟨_, rfl⟩
      rw [hgr] at BK ⊢
      have HBO := Lib.hid (HB.out.trans (BX.out.mono HB.out.size))
      clear BX hwo hgr
      go_loopw [6, 31] (fun s i w' => ∃ b : Nat, b ≤ l ∧ i = .int .i64 (b : Int) ∧ s = .int .i64 ((T + row P Q a b : Nat) : Int) ∧ Hid (Below wo.heap.size wo w')) (fun _ i _ => l - (intOf i).toNat)
      case atStart => exact ⟨0, Nat.zero_le _, rfl, by simp [row], Lib.hid (Below.refl _ _)⟩
      case round =>
        obtain ⟨b, hb, rfl, rfl, HC⟩ := hrel
        have HBK := Lib.hid ((HC.out.block _ (Array.getElem?_eq_some_iff.1 BK.out).1).trans BK.out)
        have HBC := Lib.hid (HBO.out.trans (HC.out.mono HBO.out.size))
        have hrl := row_le P Q a b
        by_cases hlt2 : b < l
        · obtain ⟨g', rfl, hg', q0, q1, q2, q3, q4, q5⟩ := (S3.out.kept HBC.out) b hlt2
          have hbi : (b : Int) < (l : Int) := by omega
          have k0 := (cell_of_block HBK.out 0).trans (show _ = some (Value.int .i64 p.1) from rfl)
          have k1 := (cell_of_block HBK.out 1).trans (show _ = some (Value.int .i64 p.2.1) from rfl)
          have k2 := (cell_of_block HBK.out 2).trans (show _ = some (Value.int .i64 p.2.2) from rfl)
          have k3 := (cell_of_block HBK.out 3).trans (show _ = some (Value.int .i64 p'.1) from rfl)
          have k4 := (cell_of_block HBK.out 4).trans (show _ = some (Value.int .i64 p'.2.1) from rfl)
          have k5 := (cell_of_block HBK.out 5).trans (show _ = some (Value.int .i64 p'.2.2) from rfl)
          have kz := (Array.getElem?_eq_some_iff.1 HBK.out).1
          have hh := HHIT.out b
          have HMT := Lib.hid (fun W => meets_calls p p' (Q b) (Q (b + 1)) HRA.out HRB.out (HR'.out b (by have := HL.out; omega)) (HR'.out (b + 1) (by have := HL.out; omega)) W)
          rw [hh] at HMT
          clear hh
          obtain ⟨q, hqk⟩ : ∃ q, Q b = q := ⟨_, rfl⟩
          obtain ⟨q', hqk'⟩ : ∃ q', Q (b + 1) = q' := ⟨_, rfl⟩
          rw [hqk] at q0 q1 q2 HMT
          rw [hqk'] at q3 q4 q5 HMT
          clear hqk hqk'
          cases hht : hit P Q a b with
          | true =>
            have HS := Lib.hid (row_yes hht)
            rw [hht] at HMT
            clear hht
            generalize row P Q a b = r at *
            go_wp2_with fail
            with_reducible refine (HMT.out _).mono ?_
            rintro e w6 ⟨rfl, hb6⟩
            have HC2 := Lib.hid (HC.out.trans (((below_alloc1 wr _).trans (hb6.mono (below_alloc1 wr _).size)).mono HC.out.size))
            clear hb6 q0 q1 q2 q3 q4 q5 k0 k1 k2 k3 k4 k5 HMT kz
            go_wp2
            go_roundw
            case rel => exact ⟨b + 1, by omega, by go_num, by rw [HS.out]; go_num, HC2⟩
            case measure => simp [intOf]; omega
          | false =>
            have HS := Lib.hid (row_no hht)
            rw [hht] at HMT
            clear hht
            generalize row P Q a b = r at *
            go_wp2_with fail
            with_reducible refine (HMT.out _).mono ?_
            rintro e w6 ⟨rfl, hb6⟩
            have HC2 := Lib.hid (HC.out.trans (((below_alloc1 wr _).trans (hb6.mono (below_alloc1 wr _).size)).mono HC.out.size))
            clear hb6 q0 q1 q2 q3 q4 q5 k0 k1 k2 k3 k4 k5 HMT kz
            go_wp2
            go_roundw
            case rel => exact ⟨b + 1, by omega, by go_num, by rw [HS.out]; go_num, HC2⟩
            case measure => simp [intOf]; omega
        · obtain rfl : l = b := by omega
          clear hrl
          go_wp2
          go_roundw
          case rel => exact ⟨a + 1, by omega, by go_num, by rw [HTA.out], HBC⟩
          case measure => simp [intOf]; omega
    · obtain rfl : m = a := by omega
      go_wp2
      go_ret2
      exact ⟨rfl, B4.out.trans (HB.out.mono B4.out.size)⟩
set_option maxRecDepth 100000 in
set_option maxHeartbeats 4000000 in
theorem specCount {cA cB : Nat} (x y : Nat) (A : Option Addr) (n : Nat) (P : Nat → P3) (B : Option Addr) (k : Nat) (Q : Nat → P3) (w : World) (h1 : 1 ≤ n) (h60 : n ≤ 60) (h1' : 1 ≤ k) (h60' : k ≤ 60) (hr : ∀ i, i < n → Rg (P i)) (hr' : ∀ i, i < k → Rg (Q i)) (hx : x < w.heap.size) (hy : y < w.heap.size) (hxs : w.cell? ⟨x, 0, none⟩ = some (.slice A n cA)) (hys : w.cell? ⟨y, 0, none⟩ = some (.slice B k cB)) (hp : PtsAt w A n P) (hq : PtsAt w B k Q) :
    Calls Try.prog 60 #[.pointer (some ⟨x, 0, none⟩), .pointer (some ⟨y, 0, none⟩)] w fun e w' => e = .returned (.int .i64 (tot P Q (k - 1) (n - 1) : Nat)) ∧ Below w.heap.size w w' := by
  have HP := Lib.hid hp
  have HQ := Lib.hid hq
  have HX := Lib.hid hxs
  have HY := Lib.hid hys
  have HR := Lib.hid hr
  have HR' := Lib.hid hr'
  obtain ⟨m, rfl⟩ : ∃ m, n = m + 1 := ⟨n - 1, by omega⟩
  obtain ⟨l, rfl⟩ : ∃ l, k = l + 1 := ⟨k - 1, by omega⟩
  rw [show m + 1 - 1 = m from rfl, show l + 1 - 1 = l from rfl]
  have HTL := Lib.hid (tot_le P Q l (by omega))
  have hmx := mixedO
  clear hp hq hxs hys hr hr'
  go_enter Try.func60, Try.ntmps60
  go_wp2
  go_loopw [5, 6] (fun s i w' => ∃ a : Nat, a ≤ m ∧ i = .int .i64 ((a + 1 : Nat) : Int) ∧ s = .int .i64 (tot P Q l a : Nat) ∧ Hid (Below w.heap.size w w')) (fun _ i _ => m + 1 - (intOf i).toNat)
  case atStart => exact ⟨0, Nat.zero_le _, rfl, rfl, Lib.hid (Below.refl _ _)⟩
  case round =>
    obtain ⟨a, ha, rfl, rfl, HB⟩ := hrel
    have xs := (HB.out.cell (p := ⟨x, 0, none⟩) hx).trans HX.out
    by_cases hlt : a < m
    · have HTA := Lib.hid (show tot P Q l (a + 1) = tot P Q l a + row P Q a l from rfl)
      have hta := HTL.out a
      have hai : (a : Int) + 1 < (m : Int) + 1 := by omega
      obtain ⟨T, hT⟩ : ∃ T, tot P Q l a = T := ⟨_, rfl⟩
      rw [hT] at HTA hta ⊢
      clear hT
      go_wp2
      clear xs
      obtain ⟨wo, hwo⟩ : ∃ wo : World, wo = wr := ⟨_, rfl⟩
      rw [← hwo] at HB ⊢
      clear hwo
      go_loopw [5, 7] (fun s i w' => ∃ b : Nat, b ≤ l ∧ i = .int .i64 ((b + 1 : Nat) : Int) ∧ s = .int .i64 ((T + row P Q a b : Nat) : Int) ∧ Hid (Below wo.heap.size wo w')) (fun _ i _ => l + 1 - (intOf i).toNat)
      case atStart => exact ⟨0, Nat.zero_le _, rfl, by simp [row], Lib.hid (Below.refl _ _)⟩
      case round =>
        obtain ⟨b, hb, rfl, rfl, HC⟩ := hrel
        have HBC := Lib.hid (HB.out.trans (HC.out.mono HB.out.size))
        have ys := (HBC.out.cell (p := ⟨y, 0, none⟩) hy).trans HY.out
        have hrl := row_le P Q a b
        by_cases hlt2 : b < l
        · have HPK := Lib.hid (HP.out.kept HBC.out)
          have HQK := Lib.hid (HQ.out.kept HBC.out)
          obtain ⟨g, o', rfl, hg, p0, p1, p2⟩ := HPK.out a (by omega)
          obtain ⟨g2, o2, e2, -, q0, q1, q2⟩ := HPK.out (a + 1) (by omega)
          injection e2 with e2
          injection e2 with e2 e3
          subst e2 e3
          obtain ⟨g', o'', rfl, hg', r0, r1, r2⟩ := HQK.out b (by omega)
          obtain ⟨g2, o2, e2, -, t0, t1, t2⟩ := HQK.out (b + 1) (by omega)
          injection e2 with e2
          injection e2 with e2 e3
          subst e2 e3
          have hbi : (b : Int) + 1 < (l : Int) + 1 := by omega
          have HMT := Lib.hid (fun W => meetS.meet_calls (P a) (P (a + 1)) (Q b) (Q (b + 1)) (HR.out a (by omega)) (HR.out (a + 1) (by omega)) (HR'.out b (by omega)) (HR'.out (b + 1) (by omega)) W)
          rw [meet_eq, show meetB (P a) (P (a + 1)) (Q b) (Q (b + 1)) = hit P Q a b from rfl] at HMT
          have hxz : x < wr.heap.size := Nat.lt_of_lt_of_le hx HBC.out.size
          have hyz : y < wr.heap.size := Nat.lt_of_lt_of_le hy HBC.out.size
          have xs := (HBC.out.cell (p := ⟨x, 0, none⟩) hx).trans HX.out
          obtain ⟨p, hpk⟩ : ∃ p, P a = p := ⟨_, rfl⟩
          obtain ⟨q, hqk⟩ : ∃ q, P (a + 1) = q := ⟨_, rfl⟩
          obtain ⟨r, hrk⟩ : ∃ r, Q b = r := ⟨_, rfl⟩
          obtain ⟨t, htk⟩ : ∃ t, Q (b + 1) = t := ⟨_, rfl⟩
          rw [hpk] at p0 p1 p2
          rw [hqk] at q0 q1 q2
          rw [hrk] at r0 r1 r2
          rw [htk] at t0 t1 t2
          rw [hpk, hqk, hrk, htk] at HMT
          clear hpk hqk hrk htk HPK HQK
          have C0 := Lib.hid (And.intro p0 (And.intro p1 (And.intro p2 (And.intro q0 (And.intro q1 q2)))))
          have D0 := Lib.hid (And.intro r0 (And.intro r1 (And.intro r2 (And.intro t0 (And.intro t1 t2)))))
          clear p0 p1 p2 q0 q1 q2 r0 r1 r2 t0 t1 t2
          have ha1 : a < m + 1 := by omega
          have hb1 : b < l + 1 := by omega
          have ha2 : IntKind.i64.wrap (a : Int) = (a : Int) := IntWalk.i64_in _ (by omega)
          have hb2 : IntKind.i64.wrap (b : Int) = (b : Int) := IntWalk.i64_in _ (by omega)
          have ha3 : (0 : Int) ≤ (a : Int) + 1 := by omega
          have hb3 : (0 : Int) ≤ (b : Int) + 1 := by omega
          have ha4 : (a : Int) < (m : Int) + 1 := by omega
          have hb4 : (b : Int) < (l : Int) + 1 := by omega
          go_wp2
          clear ys
          have c0 := cell_kept (w := wr) (a := ⟨g, o' + a * 3, none⟩) hg C0.out.1
          have c1 := cell_kept (w := wr) (a := ⟨g, o' + a * 3 + 1, none⟩) hg C0.out.2.1
          have c2 := cell_kept (w := wr) (a := ⟨g, o' + a * 3 + 2, none⟩) hg C0.out.2.2.1
          have c3 := cell_kept (w := wr) (a := ⟨g, o' + (a + 1) * 3, none⟩) hg C0.out.2.2.2.1
          have c4 := cell_kept (w := wr) (a := ⟨g, o' + (a + 1) * 3 + 1, none⟩) hg C0.out.2.2.2.2.1
          have c5 := cell_kept (w := wr) (a := ⟨g, o' + (a + 1) * 3 + 2, none⟩) hg C0.out.2.2.2.2.2
          have d0 := cell_kept (w := wr) (a := ⟨g', o'' + b * 3, none⟩) hg' D0.out.1
          have d1 := cell_kept (w := wr) (a := ⟨g', o'' + b * 3 + 1, none⟩) hg' D0.out.2.1
          have d2 := cell_kept (w := wr) (a := ⟨g', o'' + b * 3 + 2, none⟩) hg' D0.out.2.2.1
          have d3 := cell_kept (w := wr) (a := ⟨g', o'' + (b + 1) * 3, none⟩) hg' D0.out.2.2.2.1
          have d4 := cell_kept (w := wr) (a := ⟨g', o'' + (b + 1) * 3 + 1, none⟩) hg' D0.out.2.2.2.2.1
          have d5 := cell_kept (w := wr) (a := ⟨g', o'' + (b + 1) * 3 + 2, none⟩) hg' D0.out.2.2.2.2.2
          have xk := cell_kept (w := wr) (a := ⟨x, 0, none⟩) hxz xs
          have yk := cell_kept (w := wr) (a := ⟨y, 0, none⟩) hyz ((HBC.out.cell (p := ⟨y, 0, none⟩) hy).trans HY.out)
          clear xs
          have HS1 := Lib.hid (fun h => row_yes (P := P) (Q := Q) (i := a) (j := b) h)
          have HS2 := Lib.hid (fun h => row_no (P := P) (Q := Q) (i := a) (j := b) h)
          generalize row P Q a b = rr at *
          generalize hhit : hit P Q a b = hh at *
          clear hhit
          cases hh
          all_goals
            refine wp_region_quiet_kept (by assumption) (by kernel_rfl) ?_
            repeat (first | go_big_quiet_step ((go_at_call 58; (with_reducible exact Calls.kept_of (HMT.out _)))) | quiet_step ((go_at_call 58; (with_reducible exact Calls.kept_of (HMT.out _)))))
            refine wpQuiet_nil ?_
            intro w6 hw'
            have hB : Below wr.heap.size wr w6 := by obtain ⟨⟨wk, hb0⟩, hw''⟩ := hw'; rw [hw'']; exact hb0
            have HC2 := Lib.hid (HC.out.trans (hB.mono HC.out.size))
            clear hw' hB c0 c1 c2 c3 c4 c5 d0 d1 d2 d3 d4 d5 xk yk ha2 hb2
            go_wp2
            go_roundw
            case rel => exact ⟨b + 1, by omega, by omega, by first | (rw [HS1.out (by first | rfl | trivial)]; omega) | rw [HS2.out (by first | rfl | trivial)]⟩
            case measure => simp [intOf]; omega
        · obtain rfl : l = b := by omega
          clear hrl
          go_wp2
          go_roundw
          case rel => exact ⟨a + 1, by omega, by go_num, by rw [HTA.out], HBC⟩
          case measure => simp [intOf]; omega
    · obtain rfl : m = a := by omega
      go_wp2
      go_ret
      exact ⟨rfl, HB.out⟩
/-- The strokes' boxes, and nothing else turned. -/
structure TwoS (w : World) (A : Option Addr) (n cA : Nat) (B : Option Addr) (k cB : Nat) (W : World) : Prop where
  below : Below w.heap.size w W
  z : w.heap.size + 1 < W.heap.size
  s0 : W.cell? ⟨w.heap.size, 0, none⟩ = some (.slice A n cA)
  s1 : W.cell? ⟨w.heap.size + 1, 0, none⟩ = some (.slice B k cB)
theorem TwoS.kept {w : World} {A B : Option Addr} {n cA k cB : Nat} {W W' : World} (h : TwoS w A n cA B k cB W) (hb : Below W.heap.size W W') : TwoS w A n cA B k cB W' := by
  have z := h.z
  have kk : ∀ (x q : Nat), x ≤ w.heap.size + 1 → W'.cell? ⟨x, q, none⟩ = W.cell? ⟨x, q, none⟩ := fun x q hx => hb.cell (p := ⟨x, q, none⟩) (by show x < _; omega)
  exact ⟨h.below.trans (hb.mono h.below.size), Nat.lt_of_lt_of_le z hb.size, (kk _ _ (by omega)).trans h.s0, (kk _ _ (by omega)).trans h.s1⟩
theorem TwoS.start (w : World) (A B : Option Addr) (n cA k cB : Nat) : TwoS w A n cA B k cB ((w.alloc (.cells #[.slice A n cA] 38)).alloc (.cells #[.slice B k cB] 38)) :=
  ⟨below_alloc2 w _ _, by simp, cellA _ _ _ _ _ (by simp) (by simp), cellN _ _ _ _ _ _ (by simp) (by simp)⟩
set_option maxRecDepth 100000 in
set_option maxHeartbeats 4000000 in
theorem spec_no0 {cA cB : Nat} (A : Option Addr) (n : Nat) (P : Nat → P3) (B : Option Addr) (k : Nat) (Q : Nat → P3) (w : World) (hn : n ≤ 1048576) (hk : k ≤ 1048576) (hp : PtsAt w A n P) (hq : PtsAt w B k Q) (hv : vS n P = false) :
    Calls Try.prog 28 #[.agg #[.slice A n cA], .agg #[.slice B k cB]] w fun e w' => e = .returned (.tuple #[.int .i64 0, .int .i64 1]) ∧ Below w.heap.size w w' := by
  have F0 := Lib.hid (TwoS.start w A B n cA k cB)
  have HP0 := Lib.hid (hp.kept (below_alloc2 w (.cells #[.slice A n cA] 38) (.cells #[.slice B k cB] 38)))
  have HQ0 := Lib.hid (hq.kept (below_alloc2 w (.cells #[.slice A n cA] 38) (.cells #[.slice B k cB] 38)))
  have V0 := Lib.hid (l02Stroke_calls (c := cA) (o := 0) A w.heap.size n P ((w.alloc (.cells #[.slice A n cA] 38)).alloc (.cells #[.slice B k cB] 38)) hn (by have := F0.out.z; omega) F0.out.s0 HP0.out)
  rw [hv] at V0
  have hud : undef = Value.tuple #[] := rfl
  clear hp hq hv
  go_enter Try.func28, Try.ntmps28
  go_wp2_with fail
  refine V0.out.mono ?_
  rintro e w1 ⟨rfl, hb⟩
  have F1 := Lib.hid (F0.out.kept hb)
  have HP1 := Lib.hid (HP0.out.kept hb)
  have HQ1 := Lib.hid (HQ0.out.kept hb)
  have y0 := F1.out.s0
  have y1 := F1.out.s1
  clear hb
  clear hud y0 y1
  go_wp2
  go_ret2
  exact ⟨rfl, F1.out.below⟩
set_option maxRecDepth 100000 in
set_option maxHeartbeats 4000000 in
theorem spec_no1 {cA cB : Nat} (A : Option Addr) (n : Nat) (P : Nat → P3) (B : Option Addr) (k : Nat) (Q : Nat → P3) (w : World) (hn : n ≤ 1048576) (hk : k ≤ 1048576) (hp : PtsAt w A n P) (hq : PtsAt w B k Q) (hv : vS n P = true) (hu : vS k Q = false) :
    Calls Try.prog 28 #[.agg #[.slice A n cA], .agg #[.slice B k cB]] w fun e w' => e = .returned (.tuple #[.int .i64 0, .int .i64 1]) ∧ Below w.heap.size w w' := by
  have F0 := Lib.hid (TwoS.start w A B n cA k cB)
  have HP0 := Lib.hid (hp.kept (below_alloc2 w (.cells #[.slice A n cA] 38) (.cells #[.slice B k cB] 38)))
  have HQ0 := Lib.hid (hq.kept (below_alloc2 w (.cells #[.slice A n cA] 38) (.cells #[.slice B k cB] 38)))
  have V0 := Lib.hid (l02Stroke_calls (c := cA) (o := 0) A w.heap.size n P ((w.alloc (.cells #[.slice A n cA] 38)).alloc (.cells #[.slice B k cB] 38)) hn (by have := F0.out.z; omega) F0.out.s0 HP0.out)
  rw [hv] at V0
  clear hp hq hv
  go_enter Try.func28, Try.ntmps28
  go_wp2_with fail
  refine V0.out.mono ?_
  rintro e w1 ⟨rfl, hb⟩
  have F1 := Lib.hid (F0.out.kept hb)
  have HP1 := Lib.hid (HP0.out.kept hb)
  have HQ1 := Lib.hid (HQ0.out.kept hb)
  have y0 := F1.out.s0
  have y1 := F1.out.s1
  clear hb
  have V1 := Lib.hid (l02Stroke_calls (c := cB) (o := 0) B (w.heap.size + 1) k Q w1 hk (by have := F1.out.z; omega) F1.out.s1 HQ1.out)
  rw [hu] at V1
  clear hu
  go_wp2_with fail
  refine V1.out.mono ?_
  clear y0 y1
  rintro e w2 ⟨rfl, hb⟩
  have F2 := Lib.hid (F1.out.kept hb)
  have HP2 := Lib.hid (HP1.out.kept hb)
  have HQ2 := Lib.hid (HQ1.out.kept hb)
  have y0 := F2.out.s0
  have y1 := F2.out.s1
  clear hb
  clear y0 y1
  go_wp2
  go_ret2
  exact ⟨rfl, F2.out.below⟩
set_option maxRecDepth 100000 in
set_option maxHeartbeats 4000000 in
theorem impl_no0 {cA cB : Nat} (A : Option Addr) (n : Nat) (P : Nat → P3) (B : Option Addr) (k : Nat) (Q : Nat → P3) (w : World) (hn : n ≤ 1048576) (hk : k ≤ 1048576) (hp : PtsAt w A n P) (hq : PtsAt w B k Q) (hv : vS n P = false) :
    Calls Try.prog 29 #[.agg #[.slice A n cA], .agg #[.slice B k cB]] w fun e w' => e = .returned (.tuple #[.int .i64 0, .int .i64 1]) ∧ Below w.heap.size w w' := by
  have F0 := Lib.hid (TwoS.start w A B n cA k cB)
  have HP0 := Lib.hid (hp.kept (below_alloc2 w (.cells #[.slice A n cA] 38) (.cells #[.slice B k cB] 38)))
  have HQ0 := Lib.hid (hq.kept (below_alloc2 w (.cells #[.slice A n cA] 38) (.cells #[.slice B k cB] 38)))
  have V0 := Lib.hid (implValid_calls (c := cA) A n P ((w.alloc (.cells #[.slice A n cA] 38)).alloc (.cells #[.slice B k cB] 38)) hn HP0.out)
  rw [hv] at V0
  have hud : undef = Value.tuple #[] := rfl
  clear hp hq hv
  go_enter Try.func29, Try.ntmps29
  go_wp2_with fail
  refine V0.out.mono ?_
  rintro e w1 ⟨rfl, hb⟩
  have F1 := Lib.hid (F0.out.kept hb)
  have HP1 := Lib.hid (HP0.out.kept hb)
  have HQ1 := Lib.hid (HQ0.out.kept hb)
  have y0 := F1.out.s0
  have y1 := F1.out.s1
  clear hb
  clear hud y0 y1
  go_wp2
  go_ret2
  exact ⟨rfl, F1.out.below⟩
set_option maxRecDepth 100000 in
set_option maxHeartbeats 4000000 in
theorem impl_no1 {cA cB : Nat} (A : Option Addr) (n : Nat) (P : Nat → P3) (B : Option Addr) (k : Nat) (Q : Nat → P3) (w : World) (hn : n ≤ 1048576) (hk : k ≤ 1048576) (hp : PtsAt w A n P) (hq : PtsAt w B k Q) (hv : vS n P = true) (hu : vS k Q = false) :
    Calls Try.prog 29 #[.agg #[.slice A n cA], .agg #[.slice B k cB]] w fun e w' => e = .returned (.tuple #[.int .i64 0, .int .i64 1]) ∧ Below w.heap.size w w' := by
  have F0 := Lib.hid (TwoS.start w A B n cA k cB)
  have HP0 := Lib.hid (hp.kept (below_alloc2 w (.cells #[.slice A n cA] 38) (.cells #[.slice B k cB] 38)))
  have HQ0 := Lib.hid (hq.kept (below_alloc2 w (.cells #[.slice A n cA] 38) (.cells #[.slice B k cB] 38)))
  have V0 := Lib.hid (implValid_calls (c := cA) A n P ((w.alloc (.cells #[.slice A n cA] 38)).alloc (.cells #[.slice B k cB] 38)) hn HP0.out)
  rw [hv] at V0
  clear hp hq hv
  go_enter Try.func29, Try.ntmps29
  go_wp2_with fail
  refine V0.out.mono ?_
  rintro e w1 ⟨rfl, hb⟩
  have F1 := Lib.hid (F0.out.kept hb)
  have HP1 := Lib.hid (HP0.out.kept hb)
  have HQ1 := Lib.hid (HQ0.out.kept hb)
  have y0 := F1.out.s0
  have y1 := F1.out.s1
  clear hb
  have V1 := Lib.hid (implValid_calls (c := cB) B k Q w1 hk HQ1.out)
  rw [hu] at V1
  clear hu
  go_wp2_with fail
  refine V1.out.mono ?_
  clear y0 y1
  rintro e w2 ⟨rfl, hb⟩
  have F2 := Lib.hid (F1.out.kept hb)
  have HP2 := Lib.hid (HP1.out.kept hb)
  have HQ2 := Lib.hid (HQ1.out.kept hb)
  have y0 := F2.out.s0
  have y1 := F2.out.s1
  clear hb
  clear y0 y1
  go_wp2
  go_ret2
  exact ⟨rfl, F2.out.below⟩
set_option maxRecDepth 100000 in
set_option maxHeartbeats 4000000 in
theorem spec_yes {cA cB : Nat} (A : Option Addr) (n : Nat) (P : Nat → P3) (B : Option Addr) (k : Nat) (Q : Nat → P3) (w : World) (hn : n ≤ 1048576) (hk : k ≤ 1048576) (hp : PtsAt w A n P) (hq : PtsAt w B k Q) (hv : vS n P = true) (hu : vS k Q = true) :
    Calls Try.prog 28 #[.agg #[.slice A n cA], .agg #[.slice B k cB]] w fun e w' => e = .returned (.tuple #[.int .i64 (tot P Q (k - 1) (n - 1) : Nat), .int .i64 0]) ∧ Below w.heap.size w w' := by
  obtain ⟨h1, h60, -⟩ := vS_of hv
  obtain ⟨h1', h60', -⟩ := vS_of hu
  have HR := Lib.hid (vS_rg hv)
  have HR' := Lib.hid (vS_rg hu)
  have F0 := Lib.hid (TwoS.start w A B n cA k cB)
  have HP0 := Lib.hid (hp.kept (below_alloc2 w (.cells #[.slice A n cA] 38) (.cells #[.slice B k cB] 38)))
  have HQ0 := Lib.hid (hq.kept (below_alloc2 w (.cells #[.slice A n cA] 38) (.cells #[.slice B k cB] 38)))
  have V0 := Lib.hid (l02Stroke_calls (c := cA) (o := 0) A w.heap.size n P ((w.alloc (.cells #[.slice A n cA] 38)).alloc (.cells #[.slice B k cB] 38)) hn (by have := F0.out.z; omega) F0.out.s0 HP0.out)
  rw [hv] at V0
  clear hp hq hv
  go_enter Try.func28, Try.ntmps28
  go_wp2_with fail
  refine V0.out.mono ?_
  rintro e w1 ⟨rfl, hb⟩
  have F1 := Lib.hid (F0.out.kept hb)
  have HP1 := Lib.hid (HP0.out.kept hb)
  have HQ1 := Lib.hid (HQ0.out.kept hb)
  have y0 := F1.out.s0
  have y1 := F1.out.s1
  clear hb
  have V1 := Lib.hid (l02Stroke_calls (c := cB) (o := 0) B (w.heap.size + 1) k Q w1 hk (by have := F1.out.z; omega) F1.out.s1 HQ1.out)
  rw [hu] at V1
  clear hu
  go_wp2_with fail
  refine V1.out.mono ?_
  clear y0 y1
  rintro e w2 ⟨rfl, hb⟩
  have F2 := Lib.hid (F1.out.kept hb)
  have HP2 := Lib.hid (HP1.out.kept hb)
  have HQ2 := Lib.hid (HQ1.out.kept hb)
  have y0 := F2.out.s0
  have y1 := F2.out.s1
  clear hb
  go_wp2_with fail
  refine (specCount (cA := cA) (cB := cB) w.heap.size (w.heap.size + 1) A n P B k Q w2 h1 h60 h1' h60' HR.out HR'.out (by have := F2.out.z; omega) F2.out.z F2.out.s0 F2.out.s1 HP2.out HQ2.out).mono ?_
  clear y0 y1
  rintro e w3 ⟨rfl, hb⟩
  have F3 := Lib.hid (F2.out.kept hb)
  have HP3 := Lib.hid (HP2.out.kept hb)
  have HQ3 := Lib.hid (HQ2.out.kept hb)
  have y0 := F3.out.s0
  have y1 := F3.out.s1
  clear hb
  clear y0 y1
  go_wp2
  go_ret2
  exact ⟨rfl, F3.out.below⟩
theorem meat (vs0 : Nat → Value) (g0 : Nat → Dat) (vs1 : Nat → Value) (g1 : Nat → Dat) (ht0 : tyrStroke g0) (ht1 : tyrStroke g1) :
    costRec 1 g0 ≤ 1048576 → costRec 1 g1 ≤ 1048576 → ∃ (r0 : Int) (r1 : Int), (∀ (W : World) (us0 : Nat → Value) (us1 : Nat → Value), ReadsRec W 1 us0 g0 → ReadsRec W 1 us1 g1 → Calls Try.prog 28 #[.agg #[us0 0], .agg #[us1 0]] W fun e W' => e = .returned (.tuple #[.int .i64 r0, .int .i64 r1]) ∧ Below W.heap.size W W') ∧ (∀ (W : World) (us0 : Nat → Value) (us1 : Nat → Value), ReadsRec W 1 us0 g0 → ReadsRec W 1 us1 g1 → Calls Try.prog 29 #[.agg #[us0 0], .agg #[us1 0]] W fun e W' => e = .returned (.tuple #[.int .i64 r0, .int .i64 r1]) ∧ Below W.heap.size W W') := by
  intro hq0 hq1
  cases hv : vS (strN g0) (strP g0) with
  | true =>
    cases hu : vS (strN g1) (strP g1) with
    | true => exact ⟨_, _, fun W us0 us1 h0 h1 => by obtain ⟨A, c, e, hn, hp⟩ := reads_str h0 ht0 hq0; obtain ⟨B, c', e', hn', hp'⟩ := reads_str h1 ht1 hq1; rw [e, e']; exact spec_yes A _ _ B _ _ W hn hn' hp hp' hv hu, fun W us0 us1 h0 h1 => by obtain ⟨A, c, e, hn, hp⟩ := reads_str h0 ht0 hq0; obtain ⟨B, c', e', hn', hp'⟩ := reads_str h1 ht1 hq1; rw [e, e']; exact implCount A _ _ B _ _ W hn hn' hp hp' hv hu⟩
    | false => exact ⟨_, _, fun W us0 us1 h0 h1 => by obtain ⟨A, c, e, hn, hp⟩ := reads_str h0 ht0 hq0; obtain ⟨B, c', e', hn', hp'⟩ := reads_str h1 ht1 hq1; rw [e, e']; exact spec_no1 A _ _ B _ _ W hn hn' hp hp' hv hu, fun W us0 us1 h0 h1 => by obtain ⟨A, c, e, hn, hp⟩ := reads_str h0 ht0 hq0; obtain ⟨B, c', e', hn', hp'⟩ := reads_str h1 ht1 hq1; rw [e, e']; exact impl_no1 A _ _ B _ _ W hn hn' hp hp' hv hu⟩
  | false => exact ⟨_, _, fun W us0 us1 h0 h1 => by obtain ⟨A, c, e, hn, hp⟩ := reads_str h0 ht0 hq0; obtain ⟨B, c', e', hn', hp'⟩ := reads_str h1 ht1 hq1; rw [e, e']; exact spec_no0 A _ _ B _ _ W hn hn' hp hp' hv, fun W us0 us1 h0 h1 => by obtain ⟨A, c, e, hn, hp⟩ := reads_str h0 ht0 hq0; obtain ⟨B, c', e', hn', hp'⟩ := reads_str h1 ht1 hq1; rw [e, e']; exact impl_no0 A _ _ B _ _ W hn hn' hp hp' hv⟩
end Go.Proofs.Ytmpiijnhbeipiaa.wCrossingCount
