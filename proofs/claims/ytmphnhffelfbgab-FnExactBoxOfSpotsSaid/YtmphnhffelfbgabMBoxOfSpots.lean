/-
  Proved: both functions that tell the box of places return the same box.
  Conditions: none.
-/
import Derived.Test.YtmphnhffelfbgabSpB
namespace Go.Proofs.Ytmphnhffelfbgab.wBoxOfSpots
open Go.ChangeShapes Go.WideShapes Go.ChangeAt Go.RowKit Go.Joins
open Go.Proofs.Ytmphnhffelfbgab.core Go.Proofs.Ytmphnhffelfbgab.stk Go.Proofs.Ytmphnhffelfbgab.seg Go.Proofs.Ytmphnhffelfbgab.all Go.Proofs.Ytmphnhffelfbgab.rown Go.Proofs.Ytmphnhffelfbgab.boxed Go.Proofs.Ytmphnhffelfbgab.sps Go.Proofs.Ytmphnhffelfbgab.box Go.Proofs.Ytmphnhffelfbgab.spB
set_option linter.unusedVariables false
set_option linter.unusedSimpArgs false
theorem set4 {w : World} {b T : Nat} {a0 a1 a2 a3 : Value} (h : w.heap[b]? = some (.cells #[a0, a1, a2, a3] T (0, 0))) (u0 u1 u2 u3 : Value) : ((((w.setCell ⟨b, 0, none⟩ u0).setCell ⟨b, 1, none⟩ u1).setCell ⟨b, 2, none⟩ u2).setCell ⟨b, 3, none⟩ u3).heap[b]? = some (.cells #[u0, u1, u2, u3] T (0, 0)) := by
  have s1 := block_setCell (i := 0) h u0
  have s2 := block_setCell (i := 1) s1 u1
  have s3 := block_setCell (i := 2) s2 u2
  have s4 := block_setCell (i := 3) s3 u3
  rw [s4]; rfl
theorem other4 {w : World} {b g : Nat} (h : ¬ g = b) (u0 u1 u2 u3 : Value) : ((((w.setCell ⟨b, 0, none⟩ u0).setCell ⟨b, 1, none⟩ u1).setCell ⟨b, 2, none⟩ u2).setCell ⟨b, 3, none⟩ u3).heap[g]? = w.heap[g]? := by
  rw [Below.heap_setCell _ _ _ _ (by simpa using h), Below.heap_setCell _ _ _ _ (by simpa using h), Below.heap_setCell _ _ _ _ (by simpa using h), Below.heap_setCell _ _ _ _ (by simpa using h)]
set_option maxRecDepth 100000 in
set_option maxHeartbeats 4000000 in
theorem spec_bad {c : Nat} (A : Option Addr) (n : Nat) (f : Nat → P2) (w : World) (hn : n ≤ 1048576) (hp : SpAt w A n f) (ha : ¬ ∀ i, i < n → inS (f i) = true) :
    Calls Try.prog 12 #[.slice A n c] w fun e w' => e = .returned (.tuple #[box 0 0 0 0, .int .i64 1]) ∧ Below w.heap.size w w' := by
  have B0 := Lib.hid (below_alloc1 w (.cells #[.int .i64 0, .int .i64 0, .int .i64 0, .int .i64 0] 25))
  have K0 := Lib.hid (heap_alloc_new w (.cells #[.int .i64 0, .int .i64 0, .int .i64 0, .int .i64 0] 25))
  have HP := Lib.hid hp
  have HA := Lib.hid ha
  clear hp ha
  obtain ⟨w0, hw0⟩ : ∃ v, v = w.alloc (.cells #[.int .i64 0, .int .i64 0, .int .i64 0, .int .i64 0] 25) := ⟨_, rfl⟩
  rw [← hw0] at B0 K0
  go_enter Try.func12, Try.ntmps12
  go_wp2
  rw [← hw0]
  clear hw0
  go_loopw [4] (fun i w' => ∃ k : Nat, k ≤ n ∧ i = .int .i64 (k : Int) ∧ Hid (∀ j, j < k → inS (f j) = true) ∧ Hid (Below w0.heap.size w0 w')) (fun i _ => n - (intOf i).toNat)
  case atStart => exact ⟨0, Nat.zero_le _, rfl, Lib.hid (fun j hj => absurd hj (by omega)), Lib.hid (Below.refl _ _)⟩
  case round =>
    obtain ⟨k, hk, rfl, HE, HB⟩ := hrel
    have BW := Lib.hid (B0.out.trans (HB.out.mono B0.out.size))
    have KW := Lib.hid ((HB.out.block _ (block_size K0.out)).trans K0.out)
    by_cases hlt : k < n
    · obtain ⟨g, o, rfl, hg, p0, p1⟩ := (HP.out.kept BW.out) k hlt
      have hli : (k : Int) < (n : Int) := by omega
      cases hs : inS (f k) with
      | true =>
        have HE2 := Lib.hid (show ∀ j, j < k + 1 → inS (f j) = true from fun j hj => by
          rcases Nat.lt_or_ge j k with h' | h'
          · exact HE.out j h'
          · obtain rfl : j = k := by omega
            exact hs)
        have HS := Lib.hid (fun W => spot_calls (f k) true hs W)
        obtain ⟨p, hpk⟩ : ∃ p, f k = p := ⟨_, rfl⟩
        rw [hpk] at p0 p1 HS
        clear hs hpk
        go_wp2_with fail
        with_reducible refine (HS.out _).mono ?_
        rintro e w2 ⟨rfl, hb⟩
        have HB2 := Lib.hid (HB.out.trans (hb.mono HB.out.size))
        clear hb p0 p1
        go_wp2
        go_roundw
        case rel => exact ⟨k + 1, by omega, by go_num, HE2, HB2⟩
        case measure => simp [intOf]; omega
      | false =>
        have HS := Lib.hid (fun W => spot_calls (f k) false hs W)
        obtain ⟨p, hpk⟩ : ∃ p, f k = p := ⟨_, rfl⟩
        rw [hpk] at p0 p1 HS
        clear hs hpk
        go_wp2_with fail
        with_reducible refine (HS.out _).mono ?_
        rintro e w2 ⟨rfl, hb⟩
        have B2 := Lib.hid (BW.out.trans (hb.mono BW.out.size))
        have L2 := Lib.hid ((hb.block _ (block_size KW.out)).trans KW.out)
        clear hb p0 p1
        have r0 : w2.cell? ⟨w.heap.size, 0, none⟩ = some (.int .i64 0) := by rw [cell_of_block L2.out]; rfl
        have r1 : w2.cell? ⟨w.heap.size, 1, none⟩ = some (.int .i64 0) := by rw [cell_of_block L2.out]; rfl
        have r2 : w2.cell? ⟨w.heap.size, 2, none⟩ = some (.int .i64 0) := by rw [cell_of_block L2.out]; rfl
        have r3 : w2.cell? ⟨w.heap.size, 3, none⟩ = some (.int .i64 0) := by rw [cell_of_block L2.out]; rfl
        have rf := unfrozen_of_block L2.out
        have rz : w.heap.size < w2.heap.size := block_size L2.out
        go_wp2
        exact bodyPost_ret (v := .tuple #[.agg #[.int .i64 (0), .int .i64 (0), .int .i64 (0), .int .i64 (0)], .int .i64 1]) (by simp [results, Try.results12, go_sem, r0, r1, r2, r3]) rfl ⟨rfl, (((B2.out.setCell (Nat.le_refl _) _).setCell (Nat.le_refl _) _).setCell (Nat.le_refl _) _).setCell (Nat.le_refl _) _⟩
    · obtain rfl : k = n := by omega
      exact absurd HE.out HA.out
set_option maxRecDepth 100000 in
set_option maxHeartbeats 4000000 in
theorem spec_empty {c : Nat} (A : Option Addr) (n : Nat) (f : Nat → P2) (w : World) (hn : n ≤ 1048576) (hp : SpAt w A n f) (ha : n = 0) :
    Calls Try.prog 12 #[.slice A n c] w fun e w' => e = .returned (.tuple #[box 0 0 0 0, .int .i64 6]) ∧ Below w.heap.size w w' := by
  have B0 := Lib.hid (below_alloc1 w (.cells #[.int .i64 0, .int .i64 0, .int .i64 0, .int .i64 0] 25))
  have K0 := Lib.hid (heap_alloc_new w (.cells #[.int .i64 0, .int .i64 0, .int .i64 0, .int .i64 0] 25))
  have HP := Lib.hid hp
  subst ha
  clear hp
  obtain ⟨w0, hw0⟩ : ∃ v, v = w.alloc (.cells #[.int .i64 0, .int .i64 0, .int .i64 0, .int .i64 0] 25) := ⟨_, rfl⟩
  rw [← hw0] at B0 K0
  go_enter Try.func12, Try.ntmps12
  go_wp2
  rw [← hw0]
  clear hw0
  go_loopw [4] (fun i w' => ∃ k : Nat, k ≤ 0 ∧ i = .int .i64 (k : Int) ∧ Hid (∀ j, j < k → inS (f j) = true) ∧ Hid (Below w0.heap.size w0 w')) (fun i _ => 0 - (intOf i).toNat)
  case atStart => exact ⟨0, Nat.zero_le _, rfl, Lib.hid (fun j hj => absurd hj (by omega)), Lib.hid (Below.refl _ _)⟩
  case round =>
    obtain ⟨k, hk, rfl, HE, HB⟩ := hrel
    have BW := Lib.hid (B0.out.trans (HB.out.mono B0.out.size))
    have KW := Lib.hid ((HB.out.block _ (block_size K0.out)).trans K0.out)
    by_cases hlt : k < 0
    · exact absurd hlt (by omega)
    · obtain rfl : k = 0 := by omega
      have r0 : wr.cell? ⟨w.heap.size, 0, none⟩ = some (.int .i64 0) := by rw [cell_of_block KW.out]; rfl
      have r1 : wr.cell? ⟨w.heap.size, 1, none⟩ = some (.int .i64 0) := by rw [cell_of_block KW.out]; rfl
      have r2 : wr.cell? ⟨w.heap.size, 2, none⟩ = some (.int .i64 0) := by rw [cell_of_block KW.out]; rfl
      have r3 : wr.cell? ⟨w.heap.size, 3, none⟩ = some (.int .i64 0) := by rw [cell_of_block KW.out]; rfl
      have rf := unfrozen_of_block KW.out
      have rz : w.heap.size < wr.heap.size := block_size KW.out
      go_wp2
      exact bodyPost_ret (v := .tuple #[.agg #[.int .i64 (0), .int .i64 (0), .int .i64 (0), .int .i64 (0)], .int .i64 6]) (by simp [results, Try.results12, go_sem, r0, r1, r2, r3]) rfl ⟨rfl, (((BW.out.setCell (Nat.le_refl _) _).setCell (Nat.le_refl _) _).setCell (Nat.le_refl _) _).setCell (Nat.le_refl _) _⟩
set_option maxRecDepth 100000 in
set_option maxHeartbeats 4000000 in
theorem spec_yes {c : Nat} (A : Option Addr) (n : Nat) (f : Nat → P2) (w : World) (hn : n ≤ 1048576) (hp : SpAt w A n f) (h0 : 1 ≤ n) (ha : ∀ i, i < n → inS (f i) = true) :
    Calls Try.prog 12 #[.slice A n c] w fun e w' => e = .returned (.tuple #[box (gX1 (f 0).1 (pf f) n) (gY1 (f 0).2 (pf f) n) (gX2 (f 0).1 (pf f) n) (gY2 (f 0).2 (pf f) n), .int .i64 0]) ∧ Below w.heap.size w w' := by
  have B0 := Lib.hid (below_alloc1 w (.cells #[.int .i64 0, .int .i64 0, .int .i64 0, .int .i64 0] 25))
  have K0 := Lib.hid (heap_alloc_new w (.cells #[.int .i64 0, .int .i64 0, .int .i64 0, .int .i64 0] 25))
  have HP := Lib.hid hp
  have HA := Lib.hid ha
  clear hp ha
  obtain ⟨w0, hw0⟩ : ∃ v, v = w.alloc (.cells #[.int .i64 0, .int .i64 0, .int .i64 0, .int .i64 0] 25) := ⟨_, rfl⟩
  rw [← hw0] at B0 K0
  go_enter Try.func12, Try.ntmps12
  go_wp2
  rw [← hw0]
  clear hw0
  go_loopw [4] (fun i w' => ∃ k : Nat, k ≤ n ∧ i = .int .i64 (k : Int) ∧ Hid (∀ j, j < k → inS (f j) = true) ∧ Hid (Below w0.heap.size w0 w')) (fun i _ => n - (intOf i).toNat)
  case atStart => exact ⟨0, Nat.zero_le _, rfl, Lib.hid (fun j hj => absurd hj (by omega)), Lib.hid (Below.refl _ _)⟩
  case round =>
    obtain ⟨k, hk, rfl, HE, HB⟩ := hrel
    have BW := Lib.hid (B0.out.trans (HB.out.mono B0.out.size))
    have KW := Lib.hid ((HB.out.block _ (block_size K0.out)).trans K0.out)
    by_cases hlt : k < n
    · obtain ⟨g, o, rfl, hg, p0, p1⟩ := (HP.out.kept BW.out) k hlt
      have hli : (k : Int) < (n : Int) := by omega
      have hs := HA.out k hlt
      have HE2 := Lib.hid (show ∀ j, j < k + 1 → inS (f j) = true from fun j hj => by
        rcases Nat.lt_or_ge j k with h' | h'
        · exact HE.out j h'
        · obtain rfl : j = k := by omega
          exact hs)
      have HS := Lib.hid (fun W => spot_calls (f k) true hs W)
      obtain ⟨p, hpk⟩ : ∃ p, f k = p := ⟨_, rfl⟩
      rw [hpk] at p0 p1 HS
      clear hs hpk
      go_wp2_with fail
      with_reducible refine (HS.out _).mono ?_
      rintro e w2 ⟨rfl, hb⟩
      have HB2 := Lib.hid (HB.out.trans (hb.mono HB.out.size))
      clear hb p0 p1
      go_wp2
      go_roundw
      case rel => exact ⟨k + 1, by omega, by go_num, HE2, HB2⟩
      case measure => simp [intOf]; omega
    · obtain rfl : k = n := by omega
      obtain ⟨g, o, rfl, hg, p0, p1⟩ := (HP.out.kept BW.out) 0 (by omega)
      simp only [Nat.zero_mul, Nat.add_zero] at p0 p1
      obtain ⟨p, hpk⟩ : ∃ p, f 0 = p := ⟨_, rfl⟩
      have HPK := Lib.hid hpk
      rw [hpk] at p0 p1
      have hn0 : ((k : Int) == 0) = false := by simp; omega
      have hn1 : (0 : Int) < (k : Int) := by omega
      have hnn : 0 < k := by omega
      clear hpk
      go_wp2
      go_region
      obtain ⟨w3, hw3⟩ : ∃ v, v = (wr.alloc (.cells #[.int .i64 p.1, .int .i64 p.2, .int .i64 p.1, .int .i64 p.2] 25)).drew := ⟨_, rfl⟩
      obtain ⟨b, hb⟩ : ∃ b, b = wr.heap.size := ⟨_, rfl⟩
      have BB := Lib.hid (show Below wr.heap.size wr w3 by rw [hw3]; exact (below_alloc1 wr _).drew)
      have B3 := Lib.hid (BW.out.trans (BB.out.mono BW.out.size))
      have K3 := Lib.hid (show w3.heap[b]? = some (.cells #[.int .i64 (gX1 p.1 (pf f) 1), .int .i64 (gY1 p.2 (pf f) 1), .int .i64 (gX2 p.1 (pf f) 1), .int .i64 (gY2 p.2 (pf f) 1)] 25 (0, 0)) by
        rw [hw3, hb]
        refine (heap_alloc_new wr _).trans ?_
        have e : pf f 0 = (p.1, p.2, 0) := by unfold pf; rw [HPK.out]
        simp only [gX1, gY1, gX2, gY2, e]
        rw [show min p.1 p.1 = p.1 by omega, show min p.2 p.2 = p.2 by omega, show max p.1 p.1 = p.1 by omega, show max p.2 p.2 = p.2 by omega])
      have L3 := Lib.hid ((BB.out.block _ (block_size KW.out)).trans KW.out)
      have HGZ := Lib.hid (show g < w.heap.size by
        obtain ⟨g', o', e', hg', -⟩ := HP.out 0 (by omega)
        injection e' with e'
        injection e' with e' e''
        subst e'
        exact hg')
      have HGB := Lib.hid (show g ≠ b by rw [hb]; have := HGZ.out; have := block_size KW.out; omega)
      have HNB := Lib.hid (show w.heap.size < b by rw [hb]; exact block_size KW.out)
      rw [← hw3, ← hb]
      clear hw3 hb p0 p1 hg BB KW BW K0 B0 HB HE
      have HPW := Lib.hid (show ∀ V, Below w.heap.size w V → SpAt V (some ⟨g, o, none⟩) k f from fun V hV => HP.out.kept hV)
      go_wp2
      go_loopw [6] (fun i w' => ∃ m : Nat, 1 ≤ m ∧ m ≤ k ∧ i = .int .i64 (m : Int) ∧ Hid (Below w.heap.size w w') ∧ Hid (w'.heap[w.heap.size]? = some (.cells #[.int .i64 0, .int .i64 0, .int .i64 0, .int .i64 0] 25 (0, 0))) ∧ Hid (w'.heap[b]? = some (.cells #[.int .i64 (gX1 p.1 (pf f) m), .int .i64 (gY1 p.2 (pf f) m), .int .i64 (gX2 p.1 (pf f) m), .int .i64 (gY2 p.2 (pf f) m)] 25 (0, 0)))) (fun i _ => k - (intOf i).toNat)
      case atStart => exact ⟨1, Nat.le_refl _, h0, rfl, B3, L3, K3⟩
      case round =>
        obtain ⟨m, hm1, hm, rfl, HB, HL, HK⟩ := hrel
        by_cases hmk : m < k
        · obtain ⟨g2, o2, e2, hg, q0, q1⟩ := (HPW.out _ HB.out) m hmk
          injection e2 with e2
          injection e2 with e2 e3
          subst e2 e3
          have hmi : (m : Int) < (k : Int) := by omega
          have hX1 := Lib.hid (show gX1 p.1 (pf f) (m + 1) = min (gX1 p.1 (pf f) m) (f m).1 from rfl)
          have hY1 := Lib.hid (show gY1 p.2 (pf f) (m + 1) = min (gY1 p.2 (pf f) m) (f m).2 from rfl)
          have hX2 := Lib.hid (show gX2 p.1 (pf f) (m + 1) = max (gX2 p.1 (pf f) m) (f m).1 from rfl)
          have hY2 := Lib.hid (show gY2 p.2 (pf f) (m + 1) = max (gY2 p.2 (pf f) m) (f m).2 from rfl)
          obtain ⟨q, hqk⟩ : ∃ q, f m = q := ⟨_, rfl⟩
          rw [hqk] at q0 q1 hX1 hY1 hX2 hY2
          clear hqk
          generalize gX1 p.1 (pf f) m = a0 at *
          generalize gY1 p.2 (pf f) m = b0 at *
          generalize gX2 p.1 (pf f) m = c0 at *
          generalize gY2 p.2 (pf f) m = d0 at *
          have x0 : wr.cell? ⟨b, 0, none⟩ = some (.int .i64 a0) := by rw [cell_of_block HK.out]; rfl
          have x1 : wr.cell? ⟨b, 1, none⟩ = some (.int .i64 b0) := by rw [cell_of_block HK.out]; rfl
          have x2 : wr.cell? ⟨b, 2, none⟩ = some (.int .i64 c0) := by rw [cell_of_block HK.out]; rfl
          have x3 : wr.cell? ⟨b, 3, none⟩ = some (.int .i64 d0) := by rw [cell_of_block HK.out]; rfl
          have xz := block_size HK.out
          clear HP HPW HA HPK K3 L3 B3
          have hmx := stk.mixed
          have hgw : g < wr.heap.size := hg
          go_wp2
          obtain ⟨w9, hw9⟩ : ∃ w9, w9 = wr.drew := ⟨_, rfl⟩
          have q0 : w9.cell? ⟨g, o + m * 2, none⟩ = some (.int .i64 q.1) := by rw [hw9]; exact q0
          have q1 : w9.cell? ⟨g, o + m * 2 + 1, none⟩ = some (.int .i64 q.2) := by rw [hw9]; exact q1
          have x0 : w9.cell? ⟨b, 0, none⟩ = some (.int .i64 a0) := by rw [hw9]; exact x0
          have x1 : w9.cell? ⟨b, 1, none⟩ = some (.int .i64 b0) := by rw [hw9]; exact x1
          have x2 : w9.cell? ⟨b, 2, none⟩ = some (.int .i64 c0) := by rw [hw9]; exact x2
          have x3 : w9.cell? ⟨b, 3, none⟩ = some (.int .i64 d0) := by rw [hw9]; exact x3
          have HB9 := Lib.hid (show Below w.heap.size w w9 by rw [hw9]; exact HB.out.drew)
          have HL9 := Lib.hid (show w9.heap[w.heap.size]? = some (.cells #[.int .i64 0, .int .i64 0, .int .i64 0, .int .i64 0] 25 (0, 0)) by rw [hw9]; exact HL.out)
          have HK9 := Lib.hid (show w9.heap[b]? = some (.cells #[.int .i64 a0, .int .i64 b0, .int .i64 c0, .int .i64 d0] 25 (0, 0)) by rw [hw9]; exact HK.out)
          have xz : b < w9.heap.size := by rw [hw9]; exact xz
          refine wp_region_still_tail 22 (by assumption) (by kernel_rfl) ?_
          rw [show ({ wr with drawn := wr.drawn + 1 } : World) = w9 from hw9.symm]
          clear hw9 HB HL HK
          simp only [List.take_succ_cons, List.take_zero, List.drop_succ_cons, List.drop_zero]
          iterate 22 still_step
          refine wpStill_nil ?_
          go_wp2_with fail
          with_reducible refine (join_calls a0 b0 c0 d0 q.1 q.2 q.1 q.2 _).mono ?_
          rintro e w4 ⟨rfl, hb⟩
          have HK2 := Lib.hid ((hb.block _ (block_size HK9.out)).trans HK9.out)
          have HL2 := Lib.hid ((hb.block _ (block_size HL9.out)).trans HL9.out)
          have HB2 := Lib.hid (HB9.out.trans (hb.mono HB9.out.size))
          clear hb x0 x1 x2 x3 xz q0 q1 HB9 HL9 HK9
          have y0 : w4.cell? ⟨b, 0, none⟩ = some (.int .i64 a0) := by rw [cell_of_block HK2.out]; rfl
          have y1 : w4.cell? ⟨b, 1, none⟩ = some (.int .i64 b0) := by rw [cell_of_block HK2.out]; rfl
          have y2 : w4.cell? ⟨b, 2, none⟩ = some (.int .i64 c0) := by rw [cell_of_block HK2.out]; rfl
          have y3 : w4.cell? ⟨b, 3, none⟩ = some (.int .i64 d0) := by rw [cell_of_block HK2.out]; rfl
          have yf := unfrozen_of_block HK2.out
          have yz := block_size HK2.out
          have hbz := Nat.le_of_lt HNB.out
          go_wp2
          go_roundw
          case rel => exact ⟨m + 1, by omega, by omega, by go_num, Lib.hid ((((HB2.out.setCell hbz _).setCell hbz _).setCell hbz _).setCell hbz _), Lib.hid ((other4 (by have := HNB.out; omega) _ _ _ _).trans HL2.out), Lib.hid (by rw [hX1.out, hY1.out, hX2.out, hY2.out]; exact set4 HK2.out _ _ _ _)⟩
          case measure => simp [intOf]; omega
        · obtain rfl : k = m := by omega
          have HPF := Lib.hid (show (f 0).1 = p.1 ∧ (f 0).2 = p.2 from by rw [HPK.out]; exact ⟨rfl, rfl⟩)
          obtain ⟨a0, ha0⟩ : ∃ x, gX1 p.1 (pf f) k = x := ⟨_, rfl⟩
          obtain ⟨b0, hb0⟩ : ∃ x, gY1 p.2 (pf f) k = x := ⟨_, rfl⟩
          obtain ⟨c0, hc0⟩ : ∃ x, gX2 p.1 (pf f) k = x := ⟨_, rfl⟩
          obtain ⟨d0, hd0⟩ : ∃ x, gY2 p.2 (pf f) k = x := ⟨_, rfl⟩
          rw [ha0, hb0, hc0, hd0] at HK
          have HEQ := Lib.hid (show box (gX1 (f 0).1 (pf f) k) (gY1 (f 0).2 (pf f) k) (gX2 (f 0).1 (pf f) k) (gY2 (f 0).2 (pf f) k) = box a0 b0 c0 d0 by rw [HPF.out.1, HPF.out.2, ha0, hb0, hc0, hd0])
          have x0 : wr.cell? ⟨b, 0, none⟩ = some (.int .i64 a0) := by rw [cell_of_block HK.out]; rfl
          have x1 : wr.cell? ⟨b, 1, none⟩ = some (.int .i64 b0) := by rw [cell_of_block HK.out]; rfl
          have x2 : wr.cell? ⟨b, 2, none⟩ = some (.int .i64 c0) := by rw [cell_of_block HK.out]; rfl
          have x3 : wr.cell? ⟨b, 3, none⟩ = some (.int .i64 d0) := by rw [cell_of_block HK.out]; rfl
          have xz := block_size HK.out
          have r0 : wr.cell? ⟨w.heap.size, 0, none⟩ = some (.int .i64 0) := by rw [cell_of_block HL.out]; rfl
          have r1 : wr.cell? ⟨w.heap.size, 1, none⟩ = some (.int .i64 0) := by rw [cell_of_block HL.out]; rfl
          have r2 : wr.cell? ⟨w.heap.size, 2, none⟩ = some (.int .i64 0) := by rw [cell_of_block HL.out]; rfl
          have r3 : wr.cell? ⟨w.heap.size, 3, none⟩ = some (.int .i64 0) := by rw [cell_of_block HL.out]; rfl
          have rf := unfrozen_of_block HL.out
          have rz := block_size HL.out
          clear ha0 hb0 hc0 hd0
          go_wp2
          exact bodyPost_ret (v := .tuple #[.agg #[.int .i64 a0, .int .i64 b0, .int .i64 c0, .int .i64 d0], .int .i64 0]) (by simp [results, Try.results12, go_sem, r0, r1, r2, r3]) rfl ⟨by rw [HEQ.out], (((HB.out.setCell (Nat.le_refl _) _).setCell (Nat.le_refl _) _).setCell (Nat.le_refl _) _).setCell (Nat.le_refl _) _⟩
set_option maxRecDepth 100000 in
set_option maxHeartbeats 4000000 in
theorem impl_calls {c : Nat} (A : Option Addr) (n : Nat) (f : Nat → P2) (x0 x1 x2 x3 cd : Int) (w : World) (hn : n ≤ 1048576) (hp : SpAt w A n f) (hc : (¬ (∀ i, i < n → inS (f i) = true) ∧ x0 = 0 ∧ x1 = 0 ∧ x2 = 0 ∧ x3 = 0 ∧ cd = 1) ∨ (n = 0 ∧ x0 = 0 ∧ x1 = 0 ∧ x2 = 0 ∧ x3 = 0 ∧ cd = 6) ∨ (1 ≤ n ∧ (∀ i, i < n → inS (f i) = true) ∧ x0 = gX1 (f 0).1 (pf f) n ∧ x1 = gY1 (f 0).2 (pf f) n ∧ x2 = gX2 (f 0).1 (pf f) n ∧ x3 = gY2 (f 0).2 (pf f) n ∧ cd = 0)) :
    Calls Try.prog 14 #[.slice A n c] w fun e w' => e = .returned (.tuple #[box x0 x1 x2 x3, .int .i64 cd]) ∧ Below w.heap.size w w' := by
  have B0 := Lib.hid (below_alloc1 w (.cells #[.int .i64 0, .int .i64 0, .int .i64 0, .int .i64 0] 25))
  have K0 := Lib.hid (heap_alloc_new w (.cells #[.int .i64 0, .int .i64 0, .int .i64 0, .int .i64 0] 25))
  have HP := Lib.hid hp
  have HC := Lib.hid hc
  obtain ⟨i0, hi0, hz0, hz1, hz2⟩ := rown.info_get infoPoint
  obtain ⟨cur, hcu, hmk⟩ := make3 n hn (w.alloc (.cells #[.int .i64 0, .int .i64 0, .int .i64 0, .int .i64 0] 25))
  have HCU := Lib.hid hcu
  clear hp hc hcu
  go_enter Try.func14, Try.ntmps14
  go_wp2
  obtain ⟨w1, hw1⟩ : ∃ v, v = w.alloc (.cells #[.int .i64 0, .int .i64 0, .int .i64 0, .int .i64 0] 25) := ⟨_, rfl⟩
  have HSZ := Lib.hid (show w1.heap.size = w.heap.size + 1 by rw [hw1]; simp)
  rw [← hw1] at B0 K0 ⊢
  clear hw1 hmk
  go_loopw [4, 12] (fun o i w' => ∃ (k d : Nat) (B : Option Addr), k ≤ n ∧ i = .int .i64 (k : Int) ∧ o = .slice B k d ∧ Hid (w'.ownsRow w1.heap.size 68 3 (.slice B k d) k (rws (row3 (pf f)) k)) ∧ Hid (Below w1.heap.size w1 w')) (fun _ i _ => n - (intOf i).toNat)
  case atStart => exact ⟨0, n, _, Nat.zero_le _, rfl, rfl, Lib.hid (by rw [← HSZ.out]; exact make_row3 _ _ _ _ HCU.out (by simp only [maxLen]; omega)), Lib.hid (below_alloc1 _ _)⟩
  case round =>
    obtain ⟨k, d, B, hk, rfl, rfl, HO, HB⟩ := hrel
    have BW := Lib.hid (B0.out.trans (HB.out.mono B0.out.size))
    have KW := Lib.hid ((HB.out.block _ (block_size K0.out)).trans K0.out)
    by_cases hlt : k < n
    · obtain ⟨g, o', rfl, hg, p0, p1⟩ := (HP.out.kept BW.out) k hlt
      have HE := Lib.hid (show rws (row3 (pf f)) (k + 1) = rws (row3 (pf f)) k ++ [.int .i64 (f k).1, .int .i64 (f k).2, .int .i64 0] from rfl)
      obtain ⟨p, hpk⟩ : ∃ p, f k = p := ⟨_, rfl⟩
      rw [hpk] at p0 p1 HE
      clear hpk
      have hli : (k : Int) < (n : Int) := by omega
      go_wp2_with (first
        | (go_at_call 43; (with_reducible refine (point_calls _ _ _).mono ?_); rintro e w3 ⟨rfl, hb⟩; have HK := Lib.hid ((below_alloc1 wr _).trans (hb.mono (below_alloc1 wr _).size)); clear hb; have HB3 := Lib.hid (HB.out.trans (HK.out.mono HB.out.size)); have HO3 := Lib.hid (rown.ownsRow_kept HO.out HK.out))
        | (at_builtin
           have z0 := rown.ownsRow_kept HO3.out (below_alloc1 w3 (.cells #[.int .i64 p.1, .int .i64 p.2, .int .i64 0] 68))
           have z2 : ∀ u ∈ [Value.int .i64 p.1, Value.int .i64 p.2, Value.int .i64 0], u.oneCell' = true := (by simp [Value.oneCell'])
           have z3 : k + 1 ≤ maxLen := (by simp only [maxLen]; omega)
           have z4 : (k + 1) * 24 ≤ 140737488355328 := (by omega)
           have z5 : w1.heap.size ≤ (w3.alloc (.cells #[.int .i64 p.1, .int .i64 p.2, .int .i64 0] 68)).heap.size := (Nat.le_trans HB3.out.size (by simp))
           refine wpList_append_lies (w3.alloc (.cells #[.int .i64 p.1, .int .i64 p.2, .int .i64 0] 68)) rfl _ _ 66 rfl w1.heap.size 68 i0 _ 3 24 Try.underlying66 hi0 hz0 hz1 hz2 rfl (by decide) (.slice B k d) k _ rfl z0 ⟨w3.heap.size, 0, none⟩ 1 1 [.int .i64 p.1, .int .i64 p.2, .int .i64 0] rfl rfl (three_new rfl) z2 (by decide) z3 z4 z5 _ rfl ?_
           intro g3 cap3 w5 hown hgr hat hlt3
           have HO4 := Lib.hid hown
           have HB4 := Lib.hid (HB3.out.trans (rown.under HO3.out HB3.out.size hgr))
           clear hown hgr hat z0 z2 z3 z4 z5))
      go_roundw
      case rel => exact ⟨k + 1, cap3, some ⟨g3, 0, none⟩, by omega, by go_num, rfl, Lib.hid (by rw [HE.out]; exact HO4.out), HB4⟩
      case measure => simp [intOf]; omega
    · obtain rfl : k = n := by omega
      have HPT := Lib.hid (pts_of_row HO.out)
      have hll : ∀ i, inP (pf f i) = inS (f i) := inP_pf f
      have HIN := Lib.hid (fun (r : Bool) (hr : r = true ↔ ∀ i, i < k → inS (f i) = true) => allIn2_calls B k d (pf f) r wr hn HPT.out (by rw [hr]; constructor <;> intro h i hi <;> simpa [hll] using h i hi))
      clear hll
      rcases HC.out with ⟨ha, rfl, rfl, rfl, rfl, rfl⟩ | ⟨rfl, rfl, rfl, rfl, rfl, rfl⟩ | ⟨h0, ha, h1, h2, h3, h4, rfl⟩
      · have HI := Lib.hid (HIN.out false (by simpa using ha))
        clear HIN HC ha
        go_wp2_with fail
        refine HI.out.mono ?_
        rintro e w2 ⟨rfl, hb⟩
        have B2 := Lib.hid (BW.out.trans (hb.mono BW.out.size))
        have L2 := Lib.hid ((hb.block _ (block_size KW.out)).trans KW.out)
        clear hb
        have r0 : w2.cell? ⟨w.heap.size, 0, none⟩ = some (.int .i64 0) := by rw [cell_of_block L2.out]; rfl
        have r1 : w2.cell? ⟨w.heap.size, 1, none⟩ = some (.int .i64 0) := by rw [cell_of_block L2.out]; rfl
        have r2 : w2.cell? ⟨w.heap.size, 2, none⟩ = some (.int .i64 0) := by rw [cell_of_block L2.out]; rfl
        have r3 : w2.cell? ⟨w.heap.size, 3, none⟩ = some (.int .i64 0) := by rw [cell_of_block L2.out]; rfl
        have rf := unfrozen_of_block L2.out
        have rz : w.heap.size < w2.heap.size := block_size L2.out
        go_wp2
        exact bodyPost_ret (v := .tuple #[.agg #[.int .i64 (0), .int .i64 (0), .int .i64 (0), .int .i64 (0)], .int .i64 1]) (by simp [results, Try.results14, go_sem, r0, r1, r2, r3]) rfl ⟨rfl, (((B2.out.setCell (Nat.le_refl _) _).setCell (Nat.le_refl _) _).setCell (Nat.le_refl _) _).setCell (Nat.le_refl _) _⟩
      · have HI := Lib.hid (HIN.out true (by simp))
        clear HIN HC
        go_wp2_with fail
        refine HI.out.mono ?_
        rintro e w2 ⟨rfl, hb⟩
        have B2 := Lib.hid (BW.out.trans (hb.mono BW.out.size))
        have L2 := Lib.hid ((hb.block _ (block_size KW.out)).trans KW.out)
        clear hb
        have r0 : w2.cell? ⟨w.heap.size, 0, none⟩ = some (.int .i64 0) := by rw [cell_of_block L2.out]; rfl
        have r1 : w2.cell? ⟨w.heap.size, 1, none⟩ = some (.int .i64 0) := by rw [cell_of_block L2.out]; rfl
        have r2 : w2.cell? ⟨w.heap.size, 2, none⟩ = some (.int .i64 0) := by rw [cell_of_block L2.out]; rfl
        have r3 : w2.cell? ⟨w.heap.size, 3, none⟩ = some (.int .i64 0) := by rw [cell_of_block L2.out]; rfl
        have rf := unfrozen_of_block L2.out
        have rz : w.heap.size < w2.heap.size := block_size L2.out
        go_wp2
        exact bodyPost_ret (v := .tuple #[.agg #[.int .i64 (0), .int .i64 (0), .int .i64 (0), .int .i64 (0)], .int .i64 6]) (by simp [results, Try.results14, go_sem, r0, r1, r2, r3]) rfl ⟨rfl, (((B2.out.setCell (Nat.le_refl _) _).setCell (Nat.le_refl _) _).setCell (Nat.le_refl _) _).setCell (Nat.le_refl _) _⟩
      · have HI := Lib.hid (HIN.out true (by simpa using ha))
        have HX := Lib.hid (And.intro h1 (And.intro h2 (And.intro h3 h4)))
        clear HIN HC h1 h2 h3 h4 ha
        have hn0 : ((k : Int) == 0) = false := by simp; omega
        have hn1 : (0 : Int) < (k : Int) := by omega
        have hnn : 0 < k := by omega
        go_wp2_with fail
        refine HI.out.mono ?_
        rintro e w2 ⟨rfl, hb⟩
        have B2 := Lib.hid (BW.out.trans (hb.mono BW.out.size))
        have L2 := Lib.hid ((hb.block _ (block_size KW.out)).trans KW.out)
        have HPT2 := Lib.hid (HPT.out.kept hb)
        clear hb HI HPT HO HB
        obtain ⟨g, o, rfl, hg, p0, p1, p2⟩ := HPT2.out 0 hnn
        simp only [Nat.zero_mul, Nat.add_zero] at p0 p1 p2
        have HBX := Lib.hid (fun W => boxAt_calls (pf f 0).1 (pf f 0).2.1 (pf f 0).2.2 W)
        have HGR := Lib.hid (fun W hW => grown_calls (f 0).1 (f 0).2 (f 0).1 (f 0).2 (some ⟨g, o, none⟩) k d (pf f) W (by omega) hW)
        go_wp2_with fail
        with_reducible refine (HBX.out _).mono ?_
        rintro e w3 ⟨rfl, hb⟩
        have B3 := Lib.hid (B2.out.trans (hb.mono B2.out.size))
        have L3 := Lib.hid ((hb.block _ (block_size L2.out)).trans L2.out)
        have HPT3 := Lib.hid (HPT2.out.kept hb)
        clear hb p0 p1 p2 hg
        go_wp2_with fail
        refine (HGR.out _ HPT3.out).mono ?_
        rintro e w4 ⟨rfl, hb⟩
        have B4 := Lib.hid (B3.out.trans (hb.mono B3.out.size))
        have L4 := Lib.hid ((hb.block _ (block_size L3.out)).trans L3.out)
        clear hb
        rw [← HX.out.1, ← HX.out.2.1, ← HX.out.2.2.1, ← HX.out.2.2.2]
        have r0 : w4.cell? ⟨w.heap.size, 0, none⟩ = some (.int .i64 0) := by rw [cell_of_block L4.out]; rfl
        have r1 : w4.cell? ⟨w.heap.size, 1, none⟩ = some (.int .i64 0) := by rw [cell_of_block L4.out]; rfl
        have r2 : w4.cell? ⟨w.heap.size, 2, none⟩ = some (.int .i64 0) := by rw [cell_of_block L4.out]; rfl
        have r3 : w4.cell? ⟨w.heap.size, 3, none⟩ = some (.int .i64 0) := by rw [cell_of_block L4.out]; rfl
        have rf := unfrozen_of_block L4.out
        have rz : w.heap.size < w4.heap.size := block_size L4.out
        go_wp2
        exact bodyPost_ret (v := .tuple #[.agg #[.int .i64 (x0), .int .i64 (x1), .int .i64 (x2), .int .i64 (x3)], .int .i64 0]) (by simp [results, Try.results14, go_sem, r0, r1, r2, r3]) rfl ⟨rfl, (((B4.out.setCell (Nat.le_refl _) _).setCell (Nat.le_refl _) _).setCell (Nat.le_refl _) _).setCell (Nat.le_refl _) _⟩
theorem meat (vs0 : Nat → Value) (g0 : Nat → Dat) (ht0 : tyrSpotS g0) :
    costRec 1 g0 ≤ 1048576 → ∃ (x0 x1 x2 x3 : Int) (r1 : Int), (∀ (W : World) (us0 : Nat → Value), ReadsRec W 1 us0 g0 → (∃ (A : Option Addr) (n c : Nat), us0 0 = .slice A n c ∧ n ≤ c) → Calls Try.prog 12 #[us0 0] W fun e W' => e = .returned (.tuple #[.agg #[.int .i64 x0, .int .i64 x1, .int .i64 x2, .int .i64 x3], .int .i64 r1]) ∧ Below W.heap.size W W') ∧ (∀ (W : World) (us0 : Nat → Value), ReadsRec W 1 us0 g0 → (∃ (A : Option Addr) (n c : Nat), us0 0 = .slice A n c ∧ n ≤ c) → Calls Try.prog 14 #[us0 0] W fun e W' => e = .returned (.tuple #[.agg #[.int .i64 x0, .int .i64 x1, .int .i64 x2, .int .i64 x3], .int .i64 r1]) ∧ Below W.heap.size W W') := by
  intro hq
  by_cases ha : ∀ i, i < spN g0 → inS (spF g0 i) = true
  · by_cases h9 : spN g0 = 0
    · exact ⟨_, _, _, _, _, fun W us0 h0 _ => by
      obtain ⟨A, c, e, hn, hp, -⟩ := reads_sps h0 ht0 hq
      rw [e]; exact spec_empty A _ _ W hn hp h9, fun W us0 h0 _ => by
      obtain ⟨A, c, e, hn, hp, -⟩ := reads_sps h0 ht0 hq
      rw [e]; exact impl_calls A _ _ _ _ _ _ _ W hn hp (.inr (.inl ⟨h9, rfl, rfl, rfl, rfl, rfl⟩))⟩
    · exact ⟨_, _, _, _, _, fun W us0 h0 _ => by
      obtain ⟨A, c, e, hn, hp, -⟩ := reads_sps h0 ht0 hq
      rw [e]; exact spec_yes A _ _ W hn hp (by omega) ha, fun W us0 h0 _ => by
      obtain ⟨A, c, e, hn, hp, -⟩ := reads_sps h0 ht0 hq
      rw [e]; exact impl_calls A _ _ _ _ _ _ _ W hn hp (.inr (.inr ⟨by omega, ha, rfl, rfl, rfl, rfl, rfl⟩))⟩
  · exact ⟨_, _, _, _, _, fun W us0 h0 _ => by
      obtain ⟨A, c, e, hn, hp, -⟩ := reads_sps h0 ht0 hq
      rw [e]; exact spec_bad A _ _ W hn hp ha, fun W us0 h0 _ => by
      obtain ⟨A, c, e, hn, hp, -⟩ := reads_sps h0 ht0 hq
      rw [e]; exact impl_calls A _ _ _ _ _ _ _ W hn hp (.inl ⟨ha, rfl, rfl, rfl, rfl, rfl⟩)⟩
end Go.Proofs.Ytmphnhffelfbgab.wBoxOfSpots
