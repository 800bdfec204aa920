/-
  Proved: both functions that write a stroke backwards return the same stroke, in memory of its own.
  Conditions: none.
-/
import Derived.Test.YtmphnhffelfbgaaClone
import Derived.Test.YtmphnhffelfbgaaMThinStroke
import Derived.Test.YtmphnhffelfbgaaWid
import Derived.Test.YtmphnhffelfbgaaRev
import Derived.BigRegion
import Derived.Deep.RegionHeldLaw
namespace Go.Proofs.Ytmphnhffelfbgaa.wReverseStroke
open Go.ChangeShapes Go.WideShapes Go.ChangeAt Go.RowKit Go.Joins
open Go.Proofs.Ytmphnhffelfbgaa.core Go.Proofs.Ytmphnhffelfbgaa.geoM Go.Proofs.Ytmphnhffelfbgaa.stk Go.Proofs.Ytmphnhffelfbgaa.seg Go.Proofs.Ytmphnhffelfbgaa.side Go.Proofs.Ytmphnhffelfbgaa.all Go.Proofs.Ytmphnhffelfbgaa.lenS Go.Proofs.Ytmphnhffelfbgaa.segs Go.Proofs.Ytmphnhffelfbgaa.lenI Go.Proofs.Ytmphnhffelfbgaa.rown Go.Proofs.Ytmphnhffelfbgaa.boxed Go.Proofs.Ytmphnhffelfbgaa.clone
set_option linter.unusedVariables false
set_option linter.unusedSimpArgs false
theorem row_lt2 {w : World} {base size n E : Nat} {v : Value} {xs : List Value} (h : w.ownsRow base E size v n xs) {g : Nat} (hg : v.ownBlock = some g) : g < w.heap.size := by
  obtain ⟨_, cur, hb⟩ := rown.ownsRow_block h hg
  exact (Array.getElem?_eq_some_iff.1 hb).1
/-- The points in reverse order, with their times from the other end. -/
def RV (N : Nat) (pts : Nat → P3) (j : Nat) : P3 := ((pts (N - j)).1, (pts (N - j)).2.1, (pts 0).2.2 + (pts N).2.2 - (pts (N - j)).2.2)
theorem in_yes {n : Nat} (pts : Nat → P3) (hv : vS n pts = true) : ∀ i j, i < n → j < 3 → inI64 (fi3 (RV (n - 1) pts) i j) := fun i j hi hj => by
  have h := wThinStroke.p_in hv
  have h1 := h (n - 1 - i) (by omega)
  have h0 := h 0 (by omega)
  have h2 := h (n - 1) (by omega)
  unfold fi3 inI64 RV
  split
  · simp only; omega
  · split <;> (simp only; omega)
/-- The points turned round, of which the first k have their times from the other end. -/
def RT (N : Nat) (pts : Nat → P3) (k : Nat) (j : Nat) : P3 := if j < k then RV N pts j else pts (N - j)
theorem RT_zero (N : Nat) (pts : Nat → P3) (j : Nat) : pts (N - j) = RT N pts 0 j := by unfold RT; rw [if_neg (by omega)]
theorem RT_at (N : Nat) (pts : Nat → P3) (k : Nat) : RT N pts k k = pts (N - k) := by unfold RT; rw [if_neg (by omega)]
theorem RT_step (N : Nat) (pts : Nat → P3) (k j : Nat) : put (RT N pts k) k ((pts (N - k)).1, (pts (N - k)).2.1, (pts 0).2.2 + (pts N).2.2 - (pts (N - k)).2.2) j = RT N pts (k + 1) j := by
  unfold put RT
  by_cases e : j = k
  · subst e; rw [if_pos rfl, if_pos (by omega)]; rfl
  · rw [if_neg e]
    by_cases h : j < k
    · rw [if_pos h, if_pos (by omega)]
    · rw [if_neg h, if_neg (by omega)]
theorem RT_end (N : Nat) (pts : Nat → P3) (j : Nat) (hj : j < N + 1) : RT N pts (N + 1) j = RV N pts j := by unfold RT; rw [if_pos hj]
theorem setT (f : Nat → P3) (n i : Nat) (hi : i < n) (t : Int) : (rws (row3 f) n).set (i * 3 + 2) (.int .i64 t) = rws (row3 (put f i ((f i).1, (f i).2.1, t))) n := by
  rw [← set3 f n i hi ((f i).1, (f i).2.1, t)]
  rw [set_same (i := i * 3) (v := .int .i64 (f i).1) (by have := rws_get (row3_len f) i 0 (by omega) n hi; rw [Nat.add_zero] at this; rw [this]; rfl), set_same (i := i * 3 + 1) (v := .int .i64 (f i).2.1) (by rw [rws_get (row3_len f) i 1 (by omega) n hi]; rfl)]
set_option maxRecDepth 100000 in
set_option maxHeartbeats 4000000 in
theorem spec_no {c : Nat} (A : Option Addr) (n : Nat) (pts : Nat → P3) (w : World) (hcap : n ≤ 1048576) (hp : PtsAt w A n pts) (hv : vS n pts = false) :
    Calls Try.prog 36 #[.agg #[.slice A n c]] w fun e w' => ∃ v, e = .returned (.tuple #[.agg #[v], .int .i64 1]) ∧ w'.ownsRow w.heap.size 65 3 v (0) (rws (row3 (fun _ => (0, 0, 0))) (0)) ∧ Below w.heap.size w w' := by
  have B0 := Lib.hid (below_alloc2 w (.cells #[.slice A n c] 31) (.cells #[.slice none 0 0] 31))
  have K1 := Lib.hid (show ((w.alloc (.cells #[.slice A n c] 31)).alloc (.cells #[.slice none 0 0] 31)).heap[w.heap.size]? = some (.cells #[.slice A n c] 31 (0, 0)) by rw [Below.heap_alloc _ _ _ (by simp)]; exact heap_alloc_new _ _)
  have K2 := Lib.hid (show ((w.alloc (.cells #[.slice A n c] 31)).alloc (.cells #[.slice none 0 0] 31)).heap[w.heap.size + 1]? = some (.cells #[.slice none 0 0] 31 (0, 0)) by have := heap_alloc_new (w.alloc (.cells #[.slice A n c] 31)) (.cells #[.slice none 0 0] 31); simpa using this)
  have C1 := Lib.hid (show ((w.alloc (.cells #[.slice A n c] 31)).alloc (.cells #[.slice none 0 0] 31)).cell? ⟨w.heap.size, 0, none⟩ = some (.slice A n c) by rw [cell_of_block K1.out]; rfl)
  have HS := Lib.hid (l02Stroke_calls (c := c) (o := 0) A w.heap.size n pts ((w.alloc (.cells #[.slice A n c] 31)).alloc (.cells #[.slice none 0 0] 31)) hcap (by simp; omega) C1.out (hp.kept B0.out))
  rw [hv] at HS
  have HPW := Lib.hid (fun (V : World) (hV : Below w.heap.size w V) => hp.kept hV)
  clear hp hv HPW
  go_enter Try.func36, Try.ntmps36
  go_wp2_with fail
  refine HS.out.mono ?_
  rintro e w1 ⟨rfl, hb1⟩
  have B1 := Lib.hid (B0.out.trans (hb1.mono B0.out.size))
  have L1 := Lib.hid ((hb1.block _ (block_size K1.out)).trans K1.out)
  have L2 := Lib.hid ((hb1.block _ (block_size K2.out)).trans K2.out)
  clear hb1 HS B0 K1 K2 C1
  have r0 : w1.cell? ⟨w.heap.size + 1, 0, none⟩ = some (.slice none 0 0) := by rw [cell_of_block L2.out]; rfl
  have rf := unfrozen_of_block L2.out
  have rz : w.heap.size + 1 < w1.heap.size := block_size L2.out
  go_wp2
  exact bodyPost_ret (v := .tuple #[.agg #[.slice none 0 0], .int .i64 1]) (by simp [results, Try.results36, go_sem, r0]) rfl ⟨_, rfl, World.ownsRow_nil _ _ _ _, B1.out.setCell (show w.heap.size ≤ w.heap.size + 1 by omega) _⟩
set_option maxRecDepth 100000 in
set_option maxHeartbeats 4000000 in
theorem impl_no {c : Nat} (A : Option Addr) (n : Nat) (pts : Nat → P3) (w : World) (hcap : n ≤ 1048576) (hp : PtsAt w A n pts) (hv : vS n pts = false) :
    Calls Try.prog 37 #[.agg #[.slice A n c]] w fun e w' => ∃ v, e = .returned (.tuple #[.agg #[v], .int .i64 1]) ∧ w'.ownsRow w.heap.size 65 3 v (0) (rws (row3 (fun _ => (0, 0, 0))) (0)) ∧ Below w.heap.size w w' := by
  have B0 := Lib.hid (below_alloc2 w (.cells #[.slice A n c] 31) (.cells #[.slice none 0 0] 31))
  have K1 := Lib.hid (show ((w.alloc (.cells #[.slice A n c] 31)).alloc (.cells #[.slice none 0 0] 31)).heap[w.heap.size]? = some (.cells #[.slice A n c] 31 (0, 0)) by rw [Below.heap_alloc _ _ _ (by simp)]; exact heap_alloc_new _ _)
  have K2 := Lib.hid (show ((w.alloc (.cells #[.slice A n c] 31)).alloc (.cells #[.slice none 0 0] 31)).heap[w.heap.size + 1]? = some (.cells #[.slice none 0 0] 31 (0, 0)) by have := heap_alloc_new (w.alloc (.cells #[.slice A n c] 31)) (.cells #[.slice none 0 0] 31); simpa using this)
  have C1 := Lib.hid (show ((w.alloc (.cells #[.slice A n c] 31)).alloc (.cells #[.slice none 0 0] 31)).cell? ⟨w.heap.size, 0, none⟩ = some (.slice A n c) by rw [cell_of_block K1.out]; rfl)
  have HS := Lib.hid (implValid_calls (c := c) A n pts ((w.alloc (.cells #[.slice A n c] 31)).alloc (.cells #[.slice none 0 0] 31)) hcap (hp.kept B0.out))
  rw [hv] at HS
  have HPW := Lib.hid (fun (V : World) (hV : Below w.heap.size w V) => hp.kept hV)
  clear hp hv HPW
  go_enter Try.func37, Try.ntmps37
  go_wp2_with fail
  refine HS.out.mono ?_
  rintro e w1 ⟨rfl, hb1⟩
  have B1 := Lib.hid (B0.out.trans (hb1.mono B0.out.size))
  have L1 := Lib.hid ((hb1.block _ (block_size K1.out)).trans K1.out)
  have L2 := Lib.hid ((hb1.block _ (block_size K2.out)).trans K2.out)
  clear hb1 HS B0 K1 K2 C1
  have r0 : w1.cell? ⟨w.heap.size + 1, 0, none⟩ = some (.slice none 0 0) := by rw [cell_of_block L2.out]; rfl
  have rf := unfrozen_of_block L2.out
  have rz : w.heap.size + 1 < w1.heap.size := block_size L2.out
  go_wp2
  exact bodyPost_ret (v := .tuple #[.agg #[.slice none 0 0], .int .i64 1]) (by simp [results, Try.results37, go_sem, r0]) rfl ⟨_, rfl, World.ownsRow_nil _ _ _ _, B1.out.setCell (show w.heap.size ≤ w.heap.size + 1 by omega) _⟩
set_option maxRecDepth 100000 in
set_option maxHeartbeats 4000000 in
theorem spec_yes {c : Nat} (A : Option Addr) (n : Nat) (pts : Nat → P3) (w : World) (hcap : n ≤ 1048576) (hp : PtsAt w A n pts) (hv : vS n pts = true) :
    Calls Try.prog 36 #[.agg #[.slice A n c]] w fun e w' => ∃ v, e = .returned (.tuple #[.agg #[v], .int .i64 0]) ∧ w'.ownsRow w.heap.size 65 3 v (n) (rws (row3 (RV (n - 1) pts)) (n)) ∧ Below w.heap.size w w' := by
  obtain ⟨h1, h60, -⟩ := vS_of hv
  obtain ⟨i0, hi0, hz0, hz1, hz2⟩ := rown.info_get infoPoint
  have HPI := Lib.hid (wThinStroke.p_in hv)
  have B0 := Lib.hid (below_alloc2 w (.cells #[.slice A n c] 31) (.cells #[.slice none 0 0] 31))
  have K1 := Lib.hid (show ((w.alloc (.cells #[.slice A n c] 31)).alloc (.cells #[.slice none 0 0] 31)).heap[w.heap.size]? = some (.cells #[.slice A n c] 31 (0, 0)) by rw [Below.heap_alloc _ _ _ (by simp)]; exact heap_alloc_new _ _)
  have K2 := Lib.hid (show ((w.alloc (.cells #[.slice A n c] 31)).alloc (.cells #[.slice none 0 0] 31)).heap[w.heap.size + 1]? = some (.cells #[.slice none 0 0] 31 (0, 0)) by have := heap_alloc_new (w.alloc (.cells #[.slice A n c] 31)) (.cells #[.slice none 0 0] 31); simpa using this)
  have C1 := Lib.hid (show ((w.alloc (.cells #[.slice A n c] 31)).alloc (.cells #[.slice none 0 0] 31)).cell? ⟨w.heap.size, 0, none⟩ = some (.slice A n c) by rw [cell_of_block K1.out]; rfl)
  have HS := Lib.hid (l02Stroke_calls (c := c) (o := 0) A w.heap.size n pts ((w.alloc (.cells #[.slice A n c] 31)).alloc (.cells #[.slice none 0 0] 31)) hcap (by simp; omega) C1.out (hp.kept B0.out))
  rw [hv] at HS
  have HPW := Lib.hid (fun (V : World) (hV : Below w.heap.size w V) => hp.kept hV)
  clear hp hv
  obtain ⟨N, rfl⟩ : ∃ N, n = N + 1 := ⟨n - 1, by omega⟩
  obtain ⟨g0, o0, rfl, hg0, -, -, -⟩ := HPW.out w (Below.refl _ _) 0 (by omega)
  go_enter Try.func36, Try.ntmps36
  go_wp2_with fail
  refine HS.out.mono ?_
  rintro e w1 ⟨rfl, hb1⟩
  have B1 := Lib.hid (B0.out.trans (hb1.mono B0.out.size))
  have L1 := Lib.hid ((hb1.block _ (block_size K1.out)).trans K1.out)
  have L2 := Lib.hid ((hb1.block _ (block_size K2.out)).trans K2.out)
  clear hb1 HS B0 K1 K2 C1
  have c1 : w1.cell? ⟨w.heap.size, 0, none⟩ = some (.slice (some ⟨g0, o0, none⟩) (N + 1) c) := by rw [cell_of_block L1.out]; rfl
  have z1 : w.heap.size < w1.heap.size := block_size L1.out
  have HX0 := Lib.hid (BX.start (W0 := w) (W := w1) (B := 31) (base := w.heap.size) (E := 65) (k := 3) (v := .slice none 0 0) (n := 0) (xs := []) B1.out (World.ownsRow_nil _ _ _ _) (Nat.le_refl _) B1.out.size (by decide))
  have M1 := Lib.hid ((Below.heap_alloc _ _ _ (block_size L1.out)).trans L1.out : (w1.alloc (.cells #[.slice none 0 0] 31)).heap[w.heap.size]? = _)
  have M2 := Lib.hid ((Below.heap_alloc _ _ _ (block_size L2.out)).trans L2.out : (w1.alloc (.cells #[.slice none 0 0] 31)).heap[w.heap.size + 1]? = _)
  have HN6 := Lib.hid (block_size L2.out)
  clear L1 L2 B1
  go_wp2
  clear c1 z1
  go_loopw [6] (fun i w' => ∃ (k m d : Nat) (z : Int) (B : Option Addr), k + m = N + 1 ∧ i = .int .i64 z ∧ z + 1 = (m : Int) ∧ Hid (BX w w' w1.heap.size 31 w.heap.size 65 3 (.slice B k d) k (rws (row3 (RV N pts)) k)) ∧ Hid (w'.heap[w.heap.size]? = some (.cells #[.slice (some ⟨g0, o0, none⟩) (N + 1) c] 31 (0, 0))) ∧ Hid (w'.heap[w.heap.size + 1]? = some (.cells #[.slice none 0 0] 31 (0, 0)))) (fun i _ => (intOf i + 1).toNat)
  case atStart => exact ⟨0, N + 1, 0, _, none, by omega, rfl, by omega, HX0, M1, M2⟩
  case round =>
    obtain ⟨k, m, d, z, B, hk, rfl, hz, HX, HM1, HM2⟩ := hrel
    have hs : wr.cell? ⟨w.heap.size, 0, none⟩ = some (.slice (some ⟨g0, o0, none⟩) (N + 1) c) := by rw [cell_of_block HM1.out]; rfl
    have zs : w.heap.size < wr.heap.size := block_size HM1.out
    by_cases hlt : 0 < m
    · obtain ⟨i, rfl⟩ : ∃ i, m = i + 1 := ⟨m - 1, by omega⟩
      obtain rfl : z = (i : Int) := by omega
      have hiN : i ≤ N := by omega
      clear hz hlt
      obtain ⟨g1, o1, e1, hg, p0, p1, p2⟩ := (HPW.out wr HX.out.below) i (by omega)
      injection e1 with e1
      injection e1 with e1 e2
      subst e1 e2
      obtain ⟨g1, o1, e1, -, -, -, y0⟩ := (HPW.out wr HX.out.below) 0 (by omega)
      injection e1 with e1
      injection e1 with e1 e2
      subst e1 e2
      simp only [Nat.zero_mul, Nat.add_zero] at y0
      obtain ⟨g1, o1, e1, -, -, -, yN⟩ := (HPW.out wr HX.out.below) N (by omega)
      injection e1 with e1
      injection e1 with e1 e2
      subst e1 e2
      have t0 := HPI.out 0 (by omega)
      have t1 := HPI.out N (by omega)
      have t2 := HPI.out i (by omega)
      have HE := Lib.hid (show rws (row3 (RV N pts)) (k + 1) = rws (row3 (RV N pts)) k ++ [.int .i64 (pts i).1, .int .i64 (pts i).2.1, .int .i64 ((pts 0).2.2 + (pts N).2.2 - (pts i).2.2)] from by
        rw [rws_succ]
        have e : N - k = i := by omega
        unfold row3 RV c3
        rw [e])
      generalize (pts 0).2.2 = T0 at *
      generalize (pts N).2.2 = TN at *
      obtain ⟨p, hpk⟩ : ∃ p, pts i = p := ⟨_, rfl⟩
      rw [hpk] at p0 p1 p2 t2 HE
      clear hpk
      obtain ⟨a, ha⟩ : ∃ a, T0 + TN = a := ⟨_, rfl⟩
      obtain ⟨b, hb⟩ : ∃ b, a - p.2.2 = b := ⟨_, rfl⟩
      rw [ha, hb] at HE
      have E1 : IntKind.i64.wrap (T0 + TN) = a := by rw [ha]; exact IntWalk.i64_in _ (by omega)
      have E2 : IntKind.i64.wrap (a - p.2.2) = b := by rw [hb]; exact IntWalk.i64_in _ (by omega)
      have F1 : wrap64 (T0 + TN) = a := by rw [← IntWalk.i64_left]; exact E1
      have F2 : wrap64 (a - p.2.2) = b := by rw [← IntWalk.i64_left]; exact E2
      have E3 : IntKind.i64.wrap (N : Int) = (N : Int) := IntWalk.i64_in _ (by omega)
      have hi00 : (0 : Int) ≤ (i : Int) := by omega
      have hiN1 : (i : Int) < (N : Int) + 1 := by omega
      have hiN2 : i < N + 1 := by omega
      have hN1 : (N : Int) < (N : Int) + 1 := by omega
      have B8 := Lib.hid (below_alloc1 wr (.cells #[.int .i64 p.1, .int .i64 p.2.1, .int .i64 p.2.2] 65))
      clear ha hb t0 t1 t2
      go_wp2
      obtain ⟨w8, hw8⟩ : ∃ w8, w8 = wr.alloc (.cells #[.int .i64 p.1, .int .i64 p.2.1, .int .i64 p.2.2] 65) := ⟨_, rfl⟩
      have K8 := heap_alloc_new wr (.cells #[.int .i64 p.1, .int .i64 p.2.1, .int .i64 p.2.2] 65)
      rw [← hw8] at B8 K8 ⊢
      have HX8 := Lib.hid (HX.out.kept B8.out)
      have N1 := Lib.hid ((B8.out.block _ (block_size HM1.out)).trans HM1.out)
      have N2 := Lib.hid ((B8.out.block _ (block_size HM2.out)).trans HM2.out)
      have x0 : w8.cell? ⟨wr.heap.size, 0, none⟩ = some (.int .i64 p.1) := by rw [cell_of_block K8]; rfl
      have x1 : w8.cell? ⟨wr.heap.size, 1, none⟩ = some (.int .i64 p.2.1) := by rw [cell_of_block K8]; rfl
      have x2 : w8.cell? ⟨wr.heap.size, 2, none⟩ = some (.int .i64 p.2.2) := by rw [cell_of_block K8]; rfl
      have xz := block_size K8
      have q0 := (B8.out.cell (p := ⟨g0, o0 + 2, none⟩) hg).trans y0
      have qN := (B8.out.cell (p := ⟨g0, o0 + N * 3 + 2, none⟩) hg).trans yN
      have hg8 : g0 < w8.heap.size := Nat.lt_of_lt_of_le hg B8.out.size
      have hs8 : w8.cell? ⟨w.heap.size, 0, none⟩ = some (.slice (some ⟨g0, o0, none⟩) (N + 1) c) := by rw [cell_of_block N1.out]; rfl
      have zs8 := block_size N1.out
      have xb := HX8.out.cell
      have xbz := HX8.out.lt
      have HXD := Lib.hid (HX8.out.kept (Below.refl w8.heap.size w8).drew)
      have P1D := Lib.hid (show w8.drew.heap[w.heap.size]? = _ from N1.out)
      have P2D := Lib.hid (show w8.drew.heap[w.heap.size + 1]? = _ from N2.out)
      have NE1 := Lib.hid (show w.heap.size ≠ w1.heap.size by have := HN6.out; omega)
      have NE2 := Lib.hid (show w.heap.size + 1 ≠ w1.heap.size by have := HN6.out; omega)
      obtain ⟨w9, hw9⟩ : ∃ w9, w9 = w8.drew := ⟨_, rfl⟩
      rw [← hw9] at HXD P1D P2D
      have K9 : w9.heap[wr.heap.size]? = some (.cells #[.int .i64 p.1, .int .i64 p.2.1, .int .i64 p.2.2] 65 (0, 0)) := by rw [hw9]; exact K8
      have xz9 : wr.heap.size < w9.heap.size := block_size K9
      have q0 : w9.cell? ⟨g0, o0 + 2, none⟩ = some (.int .i64 T0) := by rw [hw9]; exact q0
      have qN : w9.cell? ⟨g0, o0 + N * 3 + 2, none⟩ = some (.int .i64 TN) := by rw [hw9]; exact qN
      have hkd : w9.cell? ⟨w.heap.size, 0, none⟩ = some (.slice (some ⟨g0, o0, none⟩) (N + 1) c) ∧ w9.cell? ⟨wr.heap.size, 0, none⟩ = some (.int .i64 p.1) ∧ w9.cell? ⟨wr.heap.size, 1, none⟩ = some (.int .i64 p.2.1) ∧ w9.cell? ⟨wr.heap.size, 2, none⟩ = some (.int .i64 p.2.2) ∧ w9.cell? ⟨g0, o0 + 2, none⟩ = some (.int .i64 T0) ∧ w9.cell? ⟨g0, o0 + N * 3 + 2, none⟩ = some (.int .i64 TN) := ⟨by rw [cell_of_block P1D.out]; rfl, by rw [cell_of_block K9]; rfl, by rw [cell_of_block K9]; rfl, by rw [cell_of_block K9]; rfl, q0, qN⟩
      have HKD := Lib.hid hkd
      have HSX := Lib.hid (show ∀ (o : Obj) (w10 : World) (v3 : Value) (n3 : Nat) (xs3 : List Value), (w9.alloc o).grownBy w10 (Value.slice B k d).ownBlock → w10.ownsRow w.heap.size 65 3 v3 n3 xs3 → (fun W => W.cell? ⟨w.heap.size, 0, none⟩ = some (.slice (some ⟨g0, o0, none⟩) (N + 1) c) ∧ W.cell? ⟨wr.heap.size, 0, none⟩ = some (.int .i64 p.1) ∧ W.cell? ⟨wr.heap.size, 1, none⟩ = some (.int .i64 p.2.1) ∧ W.cell? ⟨wr.heap.size, 2, none⟩ = some (.int .i64 p.2.2) ∧ W.cell? ⟨g0, o0 + 2, none⟩ = some (.int .i64 T0) ∧ W.cell? ⟨g0, o0 + N * 3 + 2, none⟩ = some (.int .i64 TN)) w10 from fun o w10 v3 n3 xs3 hgr hown => by
        have hB := rown.under (o := o) HXD.out.own HXD.out.hbs hgr
        have e1 := grown_block HXD.out.own hgr P1D.out (by decide)
        have e8 := (hgr.block wr.heap.size (by simp; exact Nat.lt_succ_of_lt xz9) (fun e => by
          have h1 := row_lt2 HX.out.own e.symm
          omega)).trans ((Below.heap_alloc _ _ _ xz9).trans K9)
        exact ⟨by rw [cell_of_block e1]; rfl, by rw [cell_of_block e8]; rfl, by rw [cell_of_block e8]; rfl, by rw [cell_of_block e8]; rfl, (hB.cell (p := ⟨g0, o0 + 2, none⟩) hg0).trans q0, (hB.cell (p := ⟨g0, o0 + N * 3 + 2, none⟩) hg0).trans qN⟩)
      have HSY := Lib.hid (show ∀ (w10 : World) (v3 : Value), (fun W => W.cell? ⟨w.heap.size, 0, none⟩ = some (.slice (some ⟨g0, o0, none⟩) (N + 1) c) ∧ W.cell? ⟨wr.heap.size, 0, none⟩ = some (.int .i64 p.1) ∧ W.cell? ⟨wr.heap.size, 1, none⟩ = some (.int .i64 p.2.1) ∧ W.cell? ⟨wr.heap.size, 2, none⟩ = some (.int .i64 p.2.2) ∧ W.cell? ⟨g0, o0 + 2, none⟩ = some (.int .i64 T0) ∧ W.cell? ⟨g0, o0 + N * 3 + 2, none⟩ = some (.int .i64 TN)) w10 → (fun W => W.cell? ⟨w.heap.size, 0, none⟩ = some (.slice (some ⟨g0, o0, none⟩) (N + 1) c) ∧ W.cell? ⟨wr.heap.size, 0, none⟩ = some (.int .i64 p.1) ∧ W.cell? ⟨wr.heap.size, 1, none⟩ = some (.int .i64 p.2.1) ∧ W.cell? ⟨wr.heap.size, 2, none⟩ = some (.int .i64 p.2.2) ∧ W.cell? ⟨g0, o0 + 2, none⟩ = some (.int .i64 T0) ∧ W.cell? ⟨g0, o0 + N * 3 + 2, none⟩ = some (.int .i64 TN)) (w10.setCell ⟨w1.heap.size, 0, none⟩ v3) from fun w10 v3 h => by
        obtain ⟨a1, a2, a3, a4, a5, a6⟩ := h
        have far : ∀ (b q : Nat), b ≠ w1.heap.size → (w10.setCell ⟨w1.heap.size, 0, none⟩ v3).cell? ⟨b, q, none⟩ = w10.cell? ⟨b, q, none⟩ := fun b q hb => World.cell?_of_block (Below.heap_setCell _ _ _ _ (by simpa using hb))
        refine ⟨(far _ _ NE1.out).trans a1, (far _ _ ?_).trans a2, (far _ _ ?_).trans a3, (far _ _ ?_).trans a4, (far _ _ ?_).trans a5, (far _ _ ?_).trans a6⟩
        all_goals first | (have := HX.out.lt; omega) | (have := HN6.out; omega))
      have HSA := Lib.hid (show (w9.alloc (.cells #[.int .i64 p.1, .int .i64 p.2.1, .int .i64 b] 65)).cell? ⟨w.heap.size, 0, none⟩ = some (.slice (some ⟨g0, o0, none⟩) (N + 1) c) ∧ (w9.alloc (.cells #[.int .i64 p.1, .int .i64 p.2.1, .int .i64 b] 65)).cell? ⟨wr.heap.size, 0, none⟩ = some (.int .i64 p.1) ∧ (w9.alloc (.cells #[.int .i64 p.1, .int .i64 p.2.1, .int .i64 b] 65)).cell? ⟨wr.heap.size, 1, none⟩ = some (.int .i64 p.2.1) ∧ (w9.alloc (.cells #[.int .i64 p.1, .int .i64 p.2.1, .int .i64 b] 65)).cell? ⟨wr.heap.size, 2, none⟩ = some (.int .i64 p.2.2) ∧ (w9.alloc (.cells #[.int .i64 p.1, .int .i64 p.2.1, .int .i64 b] 65)).cell? ⟨g0, o0 + 2, none⟩ = some (.int .i64 T0) ∧ (w9.alloc (.cells #[.int .i64 p.1, .int .i64 p.2.1, .int .i64 b] 65)).cell? ⟨g0, o0 + N * 3 + 2, none⟩ = some (.int .i64 TN) from by
        obtain ⟨a1, a2, a3, a4, a5, a6⟩ := HKD.out
        have hz9 : w.heap.size < w9.heap.size := block_size P1D.out
        have hgz9 : g0 < w9.heap.size := by rw [hw9]; exact hg8
        exact ⟨(World.cell?_alloc_lt _ _ _ hz9).trans a1, (World.cell?_alloc_lt _ _ _ xz9).trans a2, (World.cell?_alloc_lt _ _ _ xz9).trans a3, (World.cell?_alloc_lt _ _ _ xz9).trans a4, (World.cell?_alloc_lt _ _ _ hgz9).trans a5, (World.cell?_alloc_lt _ _ _ hgz9).trans a6⟩)
      have xb := HXD.out.cell
      have xbz := HXD.out.lt
      have xb2 : (w9.alloc (.cells #[.int .i64 p.1, .int .i64 p.2.1, .int .i64 b] 65)).cell? ⟨w1.heap.size, 0, none⟩ = some (.slice B k d) := (World.cell?_alloc_lt _ _ _ xbz).trans xb
      clear p0 p1 p2 y0 yN hs zs hg HX HM1 HM2 B8 HX8 hs8 hg8 zs8 xz x0 x1 x2 q0 qN K8 K9 N1 N2
      refine wp_region_held_drew (S := (fun W => W.cell? ⟨w.heap.size, 0, none⟩ = some (.slice (some ⟨g0, o0, none⟩) (N + 1) c) ∧ W.cell? ⟨wr.heap.size, 0, none⟩ = some (.int .i64 p.1) ∧ W.cell? ⟨wr.heap.size, 1, none⟩ = some (.int .i64 p.2.1) ∧ W.cell? ⟨wr.heap.size, 2, none⟩ = some (.int .i64 p.2.2) ∧ W.cell? ⟨g0, o0 + 2, none⟩ = some (.int .i64 T0) ∧ W.cell? ⟨g0, o0 + N * 3 + 2, none⟩ = some (.int .i64 TN))) (by kernel_rfl) (by rw [show w8.drew = w9 from hw9.symm]; exact HKD.out) (fun hHeld => ?_)
      rw [show w8.drew = w9 from hw9.symm] at hHeld ⊢
      clear hw9 HKD hkd
      refine wpAnyH_take (i := 0) (v := ?v0) rfl (by kernel_rfl) (by kernel_rfl) (by kernel_rfl) (fun _ _ _ h => h) (Or.inl ⟨by rfl, ?y0⟩) (by assumption) ?r0
      case y0 => (intro W hSw; (try dsimp only at hSw); first | (go_simp; done) | (go_simp; with_reducible rfl))
      (try simp only [Act.put, List.setIfInBounds_toArray, List.set_cons_zero, List.set_cons_succ])
      refine wpAnyH_take (i := 2) (v := ?v2) rfl (by kernel_rfl) (by kernel_rfl) (by kernel_rfl) (fun _ _ _ h => h) (Or.inl ⟨by rfl, ?y2⟩) (by assumption) ?r2
      case y2 => (intro W hSw; (try dsimp only at hSw); first | (go_simp; done) | (go_simp; with_reducible rfl))
      (try simp only [Act.put, List.setIfInBounds_toArray, List.set_cons_zero, List.set_cons_succ])
      refine wpAnyH_take (i := 3) (v := ?v3) rfl (by kernel_rfl) (by kernel_rfl) (by kernel_rfl) (fun _ _ _ h => h) (Or.inl ⟨by rfl, ?y3⟩) (by assumption) ?r3
      case y3 => (intro W hSw; (try dsimp only at hSw); first | (go_simp; done) | (go_simp; with_reducible rfl))
      (try simp only [Act.put, List.setIfInBounds_toArray, List.set_cons_zero, List.set_cons_succ])
      refine wpAnyH_take (i := 4) (v := ?v4) rfl (by kernel_rfl) (by kernel_rfl) (by kernel_rfl) (fun _ _ _ h => h) (Or.inl ⟨by rfl, ?y4⟩) (by assumption) ?r4
      case y4 => (intro W hSw; (try dsimp only at hSw); first | (go_simp; done) | (go_simp; with_reducible rfl))
      (try simp only [Act.put, List.setIfInBounds_toArray, List.set_cons_zero, List.set_cons_succ])
      refine wpAnyH_take (i := 5) (v := ?v5) rfl (by kernel_rfl) (by kernel_rfl) (by kernel_rfl) (fun _ _ _ h => h) (Or.inl ⟨by rfl, ?y5⟩) (by assumption) ?r5
      case y5 => (intro W hSw; (try dsimp only at hSw); first | (go_simp; done) | (go_simp; with_reducible rfl))
      (try simp only [Act.put, List.setIfInBounds_toArray, List.set_cons_zero, List.set_cons_succ])
      refine wpAnyH_take (i := 6) (v := ?v6) rfl (by kernel_rfl) (by kernel_rfl) (by kernel_rfl) (fun _ _ _ h => h) (Or.inl ⟨by rfl, ?y6⟩) (by assumption) ?r6
      case y6 => (intro W hSw; (try dsimp only at hSw); first | (go_simp; done) | (go_simp; with_reducible rfl))
      (try simp only [Act.put, List.setIfInBounds_toArray, List.set_cons_zero, List.set_cons_succ])
      refine wpAnyH_take (i := 7) (v := ?v7) rfl (by kernel_rfl) (by kernel_rfl) (by kernel_rfl) (fun _ _ _ h => h) (Or.inl ⟨by rfl, ?y7⟩) (by assumption) ?r7
      case y7 => (intro W hSw; (try dsimp only at hSw); first | (go_simp; done) | (go_simp; with_reducible rfl))
      (try simp only [Act.put, List.setIfInBounds_toArray, List.set_cons_zero, List.set_cons_succ])
      refine wpAnyH_take (i := 8) (v := ?v8) rfl (by kernel_rfl) (by kernel_rfl) (by kernel_rfl) (fun _ _ _ h => h) (Or.inl ⟨by rfl, ?y8⟩) (by assumption) ?r8
      case y8 => (intro W hSw; (try dsimp only at hSw); first | (go_simp; done) | (go_simp; with_reducible rfl))
      (try simp only [Act.put, List.setIfInBounds_toArray, List.set_cons_zero, List.set_cons_succ])
      refine wpAnyH_take (i := 9) (v := ?v9) rfl (by kernel_rfl) (by kernel_rfl) (by kernel_rfl) (fun _ _ _ h => h) (Or.inl ⟨by rfl, ?y9⟩) (by assumption) ?r9
      case y9 => (intro W hSw; (try dsimp only at hSw); first | (go_simp; done) | (go_simp; with_reducible rfl))
      (try simp only [Act.put, List.setIfInBounds_toArray, List.set_cons_zero, List.set_cons_succ])
      refine wpAnyH_take (i := 10) (v := ?v10) rfl (by kernel_rfl) (by kernel_rfl) (by kernel_rfl) (fun _ _ _ h => h) (Or.inl ⟨by rfl, ?y10⟩) (by assumption) ?r10
      case y10 => (intro W hSw; (try dsimp only at hSw); first | (go_simp; done) | (go_simp; with_reducible rfl))
      (try simp only [Act.put, List.setIfInBounds_toArray, List.set_cons_zero, List.set_cons_succ])
      refine wpAnyH_take (i := 11) (v := ?v11) rfl (by kernel_rfl) (by kernel_rfl) (by kernel_rfl) (fun _ _ _ h => h) (Or.inl ⟨by rfl, ?y11⟩) (by assumption) ?r11
      case y11 => (intro W hSw; (try dsimp only at hSw); first | (go_simp; done) | (go_simp; with_reducible rfl))
      (try simp only [Act.put, List.setIfInBounds_toArray, List.set_cons_zero, List.set_cons_succ])
      refine wpAnyH_take (i := 12) (v := ?v12) rfl (by kernel_rfl) (by kernel_rfl) (by kernel_rfl) (fun _ _ _ h => h) (Or.inl ⟨by rfl, ?y12⟩) (by assumption) ?r12
      case y12 => (intro W hSw; (try dsimp only at hSw); first | (go_simp; done) | (go_simp; with_reducible rfl))
      (try simp only [Act.put, List.setIfInBounds_toArray, List.set_cons_zero, List.set_cons_succ])
      refine wpAnyH_take (i := 13) (v := ?v13) rfl (by kernel_rfl) (by kernel_rfl) (by kernel_rfl) (fun _ _ _ h => h) (Or.inl ⟨by rfl, ?y13⟩) (by assumption) ?r13
      case y13 => (intro W hSw; (try dsimp only at hSw); first | (go_simp; done) | (go_simp; with_reducible rfl))
      (try simp only [Act.put, List.setIfInBounds_toArray, List.set_cons_zero, List.set_cons_succ])
      refine wpAnyH_take (i := 14) (v := ?v14) rfl (by kernel_rfl) (by kernel_rfl) (by kernel_rfl) (fun _ _ _ h => h) (Or.inl ⟨by rfl, ?y14⟩) (by assumption) ?r14
      case y14 => (intro W hSw; (try dsimp only at hSw); first | (go_simp; done) | (go_simp; with_reducible rfl))
      (try simp only [Act.put, List.setIfInBounds_toArray, List.set_cons_zero, List.set_cons_succ])
      refine wpAnyH_take (i := 15) (v := ?v15) rfl (by kernel_rfl) (by kernel_rfl) (by kernel_rfl) (fun _ _ _ h => h) (Or.inl ⟨by rfl, ?y15⟩) (by assumption) ?r15
      case y15 => (intro W hSw; (try dsimp only at hSw); first | (go_simp; done) | (go_simp; with_reducible rfl))
      (try simp only [Act.put, List.setIfInBounds_toArray, List.set_cons_zero, List.set_cons_succ])
      refine wpAnyH_take (i := 16) (v := ?v16) rfl (by kernel_rfl) (by kernel_rfl) (by kernel_rfl) (fun _ _ _ h => h) (Or.inl ⟨by rfl, ?y16⟩) (by assumption) ?r16
      case y16 => (intro W hSw; (try dsimp only at hSw); first | (go_simp; done) | (go_simp; with_reducible rfl))
      (try simp only [Act.put, List.setIfInBounds_toArray, List.set_cons_zero, List.set_cons_succ])
      refine wpAnyH_take (i := 17) (v := ?v17) rfl (by kernel_rfl) (by kernel_rfl) (by kernel_rfl) (fun _ _ _ h => h) (Or.inl ⟨by rfl, ?y17⟩) (by assumption) ?r17
      case y17 => (intro W hSw; (try dsimp only at hSw); first | (go_simp; done) | (go_simp; with_reducible rfl))
      (try simp only [Act.put, List.setIfInBounds_toArray, List.set_cons_zero, List.set_cons_succ])
      refine wpAnyH_take (i := 18) (v := ?v18) rfl (by kernel_rfl) (by kernel_rfl) (by kernel_rfl) (fun _ _ _ h => h) (Or.inl ⟨by rfl, ?y18⟩) (by assumption) ?r18
      case y18 => (intro W hSw; (try dsimp only at hSw); first | (go_simp; done) | (go_simp; with_reducible rfl))
      (try simp only [Act.put, List.setIfInBounds_toArray, List.set_cons_zero, List.set_cons_succ])
      refine wpAnyH_take (i := 19) (v := ?v19) rfl (by kernel_rfl) (by kernel_rfl) (by kernel_rfl) (fun _ _ _ h => h) (Or.inl ⟨by rfl, ?y19⟩) (by assumption) ?r19
      case y19 => (intro W hSw; (try dsimp only at hSw); first | (go_simp; done) | (go_simp; with_reducible rfl))
      (try simp only [Act.put, List.setIfInBounds_toArray, List.set_cons_zero, List.set_cons_succ])
      refine wpAnyH_take (i := 20) (v := ?v20) rfl (by kernel_rfl) (by kernel_rfl) (by kernel_rfl) (fun _ _ _ h => h) (Or.inl ⟨by rfl, ?y20⟩) (by assumption) ?r20
      case y20 => (intro W hSw; (try dsimp only at hSw); first | (go_simp; done) | (go_simp; with_reducible rfl))
      (try simp only [Act.put, List.setIfInBounds_toArray, List.set_cons_zero, List.set_cons_succ])
      refine wpAnyH_take (i := 21) (v := ?v21) rfl (by kernel_rfl) (by kernel_rfl) (by kernel_rfl) (fun _ _ _ h => h) (Or.inl ⟨by rfl, ?y21⟩) (by assumption) ?r21
      case y21 => (intro W hSw; (try dsimp only at hSw); first | (go_simp; done) | (go_simp; with_reducible rfl))
      (try simp only [Act.put, List.setIfInBounds_toArray, List.set_cons_zero, List.set_cons_succ])
      refine wpAnyH_take (i := 22) (v := ?v22) rfl (by kernel_rfl) (by kernel_rfl) (by kernel_rfl) (fun _ _ _ h => h) (Or.inl ⟨by rfl, ?y22⟩) (by assumption) ?r22
      case y22 => (intro W hSw; (try dsimp only at hSw); first | (go_simp; done) | (go_simp; with_reducible rfl))
      (try simp only [Act.put, List.setIfInBounds_toArray, List.set_cons_zero, List.set_cons_succ])
      refine wpAnyH_ready (rs := [1, 23]) (by kernel_rfl) (by simp) ?_
      refine AllReadyH.cons rfl (fun K hK => ?_) (AllReadyH.cons rfl (fun K hK => ?_) AllReadyH.nil)
      · go_simp
        refine hK.out _ _ (hHeld) (fun hHeld => ?_)
        clear hK K
        (try simp only [Act.put, List.setIfInBounds_toArray, List.set_cons_zero, List.set_cons_succ])
        refine wpAnyH_ready (rs := [23]) (by kernel_rfl) (by simp) ?_
        refine AllReadyH.cons rfl (fun K hK => ?_) AllReadyH.nil
        go_simp
        refine hK.out _ _ (HSA.out) (fun hHeld => ?_)
        clear hK K
        (try simp only [Act.put, List.setIfInBounds_toArray, List.set_cons_zero, List.set_cons_succ])
        refine wpAnyH_ready (rs := [24]) (by kernel_rfl) (by simp) ?_
        refine AllReadyH.cons rfl (fun K hK => ?_) AllReadyH.nil
        refine step_append_lies _ rfl (.tmp 27) (.tmp 49) _ rfl w.heap.size 65 i0 _ 3 24 Try.underlying29 hi0 hz0 hz1 hz2 rfl (by omega) (.slice B k d) k _ (by simp [Act.eval]) (HXD.out.kept (below_alloc1 _ _)).own ⟨w9.heap.size, 0, none⟩ 1 1 [.int .i64 p.1, .int .i64 p.2.1, .int .i64 b] (by simp [Act.eval]) (by simp) (three_new rfl) (by simp [Value.oneCell']) (by omega) (by simp only [maxLen]; omega) (by omega) (Nat.le_trans HXD.out.hbs (by simp)) _ rfl ?_
        intro g3 cap3 w10 hown hgr hat hlt3
        obtain ⟨kc, kf, kz, kb, kx⟩ := HXD.out.more hgr hown
        have KX := Lib.hid kx
        have O1 := Lib.hid (HXD.out.other (v3 := .slice (some ⟨g3, 0, none⟩) (k + 1) cap3) hgr P1D.out (by decide) NE1.out)
        have O2 := Lib.hid (HXD.out.other (v3 := .slice (some ⟨g3, 0, none⟩) (k + 1) cap3) hgr P2D.out (by decide) NE2.out)
        have hk10 := HSX.out _ _ _ _ _ hgr hown
        clear hown hgr hat kb kx
        refine hK.out _ _ (hk10) (fun hHeld => ?_)
        clear hK K
        (try simp only [Act.put, List.setIfInBounds_toArray, List.set_cons_zero, List.set_cons_succ])
        refine wpAnyH_take (i := 25) (v := ?v25) rfl (by kernel_rfl) (by kernel_rfl) (by kernel_rfl) (fun _ _ _ h => h) (Or.inl ⟨by rfl, ?y25⟩) (by assumption) ?r25
        case y25 => (intro W hSw; (try dsimp only at hSw); first | (go_simp; done) | (go_simp; with_reducible rfl))
        (try simp only [Act.put, List.setIfInBounds_toArray, List.set_cons_zero, List.set_cons_succ])
        refine wpAnyH_ready (rs := [26]) (by kernel_rfl) (by simp) ?_
        refine AllReadyH.cons rfl (fun K hK => ?_) AllReadyH.nil
        go_simp
        refine hK.out _ _ (HSY.out w10 (.slice (some ⟨g3, 0, none⟩) (k + 1) cap3) hk10) (fun hHeld => ?_)
        clear hK K
        (try simp only [Act.put, List.setIfInBounds_toArray, List.set_cons_zero, List.set_cons_succ])
        refine wpAnyH_done (by kernel_rfl) ?_ _
        clear hHeld kc kf kz E1 E2 F1 F2 E3
        go_wp2
        go_roundw
        case rel => exact ⟨k + 1, i, cap3, (i : Int) - 1, some ⟨g3, 0, none⟩, by omega, rfl, by omega, Lib.hid (by rw [HE.out]; exact KX.out), O1, O2⟩
        case measure => first | (simp [intOf]; done) | (simp [intOf]; omega)
      · go_simp
        refine hK.out _ _ (HSA.out) (fun hHeld => ?_)
        clear hK K
        (try simp only [Act.put, List.setIfInBounds_toArray, List.set_cons_zero, List.set_cons_succ])
        refine wpAnyH_ready (rs := [1]) (by kernel_rfl) (by simp) ?_
        refine AllReadyH.cons rfl (fun K hK => ?_) AllReadyH.nil
        go_simp
        refine hK.out _ _ (HSA.out) (fun hHeld => ?_)
        clear hK K
        (try simp only [Act.put, List.setIfInBounds_toArray, List.set_cons_zero, List.set_cons_succ])
        refine wpAnyH_ready (rs := [24]) (by kernel_rfl) (by simp) ?_
        refine AllReadyH.cons rfl (fun K hK => ?_) AllReadyH.nil
        refine step_append_lies _ rfl (.tmp 27) (.tmp 49) _ rfl w.heap.size 65 i0 _ 3 24 Try.underlying29 hi0 hz0 hz1 hz2 rfl (by omega) (.slice B k d) k _ (by simp [Act.eval]) (HXD.out.kept (below_alloc1 _ _)).own ⟨w9.heap.size, 0, none⟩ 1 1 [.int .i64 p.1, .int .i64 p.2.1, .int .i64 b] (by simp [Act.eval]) (by simp) (three_new rfl) (by simp [Value.oneCell']) (by omega) (by simp only [maxLen]; omega) (by omega) (Nat.le_trans HXD.out.hbs (by simp)) _ rfl ?_
        intro g3 cap3 w10 hown hgr hat hlt3
        obtain ⟨kc, kf, kz, kb, kx⟩ := HXD.out.more hgr hown
        have KX := Lib.hid kx
        have O1 := Lib.hid (HXD.out.other (v3 := .slice (some ⟨g3, 0, none⟩) (k + 1) cap3) hgr P1D.out (by decide) NE1.out)
        have O2 := Lib.hid (HXD.out.other (v3 := .slice (some ⟨g3, 0, none⟩) (k + 1) cap3) hgr P2D.out (by decide) NE2.out)
        have hk10 := HSX.out _ _ _ _ _ hgr hown
        clear hown hgr hat kb kx
        refine hK.out _ _ (hk10) (fun hHeld => ?_)
        clear hK K
        (try simp only [Act.put, List.setIfInBounds_toArray, List.set_cons_zero, List.set_cons_succ])
        refine wpAnyH_take (i := 25) (v := ?v25b) rfl (by kernel_rfl) (by kernel_rfl) (by kernel_rfl) (fun _ _ _ h => h) (Or.inl ⟨by rfl, ?y25b⟩) (by assumption) ?r25b
        case y25b => (intro W hSw; (try dsimp only at hSw); first | (go_simp; done) | (go_simp; with_reducible rfl))
        (try simp only [Act.put, List.setIfInBounds_toArray, List.set_cons_zero, List.set_cons_succ])
        refine wpAnyH_ready (rs := [26]) (by kernel_rfl) (by simp) ?_
        refine AllReadyH.cons rfl (fun K hK => ?_) AllReadyH.nil
        go_simp
        refine hK.out _ _ (HSY.out w10 (.slice (some ⟨g3, 0, none⟩) (k + 1) cap3) hk10) (fun hHeld => ?_)
        clear hK K
        (try simp only [Act.put, List.setIfInBounds_toArray, List.set_cons_zero, List.set_cons_succ])
        refine wpAnyH_done (by kernel_rfl) ?_ _
        clear hHeld kc kf kz E1 E2 F1 F2 E3
        go_wp2
        go_roundw
        case rel => exact ⟨k + 1, i, cap3, (i : Int) - 1, some ⟨g3, 0, none⟩, by omega, rfl, by omega, Lib.hid (by rw [HE.out]; exact KX.out), O1, O2⟩
        case measure => first | (simp [intOf]; done) | (simp [intOf]; omega)
    · obtain rfl : m = 0 := by omega
      obtain rfl : k = N + 1 := by omega
      obtain rfl : z = -1 := by omega
      have xb := HX.out.cell
      have xz := HX.out.lt
      have r0 : wr.cell? ⟨w.heap.size + 1, 0, none⟩ = some (.slice none 0 0) := by rw [cell_of_block HM2.out]; rfl
      have rf := unfrozen_of_block HM2.out
      have rz : w.heap.size + 1 < wr.heap.size := block_size HM2.out
      clear hz hlt
      go_wp2
      exact bodyPost_ret (v := .tuple #[.agg #[.slice B (N + 1) d], .int .i64 0]) (by simp [results, Try.results36, go_sem, r0]) rfl ⟨_, rfl, own_far HX.out.own HM2.out (by decide) 0, HX.out.below.setCell (show w.heap.size ≤ w.heap.size + 1 by omega) _⟩
set_option maxRecDepth 100000 in
set_option maxHeartbeats 4000000 in
theorem impl_yes {c : Nat} (A : Option Addr) (n : Nat) (pts : Nat → P3) (w : World) (hcap : n ≤ 1048576) (hp : PtsAt w A n pts) (hv : vS n pts = true) :
    Calls Try.prog 37 #[.agg #[.slice A n c]] w fun e w' => ∃ v, e = .returned (.tuple #[.agg #[v], .int .i64 0]) ∧ w'.ownsRow w.heap.size 65 3 v (n) (rws (row3 (RV (n - 1) pts)) (n)) ∧ Below w.heap.size w w' := by
  obtain ⟨h1, h60, -⟩ := vS_of hv
  have HPI := Lib.hid (wThinStroke.p_in hv)
  have B0 := Lib.hid (below_alloc2 w (.cells #[.slice A n c] 31) (.cells #[.slice none 0 0] 31))
  have K1 := Lib.hid (show ((w.alloc (.cells #[.slice A n c] 31)).alloc (.cells #[.slice none 0 0] 31)).heap[w.heap.size]? = some (.cells #[.slice A n c] 31 (0, 0)) by rw [Below.heap_alloc _ _ _ (by simp)]; exact heap_alloc_new _ _)
  have K2 := Lib.hid (show ((w.alloc (.cells #[.slice A n c] 31)).alloc (.cells #[.slice none 0 0] 31)).heap[w.heap.size + 1]? = some (.cells #[.slice none 0 0] 31 (0, 0)) by have := heap_alloc_new (w.alloc (.cells #[.slice A n c] 31)) (.cells #[.slice none 0 0] 31); simpa using this)
  have C1 := Lib.hid (show ((w.alloc (.cells #[.slice A n c] 31)).alloc (.cells #[.slice none 0 0] 31)).cell? ⟨w.heap.size, 0, none⟩ = some (.slice A n c) by rw [cell_of_block K1.out]; rfl)
  have HS := Lib.hid (implValid_calls (c := c) A n pts ((w.alloc (.cells #[.slice A n c] 31)).alloc (.cells #[.slice none 0 0] 31)) hcap (hp.kept B0.out))
  rw [hv] at HS
  have HPW := Lib.hid (fun (V : World) (hV : Below w.heap.size w V) => hp.kept hV)
  clear hp hv
  obtain ⟨N, rfl⟩ : ∃ N, n = N + 1 := ⟨n - 1, by omega⟩
  obtain ⟨g0, o0, rfl, hg0, -, -, y0⟩ := HPW.out w (Below.refl _ _) 0 (by omega)
  obtain ⟨g1, o1, e1, -, -, -, yN⟩ := HPW.out w (Below.refl _ _) N (by omega)
  injection e1 with e1
  injection e1 with e1 e2
  subst e1 e2
  simp only [Nat.zero_mul, Nat.add_zero] at y0
  have t0 := HPI.out 0 (by omega)
  have t1 := HPI.out N (by omega)
  have HST := Lib.hid (fun k j => RT_step N pts k j)
  obtain ⟨T0, hT0⟩ : ∃ T, (pts 0).2.2 = T := ⟨_, rfl⟩
  obtain ⟨TN, hTN⟩ : ∃ T, (pts N).2.2 = T := ⟨_, rfl⟩
  rw [hT0] at y0 t0 HST
  rw [hTN] at yN t1 HST
  obtain ⟨a, ha⟩ : ∃ a, T0 + TN = a := ⟨_, rfl⟩
  rw [ha] at HST
  have E1 : IntKind.i64.wrap (T0 + TN) = a := by rw [ha]; exact IntWalk.i64_in _ (by omega)
  have F1 : wrap64 (T0 + TN) = a := by rw [← IntWalk.i64_left]; exact E1
  have HA := Lib.hid (show 0 ≤ a ∧ a ≤ 7200000 by omega)
  clear hT0 hTN ha t0 t1
  go_enter Try.func37, Try.ntmps37
  go_wp2_with fail
  refine HS.out.mono ?_
  rintro e w1 ⟨rfl, hb1⟩
  have B1 := Lib.hid (B0.out.trans (hb1.mono B0.out.size))
  have L1 := Lib.hid ((hb1.block _ (block_size K1.out)).trans K1.out)
  have L2 := Lib.hid ((hb1.block _ (block_size K2.out)).trans K2.out)
  clear hb1 HS B0 K1 K2 C1
  have hN1 : ((N + 1 : Nat) : Int) - 1 = (N : Int) := by omega
  have hN2 : (N : Int) < ((N + 1 : Nat) : Int) := by omega
  have hN3 : (N : Int) < (N : Int) + 1 := by omega
  have E3 : IntKind.i64.wrap (N : Int) = (N : Int) := IntWalk.i64_in _ (by omega)
  have z1 : w.heap.size < w1.heap.size := block_size L1.out
  have hgz : g0 < w1.heap.size := Nat.lt_of_lt_of_le hg0 B1.out.size
  have hmx := stk.mixed
  have x0 := cell_kept (w := w1) (a := ⟨g0, o0 + 2, none⟩) hgz ((B1.out.cell (p := ⟨g0, o0 + 2, none⟩) hg0).trans y0)
  have xN := cell_kept (w := w1) (a := ⟨g0, o0 + N * 3 + 2, none⟩) hgz ((B1.out.cell (p := ⟨g0, o0 + N * 3 + 2, none⟩) hg0).trans yN)
  have xs := cell_kept (w := w1) (a := ⟨w.heap.size, 0, none⟩) (v := .slice (some ⟨g0, o0, none⟩) (N + 1) c) z1 (by rw [cell_of_block L1.out]; rfl)
  clear y0 yN
  go_wp2
  refine wp_region_quiet_kept (by assumption) (by kernel_rfl) ?_
  repeat (first | go_big_quiet_step (fail) | quiet_step (fail))
  refine wpQuiet_nil ?_
  intro w2 hw'
  have hB : Below w1.heap.size w1 w2 := by obtain ⟨⟨wk, hb0⟩, hw''⟩ := hw'; rw [hw'']; exact hb0
  have B2 := Lib.hid (B1.out.trans (hB.mono B1.out.size))
  have M1 := Lib.hid ((hB.block _ (block_size L1.out)).trans L1.out)
  have M2 := Lib.hid ((hB.block _ (block_size L2.out)).trans L2.out)
  clear hw' hB x0 xN xs E1 F1 E3 hgz z1 L1 L2 B1 hmx
  have c1 : w2.cell? ⟨w.heap.size, 0, none⟩ = some (.slice (some ⟨g0, o0, none⟩) (N + 1) c) := by rw [cell_of_block M1.out]; rfl
  have z2 := block_size M1.out
  have HC := Lib.hid (implCopy (c := c) (some ⟨g0, o0, none⟩) (N + 1) pts w2 (by omega) h60 (HPW.out w2 B2.out))
  go_wp2_with fail
  refine HC.out.mono ?_
  rintro e w3 ⟨g, d, rfl, ho, hb⟩
  have B3 := Lib.hid ((B2.out.trans (hb.mono B2.out.size)).trans ((below_alloc1 w3 (.cells #[.slice (some ⟨g, 0, none⟩) (N + 1) d] 31)).mono (B2.out.trans (hb.mono B2.out.size)).size))
  have P2 := Lib.hid ((Below.heap_alloc _ _ _ (Nat.lt_of_lt_of_le (block_size M2.out) hb.size)).trans ((hb.block _ (block_size M2.out)).trans M2.out) : (w3.alloc (.cells #[.slice (some ⟨g, 0, none⟩) (N + 1) d] 31)).heap[w.heap.size + 1]? = _)
  have P5 := Lib.hid (heap_alloc_new w3 (.cells #[.slice (some ⟨g, 0, none⟩) (N + 1) d] 31))
  have HO := Lib.hid (row_low (rown.ownsRow_kept ho (below_alloc1 w3 (.cells #[.slice (some ⟨g, 0, none⟩) (N + 1) d] 31))) (Nat.le_of_lt (Nat.lt_of_lt_of_le z2 (Nat.le_refl _))))
  have HRV := Lib.hid (rev.rev_calls (w3.alloc (.cells #[.slice (some ⟨g, 0, none⟩) (N + 1) d] 31)) h60 HO.out)
  have hg5 : g ≠ w3.heap.size := by
    rintro rfl
    obtain ⟨_, cur, hc⟩ := rown.ownsRow_block HO.out (g := w3.heap.size) rfl
    rw [P5.out] at hc
    injection hc with hc
    injection hc with h1 h2 h3
    exact absurd h2 (by decide)
  have hgr : g ≠ w.heap.size + 1 := by
    rintro rfl
    obtain ⟨_, cur, hc⟩ := rown.ownsRow_block HO.out (g := w.heap.size + 1) rfl
    rw [P2.out] at hc
    injection hc with hc
    injection hc with h1 h2 h3
    exact absurd h2 (by decide)
  have hgw : w.heap.size ≤ g := (rown.ownsRow_block HO.out (g := g) rfl).1
  clear hb ho HC c1 z2
  go_wp2_with fail
  refine HRV.out.mono ?_
  rintro e w4 ⟨rfl, ho, hf⟩
  have Q2 := Lib.hid ((hf.block _ (block_size P2.out) (fun h => hgr h.symm)).trans P2.out)
  have Q5 := Lib.hid ((hf.block _ (block_size P5.out) (fun h => hg5 h.symm)).trans P5.out)
  have B4 := Lib.hid (B3.out.trans (hf.below (B := w.heap.size) (fun x hx => by rw [show x = g from hx]; exact hgw) B3.out.size))
  have HO4 := Lib.hid (own_cast ho fun j _ => RT_zero N pts j)
  have HG5 := Lib.hid hg5
  have HGR := Lib.hid hgr
  have HGW := Lib.hid hgw
  generalize hb5 : w3.heap.size = b5 at *
  clear ho hf HRV P2 P5 B3 HO hb5
  have c5 : w4.cell? ⟨b5, 0, none⟩ = some (.slice (some ⟨g, 0, none⟩) (N + 1) d) := by rw [cell_of_block Q5.out]; rfl
  have z5 := block_size Q5.out
  go_wp2
  clear c5 z5
  go_loopw [35] (fun i w' => ∃ k : Nat, k ≤ N + 1 ∧ i = .int .i64 (k : Int) ∧ Hid (Below w.heap.size w w') ∧ Hid (w'.ownsRow w.heap.size 65 3 (.slice (some ⟨g, 0, none⟩) (N + 1) d) (N + 1) (rws (row3 (RT N pts k)) (N + 1))) ∧ Hid (w'.heap[b5]? = some (.cells #[.slice (some ⟨g, 0, none⟩) (N + 1) d] 31 (0, 0))) ∧ Hid (w'.heap[w.heap.size + 1]? = some (.cells #[.slice none 0 0] 31 (0, 0)))) (fun i _ => N + 1 - (intOf i).toNat)
  case atStart => exact ⟨0, Nat.zero_le _, rfl, B4, HO4, Q5, Q2⟩
  case round =>
    obtain ⟨k, hk, rfl, HB, HW, R5, R2⟩ := hrel
    by_cases hlt : k < N + 1
    · have x0 : wr.cell? ⟨g, k * 3, none⟩ = some (.int .i64 (pts (N - k)).1) := by have := row_cell HW.out (row3_len _) hlt (show 0 < 3 by omega) rfl; rw [RT_at] at this; exact this
      have x1 : wr.cell? ⟨g, k * 3 + 1, none⟩ = some (.int .i64 (pts (N - k)).2.1) := by have := row_cell HW.out (row3_len _) hlt (show 1 < 3 by omega) rfl; rw [RT_at] at this; exact this
      have x2 : wr.cell? ⟨g, k * 3 + 2, none⟩ = some (.int .i64 (pts (N - k)).2.2) := by have := row_cell HW.out (row3_len _) hlt (show 2 < 3 by omega) rfl; rw [RT_at] at this; exact this
      have hpi := HPI.out (N - k) (by omega)
      have hs5 := HST.out k
      have he := RT_at N pts k
      obtain ⟨p, hp⟩ : ∃ p, pts (N - k) = p := ⟨_, rfl⟩
      rw [hp] at x0 x1 x2 hpi hs5 he
      have ha := HA.out
      have HSET := Lib.hid (rown.ownsRow_kept (own_set1 HW.out (.int .i64 (a - p.2.2)) (p := k * 3 + 2) (by rw [rws_len (row3_len _)]; omega)) (below_alloc1 (wr.setCell ⟨g, k * 3 + 2, none⟩ (.int .i64 (a - p.2.2))) (.cells #[.int .i64 p.1, .int .i64 p.2.1, .int .i64 p.2.2] 65)))
      have HEQ := Lib.hid (show (rws (row3 (RT N pts k)) (N + 1)).set (k * 3 + 2) (.int .i64 (a - p.2.2)) = rws (row3 (RT N pts (k + 1))) (N + 1) by
        rw [setT _ _ _ hlt, he]
        exact rws_congr _ fun i _ => by unfold row3; rw [hs5 i])
      have c5 : wr.cell? ⟨b5, 0, none⟩ = some (.slice (some ⟨g, 0, none⟩) (N + 1) d) := by rw [cell_of_block R5.out]; rfl
      have z5 := block_size R5.out
      have xf2 := free_row HW.out
      have xz := rown.row_lt HW.out
      have hki : (k : Int) < (N : Int) + 1 := by omega
      have hzz : w.heap.size ≤ (wr.setCell ⟨g, k * 3 + 2, none⟩ (.int .i64 (a - p.2.2))).heap.size := by simpa [World.setCell] using HB.out.size
      have HBN := Lib.hid ((HB.out.setCell (show w.heap.size ≤ (⟨g, k * 3 + 2, none⟩ : Addr).block from HGW.out) (.int .i64 (a - p.2.2))).alloc hzz (.cells #[.int .i64 p.1, .int .i64 p.2.1, .int .i64 p.2.2] 65))
      have R5N := Lib.hid (show ((wr.setCell ⟨g, k * 3 + 2, none⟩ (.int .i64 (a - p.2.2))).alloc (.cells #[.int .i64 p.1, .int .i64 p.2.1, .int .i64 p.2.2] 65)).heap[b5]? = some (.cells #[.slice (some ⟨g, 0, none⟩) (N + 1) d] 31 (0, 0)) from (Below.heap_alloc _ _ _ (by simpa [World.setCell] using block_size R5.out)).trans ((Below.heap_setCell _ _ _ _ (by simpa using Ne.symm HG5.out)).trans R5.out))
      have R2N := Lib.hid (show ((wr.setCell ⟨g, k * 3 + 2, none⟩ (.int .i64 (a - p.2.2))).alloc (.cells #[.int .i64 p.1, .int .i64 p.2.1, .int .i64 p.2.2] 65)).heap[w.heap.size + 1]? = some (.cells #[.slice none 0 0] 31 (0, 0)) from (Below.heap_alloc _ _ _ (by simpa [World.setCell] using block_size R2.out)).trans ((Below.heap_setCell _ _ _ _ (by simpa using Ne.symm HGR.out)).trans R2.out))
      clear hp hs5 he HW HB R5 R2 hzz
      go_wp2
      go_roundw
      case rel => exact ⟨k + 1, by omega, by go_num, HBN, Lib.hid (by rw [← HEQ.out]; exact HSET.out), R5N, R2N⟩
      case measure => simp [intOf]; omega
    · obtain rfl : k = N + 1 := by omega
      have HV := Lib.hid (own_cast HW.out (RT_end N pts))
      have c5 : wr.cell? ⟨b5, 0, none⟩ = some (.slice (some ⟨g, 0, none⟩) (N + 1) d) := by rw [cell_of_block R5.out]; rfl
      have z5 := block_size R5.out
      have r0 : wr.cell? ⟨w.heap.size + 1, 0, none⟩ = some (.slice none 0 0) := by rw [cell_of_block R2.out]; rfl
      have rf := unfrozen_of_block R2.out
      have rz : w.heap.size + 1 < wr.heap.size := block_size R2.out
      go_wp2
      exact bodyPost_ret (v := .tuple #[.agg #[.slice (some ⟨g, 0, none⟩) (N + 1) d], .int .i64 0]) (by simp [results, Try.results37, go_sem, r0]) rfl ⟨_, rfl, by simpa using own_far HV.out R2.out (by decide) 0, HB.out.setCell (show w.heap.size ≤ w.heap.size + 1 by omega) _⟩
theorem meat (vs0 : Nat → Value) (g0 : Nat → Dat) (ht0 : tyrStroke g0) :
    costRec 1 g0 ≤ 1048576 → ∃ (R : Nat → Dat) (r1 : Int), tyrStroke R ∧ cntRec 1 R ≤ 100000000000 ∧ (∀ (W : World) (us0 : Nat → Value), ReadsRec W 1 us0 g0 → Calls Try.prog 36 #[.agg #[us0 0]] W fun e W' => ∃ xs : Nat → Value, e = .returned (.tuple #[.agg #[xs 0], .int .i64 r1]) ∧ OwnRec W' 1 xs R (iv W.heap.size W'.heap.size) ∧ Below W.heap.size W W') ∧ (∀ (W : World) (us0 : Nat → Value), ReadsRec W 1 us0 g0 → Calls Try.prog 37 #[.agg #[us0 0]] W fun e W' => ∃ xs : Nat → Value, e = .returned (.tuple #[.agg #[xs 0], .int .i64 r1]) ∧ OwnRec W' 1 xs R (iv W.heap.size W'.heap.size) ∧ Below W.heap.size W W') := by
  intro hq
  cases hv : vS (strN g0) (strP g0) with
  | true =>
    have hin : ∀ i j, i < strN g0 → j < 3 → inI64 (fi3 (RV (strN g0 - 1) (strP g0)) i j) := in_yes (strP g0) hv
    exact ⟨datRows (strN g0) 3 (fi3 (RV (strN g0 - 1) (strP g0))), 0, wThinStroke.ty_of _ _, Nat.le_trans (datRows_cnt _ _ _) (by have h1 := (vS_of hv).2.1; omega), fun W us0 h0 => by
        obtain ⟨A, c, e, hn, hp⟩ := reads_str h0 ht0 hq
        rw [e]; exact fin (T := fun v => .tuple #[.agg #[v], .int .i64 0]) (row3_len _) (row3_get _) hin (spec_yes A _ _ W hn hp hv), fun W us0 h0 => by
        obtain ⟨A, c, e, hn, hp⟩ := reads_str h0 ht0 hq
        rw [e]; exact fin (T := fun v => .tuple #[.agg #[v], .int .i64 0]) (row3_len _) (row3_get _) hin (impl_yes A _ _ W hn hp hv)⟩
  | false =>
    have hin : ∀ i j, i < 0 → j < 3 → inI64 (fi3 (fun _ => (0, 0, 0)) i j) := fun i j hi _ => absurd hi (by omega)
    exact ⟨datRows (0) 3 (fi3 (fun _ => (0, 0, 0))), 1, wThinStroke.ty_of _ _, Nat.le_trans (datRows_cnt _ _ _) (by omega), fun W us0 h0 => by
        obtain ⟨A, c, e, hn, hp⟩ := reads_str h0 ht0 hq
        rw [e]; exact fin (T := fun v => .tuple #[.agg #[v], .int .i64 1]) (row3_len _) (row3_get _) hin (spec_no A _ _ W hn hp hv), fun W us0 h0 => by
        obtain ⟨A, c, e, hn, hp⟩ := reads_str h0 ht0 hq
        rw [e]; exact fin (T := fun v => .tuple #[.agg #[v], .int .i64 1]) (row3_len _) (row3_get _) hin (impl_no A _ _ W hn hp hv)⟩
end Go.Proofs.Ytmphnhffelfbgaa.wReverseStroke
