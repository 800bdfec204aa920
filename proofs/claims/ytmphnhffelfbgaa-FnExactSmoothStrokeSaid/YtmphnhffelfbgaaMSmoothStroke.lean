/-
  Proved: both functions that smooth a stroke return the same stroke, in memory of its own.
  Conditions: none.
-/
import Derived.Test.YtmphnhffelfbgaaClone
import Derived.Test.YtmphnhffelfbgaaNear
import Derived.Test.YtmphnhffelfbgaaMThinStroke
import Derived.Test.YtmphnhffelfbgaaWid
import Derived.StillTailTactics
import Derived.BigRegion
import Derived.Deep.RegionHeld3
import Derived.Deep.DeepCutAuto
namespace Go.Proofs.Ytmphnhffelfbgaa.wSmoothStroke
open Go.ChangeShapes Go.WideShapes Go.ChangeAt Go.RowKit Go.Joins
open Go.Proofs.Ytmphnhffelfbgaa.core Go.Proofs.Ytmphnhffelfbgaa.geoM Go.Proofs.Ytmphnhffelfbgaa.stk Go.Proofs.Ytmphnhffelfbgaa.seg Go.Proofs.Ytmphnhffelfbgaa.side Go.Proofs.Ytmphnhffelfbgaa.all Go.Proofs.Ytmphnhffelfbgaa.lenS Go.Proofs.Ytmphnhffelfbgaa.segs Go.Proofs.Ytmphnhffelfbgaa.lenI Go.Proofs.Ytmphnhffelfbgaa.rown Go.Proofs.Ytmphnhffelfbgaa.boxed Go.Proofs.Ytmphnhffelfbgaa.clone Go.Proofs.Ytmphnhffelfbgaa.near
set_option linter.unusedVariables false
set_option linter.unusedSimpArgs false
theorem nearS {K : FuncId} {args : Array Value} {w : World} {v : Value} (h : Calls Try.prog K args w fun e w' => e = .returned v ∧ w = w') : Calls Try.prog K args w fun e w' => e = .returned v ∧ w' = w := h.mono fun _ _ ⟨a, b⟩ => ⟨a, b.symm⟩
def sX (pts : Nat → P3) (j : Nat) : Int := nr ((pts (j - 1)).1 + 2 * (pts j).1 + (pts (j + 1)).1) 4
def sY (pts : Nat → P3) (j : Nat) : Int := nr ((pts (j - 1)).2.1 + 2 * (pts j).2.1 + (pts (j + 1)).2.1) 4
/-- The points of which those up to the k-th one are smoothed. -/
def SM (pts : Nat → P3) (k : Nat) (j : Nat) : P3 := if 1 ≤ j ∧ j < k then (sX pts j, sY pts j, (pts j).2.2) else pts j
theorem SM_one (pts : Nat → P3) (j : Nat) : pts j = SM pts 1 j := by unfold SM; rw [if_neg (by omega)]
theorem SM_at (pts : Nat → P3) (k : Nat) : SM pts k k = pts k := by unfold SM; rw [if_neg (by omega)]
theorem SM_step (pts : Nat → P3) (k : Nat) (hk : 1 ≤ k) (j : Nat) : put (SM pts k) k (sX pts k, sY pts k, (pts k).2.2) j = SM pts (k + 1) j := by
  unfold put SM
  by_cases e : j = k
  · subst e; rw [if_pos rfl, if_pos (by omega)]
  · rw [if_neg e]
    by_cases h : 1 ≤ j ∧ j < k
    · rw [if_pos h, if_pos (by omega)]
    · rw [if_neg h, if_neg (by omega)]
theorem nr_le {a b c : Int} (ha : 0 ≤ a ∧ a ≤ 4095) (hb : 0 ≤ b ∧ b ≤ 4095) (hc : 0 ≤ c ∧ c ≤ 4095) : 0 ≤ nr (a + 2 * b + c) 4 ∧ nr (a + 2 * b + c) 4 ≤ 4095 := by
  unfold nr; omega
theorem in_yes {n : Nat} (pts : Nat → P3) (hv : vS n pts = true) : ∀ i j, i < n → j < 3 → inI64 (fi3 (SM pts (n - 1)) i j) := fun i j hi hj => by
  have h := wThinStroke.p_in hv
  have h1 := h i hi
  unfold fi3 inI64 SM
  by_cases hc : 1 ≤ i ∧ i < n - 1
  · have h0 := h (i - 1) (by omega)
    have h2 := h (i + 1) (by omega)
    have hx := nr_le (a := (pts (i - 1)).1) (b := (pts i).1) (c := (pts (i + 1)).1) (by omega) (by omega) (by omega)
    have hy := nr_le (a := (pts (i - 1)).2.1) (b := (pts i).2.1) (c := (pts (i + 1)).2.1) (by omega) (by omega) (by omega)
    rw [if_pos hc]
    unfold sX sY
    split
    · simp only; omega
    · split <;> (simp only; omega)
  · rw [if_neg hc]
    split
    · omega
    · split <;> omega
set_option maxRecDepth 100000 in
set_option maxHeartbeats 4000000 in
theorem smoothed_calls (x y z : Int) (hx : 0 ≤ x ∧ x ≤ 4095) (hy : 0 ≤ y ∧ y ≤ 4095) (hz : 0 ≤ z ∧ z ≤ 4095) (w : World) :
    Calls Try.prog 73 #[.int .i64 x, .int .i64 y, .int .i64 z] w fun e w' => e = .returned (.int .i64 (nr (x + 2 * y + z) 4)) ∧ w' = w := by
  have HN := Lib.hid (fun W => implNear (x + 2 * y + z) 4 (by omega) (by omega) (by omega) (by omega) W)
  go_enter Try.func73, Try.ntmps73
  go_wp2_with fail
  refine (HN.out _).mono ?_
  rintro e w1 ⟨rfl, rfl⟩
  go_wp2
  go_ret
  exact ⟨rfl, rfl⟩
set_option maxRecDepth 100000 in
set_option maxHeartbeats 4000000 in
theorem spec_no {c : Nat} (A : Option Addr) (n : Nat) (pts : Nat → P3) (w : World) (hcap : n ≤ 1048576) (hp : PtsAt w A n pts) (hv : vS n pts = false) :
    Calls Try.prog 41 #[.agg #[.slice A n c]] w fun e w' => ∃ v, e = .returned (.tuple #[.agg #[v], .int .i64 1]) ∧ w'.ownsRow w.heap.size 65 3 v (0) (rws (row3 (fun _ => (0, 0, 0))) (0)) ∧ Below w.heap.size w w' := by
  have B0 := Lib.hid (below_alloc2 w (.cells #[.slice A n c] 31) (.cells #[.slice none 0 0] 31))
  have K1 := Lib.hid (show ((w.alloc (.cells #[.slice A n c] 31)).alloc (.cells #[.slice none 0 0] 31)).heap[w.heap.size]? = some (.cells #[.slice A n c] 31 (0, 0)) by rw [Below.heap_alloc _ _ _ (by simp)]; exact heap_alloc_new _ _)
  have K2 := Lib.hid (show ((w.alloc (.cells #[.slice A n c] 31)).alloc (.cells #[.slice none 0 0] 31)).heap[w.heap.size + 1]? = some (.cells #[.slice none 0 0] 31 (0, 0)) by have := heap_alloc_new (w.alloc (.cells #[.slice A n c] 31)) (.cells #[.slice none 0 0] 31); simpa using this)
  have C1 := Lib.hid (show ((w.alloc (.cells #[.slice A n c] 31)).alloc (.cells #[.slice none 0 0] 31)).cell? ⟨w.heap.size, 0, none⟩ = some (.slice A n c) by rw [cell_of_block K1.out]; rfl)
  have HS := Lib.hid (l02Stroke_calls (c := c) (o := 0) A w.heap.size n pts ((w.alloc (.cells #[.slice A n c] 31)).alloc (.cells #[.slice none 0 0] 31)) hcap (by simp; omega) C1.out (hp.kept B0.out))
  rw [hv] at HS
  have HPW := Lib.hid (fun (V : World) (hV : Below w.heap.size w V) => hp.kept hV)
  clear hp hv HPW
  go_enter Try.func41, Try.ntmps41
  go_wp2_with fail
  refine HS.out.mono ?_
  rintro e w1 ⟨rfl, hb1⟩
  have B1 := Lib.hid (B0.out.trans (hb1.mono B0.out.size))
  have L1 := Lib.hid ((hb1.block _ (block_size K1.out)).trans K1.out)
  have L2 := Lib.hid ((hb1.block _ (block_size K2.out)).trans K2.out)
  clear hb1 HS B0 K1 K2 C1
  have r0 : w1.cell? ⟨w.heap.size + 1, 0, none⟩ = some (.slice none 0 0) := by rw [cell_of_block L2.out]; rfl
  have rf := unfrozen_of_block L2.out
  have rz : w.heap.size + 1 < w1.heap.size := block_size L2.out
  go_wp2
  exact bodyPost_ret (v := .tuple #[.agg #[.slice none 0 0], .int .i64 1]) (by simp [results, Try.results41, go_sem, r0]) rfl ⟨_, rfl, World.ownsRow_nil _ _ _ _, B1.out.setCell (show w.heap.size ≤ w.heap.size + 1 by omega) _⟩
set_option maxRecDepth 100000 in
set_option maxHeartbeats 4000000 in
theorem impl_no {c : Nat} (A : Option Addr) (n : Nat) (pts : Nat → P3) (w : World) (hcap : n ≤ 1048576) (hp : PtsAt w A n pts) (hv : vS n pts = false) :
    Calls Try.prog 42 #[.agg #[.slice A n c]] w fun e w' => ∃ v, e = .returned (.tuple #[.agg #[v], .int .i64 1]) ∧ w'.ownsRow w.heap.size 65 3 v (0) (rws (row3 (fun _ => (0, 0, 0))) (0)) ∧ Below w.heap.size w w' := by
  have B0 := Lib.hid (below_alloc2 w (.cells #[.slice A n c] 31) (.cells #[.slice none 0 0] 31))
  have K1 := Lib.hid (show ((w.alloc (.cells #[.slice A n c] 31)).alloc (.cells #[.slice none 0 0] 31)).heap[w.heap.size]? = some (.cells #[.slice A n c] 31 (0, 0)) by rw [Below.heap_alloc _ _ _ (by simp)]; exact heap_alloc_new _ _)
  have K2 := Lib.hid (show ((w.alloc (.cells #[.slice A n c] 31)).alloc (.cells #[.slice none 0 0] 31)).heap[w.heap.size + 1]? = some (.cells #[.slice none 0 0] 31 (0, 0)) by have := heap_alloc_new (w.alloc (.cells #[.slice A n c] 31)) (.cells #[.slice none 0 0] 31); simpa using this)
  have C1 := Lib.hid (show ((w.alloc (.cells #[.slice A n c] 31)).alloc (.cells #[.slice none 0 0] 31)).cell? ⟨w.heap.size, 0, none⟩ = some (.slice A n c) by rw [cell_of_block K1.out]; rfl)
  have HS := Lib.hid (implValid_calls (c := c) A n pts ((w.alloc (.cells #[.slice A n c] 31)).alloc (.cells #[.slice none 0 0] 31)) hcap (hp.kept B0.out))
  rw [hv] at HS
  have HPW := Lib.hid (fun (V : World) (hV : Below w.heap.size w V) => hp.kept hV)
  clear hp hv HPW
  go_enter Try.func42, Try.ntmps42
  go_wp2_with fail
  refine HS.out.mono ?_
  rintro e w1 ⟨rfl, hb1⟩
  have B1 := Lib.hid (B0.out.trans (hb1.mono B0.out.size))
  have L1 := Lib.hid ((hb1.block _ (block_size K1.out)).trans K1.out)
  have L2 := Lib.hid ((hb1.block _ (block_size K2.out)).trans K2.out)
  clear hb1 HS B0 K1 K2 C1
  have r0 : w1.cell? ⟨w.heap.size + 1, 0, none⟩ = some (.slice none 0 0) := by rw [cell_of_block L2.out]; rfl
  have rf := unfrozen_of_block L2.out
  have rz : w.heap.size + 1 < w1.heap.size := block_size L2.out
  go_wp2
  exact bodyPost_ret (v := .tuple #[.agg #[.slice none 0 0], .int .i64 1]) (by simp [results, Try.results42, go_sem, r0]) rfl ⟨_, rfl, World.ownsRow_nil _ _ _ _, B1.out.setCell (show w.heap.size ≤ w.heap.size + 1 by omega) _⟩
set_option maxRecDepth 100000 in
set_option maxHeartbeats 4000000 in
theorem spec_yes {c : Nat} (A : Option Addr) (n : Nat) (pts : Nat → P3) (w : World) (hcap : n ≤ 1048576) (hp : PtsAt w A n pts) (hv : vS n pts = true) :
    Calls Try.prog 41 #[.agg #[.slice A n c]] w fun e w' => ∃ v, e = .returned (.tuple #[.agg #[v], .int .i64 0]) ∧ w'.ownsRow w.heap.size 65 3 v (n) (rws (row3 (SM pts (n - 1))) (n)) ∧ Below w.heap.size w w' := by
  obtain ⟨h1, h60, -⟩ := vS_of hv
  have HPI := Lib.hid (wThinStroke.p_in hv)
  have B0 := Lib.hid (below_alloc2 w (.cells #[.slice A n c] 31) (.cells #[.slice none 0 0] 31))
  have K1 := Lib.hid (show ((w.alloc (.cells #[.slice A n c] 31)).alloc (.cells #[.slice none 0 0] 31)).heap[w.heap.size]? = some (.cells #[.slice A n c] 31 (0, 0)) by rw [Below.heap_alloc _ _ _ (by simp)]; exact heap_alloc_new _ _)
  have K2 := Lib.hid (show ((w.alloc (.cells #[.slice A n c] 31)).alloc (.cells #[.slice none 0 0] 31)).heap[w.heap.size + 1]? = some (.cells #[.slice none 0 0] 31 (0, 0)) by have := heap_alloc_new (w.alloc (.cells #[.slice A n c] 31)) (.cells #[.slice none 0 0] 31); simpa using this)
  have C1 := Lib.hid (show ((w.alloc (.cells #[.slice A n c] 31)).alloc (.cells #[.slice none 0 0] 31)).cell? ⟨w.heap.size, 0, none⟩ = some (.slice A n c) by rw [cell_of_block K1.out]; rfl)
  have HS := Lib.hid (l02Stroke_calls (c := c) (o := 0) A w.heap.size n pts ((w.alloc (.cells #[.slice A n c] 31)).alloc (.cells #[.slice none 0 0] 31)) hcap (by simp; omega) C1.out (hp.kept B0.out))
  rw [hv] at HS
  have HPW := Lib.hid (fun (V : World) (hV : Below w.heap.size w V) => hp.kept hV)
  clear hp hv
  go_enter Try.func41, Try.ntmps41
  go_wp2_with fail
  refine HS.out.mono ?_
  rintro e w1 ⟨rfl, hb1⟩
  have B1 := Lib.hid (B0.out.trans (hb1.mono B0.out.size))
  have L1 := Lib.hid ((hb1.block _ (block_size K1.out)).trans K1.out)
  have L2 := Lib.hid ((hb1.block _ (block_size K2.out)).trans K2.out)
  clear hb1 HS B0 K1 K2 C1
  have c1 : w1.cell? ⟨w.heap.size, 0, none⟩ = some (.slice A n c) := by rw [cell_of_block L1.out]; rfl
  have z1 : w.heap.size < w1.heap.size := block_size L1.out
  obtain ⟨g0, o0, rfl, hg0, -, -, -⟩ := HPW.out w (Below.refl _ _) 0 (by omega)
  have HC := Lib.hid (specOwn (c := c) (o := 0) (some ⟨g0, o0, none⟩) w.heap.size n pts w1 h1 h60 z1 c1 (HPW.out w1 B1.out))
  go_wp2_with fail
  refine HC.out.mono ?_
  rintro e w2 ⟨g, d, rfl, ho, hb⟩
  have B2 := Lib.hid (B1.out.trans (hb.mono B1.out.size))
  have HX0 := Lib.hid (BX.start (W0 := w) (W := w2) (B := 31) (base := w.heap.size) (E := 65) (k := 3) B2.out (own_cast (row_low ho (Nat.le_of_lt z1)) fun j _ => SM_one pts j) (Nat.le_refl _) B2.out.size (by decide))
  have M1 := Lib.hid ((Below.heap_alloc _ _ _ (Nat.lt_of_lt_of_le (block_size L1.out) hb.size)).trans ((hb.block _ (block_size L1.out)).trans L1.out) : (w2.alloc (.cells #[.slice (some ⟨g, 0, none⟩) n d] 31)).heap[w.heap.size]? = _)
  have M2 := Lib.hid ((Below.heap_alloc _ _ _ (Nat.lt_of_lt_of_le (block_size L2.out) hb.size)).trans ((hb.block _ (block_size L2.out)).trans L2.out) : (w2.alloc (.cells #[.slice (some ⟨g, 0, none⟩) n d] 31)).heap[w.heap.size + 1]? = _)
  clear hb ho HC L1 L2 B1 c1 z1
  go_wp2
  go_loopw [5] (fun i w' => ∃ j : Nat, (j = 0 ∨ j + 2 ≤ n) ∧ i = .int .i64 ((j + 1 : Nat) : Int) ∧ Hid (BX w w' w2.heap.size 31 w.heap.size 65 3 (.slice (some ⟨g, 0, none⟩) n d) n (rws (row3 (SM pts (j + 1))) n)) ∧ Hid (w'.heap[w.heap.size]? = some (.cells #[.slice (some ⟨g0, o0, none⟩) n c] 31 (0, 0))) ∧ Hid (w'.heap[w.heap.size + 1]? = some (.cells #[.slice none 0 0] 31 (0, 0)))) (fun i _ => n - (intOf i).toNat)
  case atStart => exact ⟨0, .inl rfl, rfl, HX0, M1, M2⟩
  case round =>
    obtain ⟨j, hj, rfl, HX, HM1, HM2⟩ := hrel
    have hs : wr.cell? ⟨w.heap.size, 0, none⟩ = some (.slice (some ⟨g0, o0, none⟩) n c) := by rw [cell_of_block HM1.out]; rfl
    have zs : w.heap.size < wr.heap.size := block_size HM1.out
    by_cases hlt : j + 2 < n
    · obtain ⟨g1, o1, e1, hg, p0, p1, p2⟩ := (HPW.out wr HX.out.below) j (by omega)
      injection e1 with e1
      injection e1 with e1 e2
      subst e1 e2
      obtain ⟨g1, o1, e1, -, q0, q1, q2⟩ := (HPW.out wr HX.out.below) (j + 1) (by omega)
      injection e1 with e1
      injection e1 with e1 e2
      subst e1 e2
      obtain ⟨g1, o1, e1, -, r0, r1, r2⟩ := (HPW.out wr HX.out.below) (j + 1 + 1) (by omega)
      injection e1 with e1
      injection e1 with e1 e2
      subst e1 e2
      have hp0 := HPI.out j (by omega)
      have hp1 := HPI.out (j + 1) (by omega)
      have hp2 := HPI.out (j + 1 + 1) (by omega)
      have HSX := Lib.hid (show sX pts (j + 1) = nr ((pts j).1 + 2 * (pts (j + 1)).1 + (pts (j + 1 + 1)).1) 4 from rfl)
      have HSY := Lib.hid (show sY pts (j + 1) = nr ((pts j).2.1 + 2 * (pts (j + 1)).2.1 + (pts (j + 1 + 1)).2.1) 4 from rfl)
      have HST := Lib.hid (SM_step pts (j + 1) (by omega))
      have HSA := Lib.hid (SM_at pts (j + 1))
      obtain ⟨p, hpk⟩ : ∃ p, pts j = p := ⟨_, rfl⟩
      obtain ⟨q, hqk⟩ : ∃ q, pts (j + 1) = q := ⟨_, rfl⟩
      obtain ⟨r, hrk⟩ : ∃ r, pts (j + 1 + 1) = r := ⟨_, rfl⟩
      rw [hpk] at p0 p1 p2 hp0 HSX HSY
      rw [hqk] at q0 q1 q2 hp1 HSX HSY HST HSA
      rw [hrk] at r0 r1 r2 hp2 HSX HSY
      clear hpk hqk hrk
      have HNX := Lib.hid (fun W => nearS (specNear (p.1 + 2 * q.1 + r.1) 4 (by omega) (by omega) (by omega) (by omega) W))
      have HNY := Lib.hid (fun W => nearS (specNear (p.2.1 + 2 * q.2.1 + r.2.1) 4 (by omega) (by omega) (by omega) (by omega) W))
      rw [← HSX.out] at HNX
      rw [← HSY.out] at HNY
      generalize sX pts (j + 1) = vx at *
      generalize sY pts (j + 1) = vy at *
      have hji : ((j : Int) + 1) < (n : Int) := by omega
      have hj2 : ((j : Int) + 1 + 1) < (n : Int) := by omega
      have hjn : j < n := by omega
      have hj1n : j + 1 < n := by omega
      have hj2n : j + 1 + 1 < n := by omega
      have hw1 : IntKind.i64.wrap (j : Int) = (j : Int) := IntWalk.i64_in _ (by omega)
      have hj0 : (0 : Int) ≤ (j : Int) + 1 := by omega
      have hj00 : (0 : Int) ≤ (j : Int) + 1 + 1 := by omega
      go_wp2
      obtain ⟨w8, hw8⟩ : ∃ w8, w8 = ((wr.alloc (.cells #[.int .i64 p.1, .int .i64 p.2.1, .int .i64 p.2.2] 65)).alloc (.cells #[.int .i64 q.1, .int .i64 q.2.1, .int .i64 q.2.2] 65)).alloc (.cells #[.int .i64 r.1, .int .i64 r.2.1, .int .i64 r.2.2] 65) := ⟨_, rfl⟩
      rw [← hw8]
      have B8 : Below wr.heap.size wr w8 := by rw [hw8]; exact (below_alloc2 wr _ _).trans ((below_alloc1 _ _).mono (below_alloc2 wr _ _).size)
      have K6 : w8.heap[wr.heap.size]? = some (.cells #[.int .i64 p.1, .int .i64 p.2.1, .int .i64 p.2.2] 65 (0, 0)) := by rw [hw8, Below.heap_alloc _ _ _ (by simp; omega), Below.heap_alloc _ _ _ (by simp)]; exact heap_alloc_new _ _
      have K7 : w8.heap[wr.heap.size + 1]? = some (.cells #[.int .i64 q.1, .int .i64 q.2.1, .int .i64 q.2.2] 65 (0, 0)) := by
        rw [hw8, Below.heap_alloc _ _ _ (by simp)]
        have := heap_alloc_new (wr.alloc (.cells #[.int .i64 p.1, .int .i64 p.2.1, .int .i64 p.2.2] 65)) (.cells #[.int .i64 q.1, .int .i64 q.2.1, .int .i64 q.2.2] 65)
        simpa using this
      have K8 : w8.heap[wr.heap.size + 1 + 1]? = some (.cells #[.int .i64 r.1, .int .i64 r.2.1, .int .i64 r.2.2] 65 (0, 0)) := by
        rw [hw8]
        have := heap_alloc_new ((wr.alloc (.cells #[.int .i64 p.1, .int .i64 p.2.1, .int .i64 p.2.2] 65)).alloc (.cells #[.int .i64 q.1, .int .i64 q.2.1, .int .i64 q.2.2] 65)) (.cells #[.int .i64 r.1, .int .i64 r.2.1, .int .i64 r.2.2] 65)
        simpa using this
      obtain ⟨w9, hw9⟩ : ∃ w9, w9 = w8.drew := ⟨_, rfl⟩
      have B9 : Below wr.heap.size wr w9 := by rw [hw9]; exact B8.drew
      have HX9 := Lib.hid (HX.out.kept B9)
      have N1 := Lib.hid ((B9.block _ (block_size HM1.out)).trans HM1.out)
      have N2 := Lib.hid ((B9.block _ (block_size HM2.out)).trans HM2.out)
      have x0 : w9.cell? ⟨wr.heap.size, 0, none⟩ = some (.int .i64 p.1) := by rw [hw9]; show w8.cell? _ = _; rw [cell_of_block K6]; rfl
      have x1 : w9.cell? ⟨wr.heap.size, 1, none⟩ = some (.int .i64 p.2.1) := by rw [hw9]; show w8.cell? _ = _; rw [cell_of_block K6]; rfl
      have y0 : w9.cell? ⟨wr.heap.size + 1, 0, none⟩ = some (.int .i64 q.1) := by rw [hw9]; show w8.cell? _ = _; rw [cell_of_block K7]; rfl
      have y1 : w9.cell? ⟨wr.heap.size + 1, 1, none⟩ = some (.int .i64 q.2.1) := by rw [hw9]; show w8.cell? _ = _; rw [cell_of_block K7]; rfl
      have y2 : w9.cell? ⟨wr.heap.size + 1, 2, none⟩ = some (.int .i64 q.2.2) := by rw [hw9]; show w8.cell? _ = _; rw [cell_of_block K7]; rfl
      have u0 : w9.cell? ⟨wr.heap.size + 1 + 1, 0, none⟩ = some (.int .i64 r.1) := by rw [hw9]; show w8.cell? _ = _; rw [cell_of_block K8]; rfl
      have u1 : w9.cell? ⟨wr.heap.size + 1 + 1, 1, none⟩ = some (.int .i64 r.2.1) := by rw [hw9]; show w8.cell? _ = _; rw [cell_of_block K8]; rfl
      have xb := HX9.out.cell
      have v0 : ∃ v, w9.cell? ⟨g, (j + 1) * 3, none⟩ = some v := ⟨_, row_cell HX9.out.own (row3_len _) (show j + 1 < n by omega) (show 0 < 3 by omega) rfl⟩
      have v1 : ∃ v, w9.cell? ⟨g, (j + 1) * 3 + 1, none⟩ = some v := ⟨_, row_cell HX9.out.own (row3_len _) (show j + 1 < n by omega) (show 1 < 3 by omega) rfl⟩
      have v2 : ∃ v, w9.cell? ⟨g, (j + 1) * 3 + 2, none⟩ = some v := ⟨_, row_cell HX9.out.own (row3_len _) (show j + 1 < n by omega) (show 2 < 3 by omega) rfl⟩
      obtain ⟨v0, hv0⟩ := v0
      obtain ⟨v1, hv1⟩ := v1
      obtain ⟨v2, hv2⟩ := v2
      have vf := free_row HX9.out.own
      have vz := rown.row_lt HX9.out.own
      have HPT := Lib.hid (bx_put3 HX9.out (show j + 1 < n by omega) (vx, vy, q.2.2))
      obtain ⟨_, _, cu, hcu⟩ := bx_low HX9.out
      have HCU := Lib.hid hcu
      have hmx := stk.mixed
      clear hcu p0 p1 p2 q0 q1 q2 r0 r1 r2 hs zs hg K6 K7 K8 B8 B9 HX HM1 HM2 hw1
      obtain ⟨sxa, hxa⟩ : ∃ a, 2 * q.1 = a := ⟨_, rfl⟩
      rw [hxa] at HNX
      obtain ⟨sxb, hxb⟩ : ∃ a, p.1 + sxa = a := ⟨_, rfl⟩
      rw [hxb] at HNX
      obtain ⟨sxc, hxc⟩ : ∃ a, sxb + r.1 = a := ⟨_, rfl⟩
      rw [hxc] at HNX
      have Exa : IntKind.i64.wrap (2 * q.1) = sxa := by rw [hxa]; exact IntWalk.i64_in _ (by omega)
      have Exb : IntKind.i64.wrap (p.1 + sxa) = sxb := by rw [hxb]; exact IntWalk.i64_in _ (by omega)
      have Exc : IntKind.i64.wrap (sxb + r.1) = sxc := by rw [hxc]; exact IntWalk.i64_in _ (by omega)
      obtain ⟨sya, hya⟩ : ∃ a, 2 * q.2.1 = a := ⟨_, rfl⟩
      rw [hya] at HNY
      obtain ⟨syb, hyb⟩ : ∃ a, p.2.1 + sya = a := ⟨_, rfl⟩
      rw [hyb] at HNY
      obtain ⟨syc, hyc⟩ : ∃ a, syb + r.2.1 = a := ⟨_, rfl⟩
      rw [hyc] at HNY
      have Eya : IntKind.i64.wrap (2 * q.2.1) = sya := by rw [hya]; exact IntWalk.i64_in _ (by omega)
      have Eyb : IntKind.i64.wrap (p.2.1 + sya) = syb := by rw [hyb]; exact IntWalk.i64_in _ (by omega)
      have Eyc : IntKind.i64.wrap (syb + r.2.1) = syc := by rw [hyc]; exact IntWalk.i64_in _ (by omega)
      clear hxa hxb hxc hya hyb hyc
      refine wp_region_still_tail 27 (by assumption) (by kernel_rfl) ?_
      rw [show ({ w8 with drawn := w8.drawn + 1 } : World) = w9 from hw9.symm]
      clear hw9 hw8
      simp only [List.take_succ_cons, List.take_zero, List.drop_succ_cons, List.drop_zero]
      iterate 12 still_step
      still_call (HNX.out _)
      iterate 9 still_step
      still_call (HNY.out _)
      iterate 4 still_step
      clear Exa Exb Exc Eya Eyb Eyc
      refine wpStill_nil ?_
      clear x0 x1 y0 y1 y2 u0 u1 xb
      go_wp2
      go_roundw
      case rel => exact ⟨j + 1, .inr (by omega), by go_num, Lib.hid (bx_cast HPT.out (rws_congr n fun i _ => by unfold row3; rw [HST.out i])), Lib.hid (far_set3 HCU.out N1.out (by decide)), Lib.hid (far_set3 HCU.out N2.out (by decide))⟩
      case measure => simp [intOf]; omega
    · have HV := Lib.hid (show ∀ i, i < n → SM pts (j + 1) i = SM pts (n - 1) i from fun i hi => by
        unfold SM
        by_cases h : 1 ≤ i ∧ i < j + 1
        · rw [if_pos h, if_pos (by omega)]
        · rw [if_neg h, if_neg (by omega)])
      have hn1 : ¬ ((j : Int) + 1 + 1 < (n : Int)) := by omega
      have hn2 : ¬ ((j : Int) + 1 < (n : Int) - 1) := by omega
      have xb := HX.out.cell
      have xz := HX.out.lt
      have r0 : wr.cell? ⟨w.heap.size + 1, 0, none⟩ = some (.slice none 0 0) := by rw [cell_of_block HM2.out]; rfl
      have rf := unfrozen_of_block HM2.out
      have rz : w.heap.size + 1 < wr.heap.size := block_size HM2.out
      go_wp2
      exact bodyPost_ret (v := .tuple #[.agg #[.slice (some ⟨g, 0, none⟩) n d], .int .i64 0]) (by simp [results, Try.results41, go_sem, r0]) rfl ⟨_, rfl, own_far (own_cast HX.out.own HV.out) HM2.out (by decide) 0, HX.out.below.setCell (show w.heap.size ≤ w.heap.size + 1 by omega) _⟩
set_option maxRecDepth 100000 in
set_option maxHeartbeats 4000000 in
theorem impl_yes {c : Nat} (A : Option Addr) (n : Nat) (pts : Nat → P3) (w : World) (hcap : n ≤ 1048576) (hp : PtsAt w A n pts) (hv : vS n pts = true) :
    Calls Try.prog 42 #[.agg #[.slice A n c]] w fun e w' => ∃ v, e = .returned (.tuple #[.agg #[v], .int .i64 0]) ∧ w'.ownsRow w.heap.size 65 3 v (n) (rws (row3 (SM pts (n - 1))) (n)) ∧ Below w.heap.size w w' := by
  obtain ⟨h1, h60, -⟩ := vS_of hv
  have HPI := Lib.hid (wThinStroke.p_in hv)
  have B0 := Lib.hid (below_alloc2 w (.cells #[.slice A n c] 31) (.cells #[.slice none 0 0] 31))
  have K1 := Lib.hid (show ((w.alloc (.cells #[.slice A n c] 31)).alloc (.cells #[.slice none 0 0] 31)).heap[w.heap.size]? = some (.cells #[.slice A n c] 31 (0, 0)) by rw [Below.heap_alloc _ _ _ (by simp)]; exact heap_alloc_new _ _)
  have K2 := Lib.hid (show ((w.alloc (.cells #[.slice A n c] 31)).alloc (.cells #[.slice none 0 0] 31)).heap[w.heap.size + 1]? = some (.cells #[.slice none 0 0] 31 (0, 0)) by have := heap_alloc_new (w.alloc (.cells #[.slice A n c] 31)) (.cells #[.slice none 0 0] 31); simpa using this)
  have C1 := Lib.hid (show ((w.alloc (.cells #[.slice A n c] 31)).alloc (.cells #[.slice none 0 0] 31)).cell? ⟨w.heap.size, 0, none⟩ = some (.slice A n c) by rw [cell_of_block K1.out]; rfl)
  have HS := Lib.hid (implValid_calls (c := c) A n pts ((w.alloc (.cells #[.slice A n c] 31)).alloc (.cells #[.slice none 0 0] 31)) hcap (hp.kept B0.out))
  rw [hv] at HS
  have HPW := Lib.hid (fun (V : World) (hV : Below w.heap.size w V) => hp.kept hV)
  clear hp hv
  go_enter Try.func42, Try.ntmps42
  go_wp2_with fail
  refine HS.out.mono ?_
  rintro e w1 ⟨rfl, hb1⟩
  have B1 := Lib.hid (B0.out.trans (hb1.mono B0.out.size))
  have L1 := Lib.hid ((hb1.block _ (block_size K1.out)).trans K1.out)
  have L2 := Lib.hid ((hb1.block _ (block_size K2.out)).trans K2.out)
  clear hb1 HS B0 K1 K2 C1
  have c1 : w1.cell? ⟨w.heap.size, 0, none⟩ = some (.slice A n c) := by rw [cell_of_block L1.out]; rfl
  have z1 : w.heap.size < w1.heap.size := block_size L1.out
  obtain ⟨g0, o0, rfl, hg0, -, -, -⟩ := HPW.out w (Below.refl _ _) 0 (by omega)
  have HC := Lib.hid (implCopy (c := c) (some ⟨g0, o0, none⟩) n pts w1 h1 h60 (HPW.out w1 B1.out))
  go_wp2_with fail
  refine HC.out.mono ?_
  rintro e w2 ⟨g, d, rfl, ho, hb⟩
  have B2 := Lib.hid (B1.out.trans (hb.mono B1.out.size))
  have HX0 := Lib.hid (BX.start (W0 := w) (W := w2) (B := 31) (base := w.heap.size) (E := 65) (k := 3) B2.out (own_cast (row_low ho (Nat.le_of_lt z1)) fun j _ => SM_one pts j) (Nat.le_refl _) B2.out.size (by decide))
  have M1 := Lib.hid ((Below.heap_alloc _ _ _ (Nat.lt_of_lt_of_le (block_size L1.out) hb.size)).trans ((hb.block _ (block_size L1.out)).trans L1.out) : (w2.alloc (.cells #[.slice (some ⟨g, 0, none⟩) n d] 31)).heap[w.heap.size]? = _)
  have M2 := Lib.hid ((Below.heap_alloc _ _ _ (Nat.lt_of_lt_of_le (block_size L2.out) hb.size)).trans ((hb.block _ (block_size L2.out)).trans L2.out) : (w2.alloc (.cells #[.slice (some ⟨g, 0, none⟩) n d] 31)).heap[w.heap.size + 1]? = _)
  clear hb ho HC L1 L2 B1 c1 z1
  go_wp2
  go_loopw [5] (fun i w' => ∃ j : Nat, (j = 0 ∨ j + 2 ≤ n) ∧ i = .int .i64 ((j + 1 : Nat) : Int) ∧ Hid (BX w w' w2.heap.size 31 w.heap.size 65 3 (.slice (some ⟨g, 0, none⟩) n d) n (rws (row3 (SM pts (j + 1))) n)) ∧ Hid (w'.heap[w.heap.size]? = some (.cells #[.slice (some ⟨g0, o0, none⟩) n c] 31 (0, 0))) ∧ Hid (w'.heap[w.heap.size + 1]? = some (.cells #[.slice none 0 0] 31 (0, 0)))) (fun i _ => n - (intOf i).toNat)
  case atStart => exact ⟨0, .inl rfl, rfl, HX0, M1, M2⟩
  case round =>
    obtain ⟨j, hj, rfl, HX, HM1, HM2⟩ := hrel
    have hs : wr.cell? ⟨w.heap.size, 0, none⟩ = some (.slice (some ⟨g0, o0, none⟩) n c) := by rw [cell_of_block HM1.out]; rfl
    have zs : w.heap.size < wr.heap.size := block_size HM1.out
    by_cases hlt : j + 2 < n
    · obtain ⟨g1, o1, e1, hg, p0, p1, p2⟩ := (HPW.out wr HX.out.below) j (by omega)
      injection e1 with e1
      injection e1 with e1 e2
      subst e1 e2
      obtain ⟨g1, o1, e1, -, q0, q1, q2⟩ := (HPW.out wr HX.out.below) (j + 1) (by omega)
      injection e1 with e1
      injection e1 with e1 e2
      subst e1 e2
      obtain ⟨g1, o1, e1, -, r0, r1, r2⟩ := (HPW.out wr HX.out.below) (j + 1 + 1) (by omega)
      injection e1 with e1
      injection e1 with e1 e2
      subst e1 e2
      have hp0 := HPI.out j (by omega)
      have hp1 := HPI.out (j + 1) (by omega)
      have hp2 := HPI.out (j + 1 + 1) (by omega)
      have HSX := Lib.hid (show sX pts (j + 1) = nr ((pts j).1 + 2 * (pts (j + 1)).1 + (pts (j + 1 + 1)).1) 4 from rfl)
      have HSY := Lib.hid (show sY pts (j + 1) = nr ((pts j).2.1 + 2 * (pts (j + 1)).2.1 + (pts (j + 1 + 1)).2.1) 4 from rfl)
      have HST := Lib.hid (SM_step pts (j + 1) (by omega))
      have HSA := Lib.hid (SM_at pts (j + 1))
      obtain ⟨p, hpk⟩ : ∃ p, pts j = p := ⟨_, rfl⟩
      obtain ⟨q, hqk⟩ : ∃ q, pts (j + 1) = q := ⟨_, rfl⟩
      obtain ⟨r, hrk⟩ : ∃ r, pts (j + 1 + 1) = r := ⟨_, rfl⟩
      rw [hpk] at p0 p1 p2 hp0 HSX HSY
      rw [hqk] at q0 q1 q2 hp1 HSX HSY HST HSA
      rw [hrk] at r0 r1 r2 hp2 HSX HSY
      clear hpk hqk hrk
      have HNX := Lib.hid (fun W => smoothed_calls p.1 q.1 r.1 (by omega) (by omega) (by omega) W)
      have HNY := Lib.hid (fun W => smoothed_calls p.2.1 q.2.1 r.2.1 (by omega) (by omega) (by omega) W)
      rw [← HSX.out] at HNX
      rw [← HSY.out] at HNY
      generalize sX pts (j + 1) = vx at *
      generalize sY pts (j + 1) = vy at *
      have hji : ((j : Int) + 1) < (n : Int) := by omega
      have hj2 : ((j : Int) + 1 + 1) < (n : Int) := by omega
      have hjn : j < n := by omega
      have hj1n : j + 1 < n := by omega
      have hj2n : j + 1 + 1 < n := by omega
      have hw1 : IntKind.i64.wrap (j : Int) = (j : Int) := IntWalk.i64_in _ (by omega)
      have hj0 : (0 : Int) ≤ (j : Int) + 1 := by omega
      have hj00 : (0 : Int) ≤ (j : Int) + 1 + 1 := by omega
      have hli2 : (j : Int) + 1 < (n : Int) - 1 := by omega
      have hw2 : IntKind.i64.wrap ((j : Int) + 1 + 1) = (j : Int) + 1 + 1 := IntWalk.i64_in _ (by omega)
      have zs1 : w.heap.size < wr.heap.size + 1 := by omega
      have zs2 : w.heap.size < wr.heap.size + 1 + 1 := by omega
      have zg1 : g0 < wr.heap.size + 1 := by omega
      have zg2 : g0 < wr.heap.size + 1 + 1 := by omega
      have HSS := Lib.hid (show ∀ W, Below wr.heap.size wr W → (Below wr.heap.size wr W ∧ W.cell? ⟨w.heap.size, 0, none⟩ = some (.slice (some ⟨g0, o0, none⟩) n c) ∧ W.cell? ⟨g0, o0 + j * 3, none⟩ = some (.int .i64 p.1) ∧ W.cell? ⟨g0, o0 + j * 3 + 1, none⟩ = some (.int .i64 p.2.1) ∧ W.cell? ⟨g0, o0 + j * 3 + 2, none⟩ = some (.int .i64 p.2.2) ∧ W.cell? ⟨g0, o0 + (j + 1) * 3, none⟩ = some (.int .i64 q.1) ∧ W.cell? ⟨g0, o0 + (j + 1) * 3 + 1, none⟩ = some (.int .i64 q.2.1) ∧ W.cell? ⟨g0, o0 + (j + 1) * 3 + 2, none⟩ = some (.int .i64 q.2.2) ∧ W.cell? ⟨g0, o0 + (j + 1 + 1) * 3, none⟩ = some (.int .i64 r.1) ∧ W.cell? ⟨g0, o0 + (j + 1 + 1) * 3 + 1, none⟩ = some (.int .i64 r.2.1) ∧ W.cell? ⟨g0, o0 + (j + 1 + 1) * 3 + 2, none⟩ = some (.int .i64 r.2.2)) from fun W hW => ⟨hW, (hW.cell (p := ⟨w.heap.size, 0, none⟩) zs).trans hs, (hW.cell (p := ⟨g0, o0 + j * 3, none⟩) hg).trans p0, (hW.cell (p := ⟨g0, o0 + j * 3 + 1, none⟩) hg).trans p1, (hW.cell (p := ⟨g0, o0 + j * 3 + 2, none⟩) hg).trans p2, (hW.cell (p := ⟨g0, o0 + (j + 1) * 3, none⟩) hg).trans q0, (hW.cell (p := ⟨g0, o0 + (j + 1) * 3 + 1, none⟩) hg).trans q1, (hW.cell (p := ⟨g0, o0 + (j + 1) * 3 + 2, none⟩) hg).trans q2, (hW.cell (p := ⟨g0, o0 + (j + 1 + 1) * 3, none⟩) hg).trans r0, (hW.cell (p := ⟨g0, o0 + (j + 1 + 1) * 3 + 1, none⟩) hg).trans r1, (hW.cell (p := ⟨g0, o0 + (j + 1 + 1) * 3 + 2, none⟩) hg).trans r2⟩)
      have HKA := Lib.hid (show ∀ (W : World) (o : Obj), (Below wr.heap.size wr W ∧ W.cell? ⟨w.heap.size, 0, none⟩ = some (.slice (some ⟨g0, o0, none⟩) n c) ∧ W.cell? ⟨g0, o0 + j * 3, none⟩ = some (.int .i64 p.1) ∧ W.cell? ⟨g0, o0 + j * 3 + 1, none⟩ = some (.int .i64 p.2.1) ∧ W.cell? ⟨g0, o0 + j * 3 + 2, none⟩ = some (.int .i64 p.2.2) ∧ W.cell? ⟨g0, o0 + (j + 1) * 3, none⟩ = some (.int .i64 q.1) ∧ W.cell? ⟨g0, o0 + (j + 1) * 3 + 1, none⟩ = some (.int .i64 q.2.1) ∧ W.cell? ⟨g0, o0 + (j + 1) * 3 + 2, none⟩ = some (.int .i64 q.2.2) ∧ W.cell? ⟨g0, o0 + (j + 1 + 1) * 3, none⟩ = some (.int .i64 r.1) ∧ W.cell? ⟨g0, o0 + (j + 1 + 1) * 3 + 1, none⟩ = some (.int .i64 r.2.1) ∧ W.cell? ⟨g0, o0 + (j + 1 + 1) * 3 + 2, none⟩ = some (.int .i64 r.2.2)) → (Below wr.heap.size wr (W.alloc o) ∧ (W.alloc o).cell? ⟨w.heap.size, 0, none⟩ = some (.slice (some ⟨g0, o0, none⟩) n c) ∧ (W.alloc o).cell? ⟨g0, o0 + j * 3, none⟩ = some (.int .i64 p.1) ∧ (W.alloc o).cell? ⟨g0, o0 + j * 3 + 1, none⟩ = some (.int .i64 p.2.1) ∧ (W.alloc o).cell? ⟨g0, o0 + j * 3 + 2, none⟩ = some (.int .i64 p.2.2) ∧ (W.alloc o).cell? ⟨g0, o0 + (j + 1) * 3, none⟩ = some (.int .i64 q.1) ∧ (W.alloc o).cell? ⟨g0, o0 + (j + 1) * 3 + 1, none⟩ = some (.int .i64 q.2.1) ∧ (W.alloc o).cell? ⟨g0, o0 + (j + 1) * 3 + 2, none⟩ = some (.int .i64 q.2.2) ∧ (W.alloc o).cell? ⟨g0, o0 + (j + 1 + 1) * 3, none⟩ = some (.int .i64 r.1) ∧ (W.alloc o).cell? ⟨g0, o0 + (j + 1 + 1) * 3 + 1, none⟩ = some (.int .i64 r.2.1) ∧ (W.alloc o).cell? ⟨g0, o0 + (j + 1 + 1) * 3 + 2, none⟩ = some (.int .i64 r.2.2)) from fun W o h => HSS.out _ (h.1.alloc h.1.size o))
      have HKS := Lib.hid (show ∀ (W : World) (b i : Nat) (v : Value), (Below wr.heap.size wr W ∧ W.cell? ⟨w.heap.size, 0, none⟩ = some (.slice (some ⟨g0, o0, none⟩) n c) ∧ W.cell? ⟨g0, o0 + j * 3, none⟩ = some (.int .i64 p.1) ∧ W.cell? ⟨g0, o0 + j * 3 + 1, none⟩ = some (.int .i64 p.2.1) ∧ W.cell? ⟨g0, o0 + j * 3 + 2, none⟩ = some (.int .i64 p.2.2) ∧ W.cell? ⟨g0, o0 + (j + 1) * 3, none⟩ = some (.int .i64 q.1) ∧ W.cell? ⟨g0, o0 + (j + 1) * 3 + 1, none⟩ = some (.int .i64 q.2.1) ∧ W.cell? ⟨g0, o0 + (j + 1) * 3 + 2, none⟩ = some (.int .i64 q.2.2) ∧ W.cell? ⟨g0, o0 + (j + 1 + 1) * 3, none⟩ = some (.int .i64 r.1) ∧ W.cell? ⟨g0, o0 + (j + 1 + 1) * 3 + 1, none⟩ = some (.int .i64 r.2.1) ∧ W.cell? ⟨g0, o0 + (j + 1 + 1) * 3 + 2, none⟩ = some (.int .i64 r.2.2)) → wr.heap.size ≤ b → (Below wr.heap.size wr (W.setCell ⟨b, i, none⟩ v) ∧ (W.setCell ⟨b, i, none⟩ v).cell? ⟨w.heap.size, 0, none⟩ = some (.slice (some ⟨g0, o0, none⟩) n c) ∧ (W.setCell ⟨b, i, none⟩ v).cell? ⟨g0, o0 + j * 3, none⟩ = some (.int .i64 p.1) ∧ (W.setCell ⟨b, i, none⟩ v).cell? ⟨g0, o0 + j * 3 + 1, none⟩ = some (.int .i64 p.2.1) ∧ (W.setCell ⟨b, i, none⟩ v).cell? ⟨g0, o0 + j * 3 + 2, none⟩ = some (.int .i64 p.2.2) ∧ (W.setCell ⟨b, i, none⟩ v).cell? ⟨g0, o0 + (j + 1) * 3, none⟩ = some (.int .i64 q.1) ∧ (W.setCell ⟨b, i, none⟩ v).cell? ⟨g0, o0 + (j + 1) * 3 + 1, none⟩ = some (.int .i64 q.2.1) ∧ (W.setCell ⟨b, i, none⟩ v).cell? ⟨g0, o0 + (j + 1) * 3 + 2, none⟩ = some (.int .i64 q.2.2) ∧ (W.setCell ⟨b, i, none⟩ v).cell? ⟨g0, o0 + (j + 1 + 1) * 3, none⟩ = some (.int .i64 r.1) ∧ (W.setCell ⟨b, i, none⟩ v).cell? ⟨g0, o0 + (j + 1 + 1) * 3 + 1, none⟩ = some (.int .i64 r.2.1) ∧ (W.setCell ⟨b, i, none⟩ v).cell? ⟨g0, o0 + (j + 1 + 1) * 3 + 2, none⟩ = some (.int .i64 r.2.2)) from fun W b i v h hb => HSS.out _ (h.1.setCell (p := ⟨b, i, none⟩) hb v))
      have HB3 := Lib.hid (show ∀ a b c : Obj, Below wr.heap.size wr (((wr.alloc a).alloc b).alloc c).drew from fun a b c => ((below_alloc2 wr a b).trans ((below_alloc1 _ c).mono (below_alloc2 wr a b).size)).drew)
      have hkw := HSS.out wr (Below.refl _ _)
      have hkd := HSS.out wr.drew (Below.refl _ _).drew
      have htn : ((j : Int) + 1 + 1).toNat = j + 1 + 1 := by omega
      clear zs1 zs2 zg1 zg2
      go_wp2
      go_cut [6, 7, 8] from 15 to 63 (fun s6 s7 s8 wx => ∃ b6 b7 b8 : Nat, s6 = .pointer (some ⟨b6, 0, none⟩) ∧ s7 = .pointer (some ⟨b7, 0, none⟩) ∧ s8 = .pointer (some ⟨b8, 0, none⟩) ∧ Below wr.heap.size wr wx ∧ wr.heap.size ≤ b6 ∧ wr.heap.size ≤ b7 ∧ wr.heap.size ≤ b8 ∧ b6 < wx.heap.size ∧ b7 < wx.heap.size ∧ b8 < wx.heap.size ∧ wx.cell? ⟨b6, 0, none⟩ = some (.int .i64 p.1) ∧ wx.cell? ⟨b6, 1, none⟩ = some (.int .i64 p.2.1) ∧ wx.cell? ⟨b7, 0, none⟩ = some (.int .i64 q.1) ∧ wx.cell? ⟨b7, 1, none⟩ = some (.int .i64 q.2.1) ∧ wx.cell? ⟨b8, 0, none⟩ = some (.int .i64 r.1) ∧ wx.cell? ⟨b8, 1, none⟩ = some (.int .i64 r.2.1))
      case first =>
        go_region_held3 (fun W => (Below wr.heap.size wr W ∧ W.cell? ⟨w.heap.size, 0, none⟩ = some (.slice (some ⟨g0, o0, none⟩) n c) ∧ W.cell? ⟨g0, o0 + j * 3, none⟩ = some (.int .i64 p.1) ∧ W.cell? ⟨g0, o0 + j * 3 + 1, none⟩ = some (.int .i64 p.2.1) ∧ W.cell? ⟨g0, o0 + j * 3 + 2, none⟩ = some (.int .i64 p.2.2) ∧ W.cell? ⟨g0, o0 + (j + 1) * 3, none⟩ = some (.int .i64 q.1) ∧ W.cell? ⟨g0, o0 + (j + 1) * 3 + 1, none⟩ = some (.int .i64 q.2.1) ∧ W.cell? ⟨g0, o0 + (j + 1) * 3 + 2, none⟩ = some (.int .i64 q.2.2) ∧ W.cell? ⟨g0, o0 + (j + 1 + 1) * 3, none⟩ = some (.int .i64 r.1) ∧ W.cell? ⟨g0, o0 + (j + 1 + 1) * 3 + 1, none⟩ = some (.int .i64 r.2.1) ∧ W.cell? ⟨g0, o0 + (j + 1 + 1) * 3 + 2, none⟩ = some (.int .i64 r.2.2))) (first | assumption | exact hkw | exact hkd | exact HKA.out _ _ (by assumption) | exact HSS.out _ (HB3.out _ _ _) | go_keep) (fail)
        all_goals
          go_wp2_with fail
          go_meet
          refine ⟨_, _, _, rfl, rfl, rfl, HB3.out _ _ _, ?_, ?_, ?_, ?_, ?_, ?_, ?_, ?_, ?_, ?_, ?_, ?_⟩
          all_goals first | omega | (simp [World.drew]; done) | (simp [World.drew]; omega) | go_simp
      case rest =>
        obtain ⟨b6, b7, b8, rfl, rfl, rfl, hB, g6, g7, g8, z6, z7, z8, x6, y6, x7, y7, x8, y8⟩ := hcut
        clear hkw hkd HKA HKS HB3 HSS p0 p1 p2 q0 q1 q2 r0 r1 r2 hs
        have hgz := rown.row_lt HX.out.own
        have HXC := Lib.hid (HX.out.kept hB)
        have N1 := Lib.hid ((hB.block _ (block_size HM1.out)).trans HM1.out)
        have N2 := Lib.hid ((hB.block _ (block_size HM2.out)).trans HM2.out)
        clear hB HX HM1 HM2
        have hmx := stk.mixed
        have HX9 := Lib.hid (HXC.out.kept (Below.refl _ _).drew)
        obtain ⟨w9, hw9⟩ : ∃ w9, w9 = wc.drew := ⟨_, rfl⟩
        rw [← hw9] at HX9
        have P1 := Lib.hid (show w9.heap[w.heap.size]? = some (.cells #[.slice (some ⟨g0, o0, none⟩) n c] 31 (0, 0)) by rw [hw9]; exact N1.out)
        have P2 := Lib.hid (show w9.heap[w.heap.size + 1]? = some (.cells #[.slice none 0 0] 31 (0, 0)) by rw [hw9]; exact N2.out)
        have x6' : w9.cell? ⟨b6, 0, none⟩ = some (.int .i64 p.1) := by rw [hw9]; exact x6
        have x7' : w9.cell? ⟨b7, 0, none⟩ = some (.int .i64 q.1) := by rw [hw9]; exact x7
        have x8' : w9.cell? ⟨b8, 0, none⟩ = some (.int .i64 r.1) := by rw [hw9]; exact x8
        have y6' : w9.cell? ⟨b6, 1, none⟩ = some (.int .i64 p.2.1) := by rw [hw9]; exact y6
        have y7' : w9.cell? ⟨b7, 1, none⟩ = some (.int .i64 q.2.1) := by rw [hw9]; exact y7
        have y8' : w9.cell? ⟨b8, 1, none⟩ = some (.int .i64 r.2.1) := by rw [hw9]; exact y8
        have xb := HX9.out.cell
        have vf := free_row HX9.out.own
        have vz := rown.row_lt HX9.out.own
        have HL := Lib.hid (bx_low HX9.out)
        have HXP := Lib.hid (bx_put1 HX9.out (.int .i64 vx) (p := (j + 1) * 3) (by rw [rws_len (row3_len _)]; omega))
        obtain ⟨v0, hv0⟩ : ∃ v, w9.cell? ⟨g, (j + 1) * 3, none⟩ = some v := ⟨_, row_cell HX9.out.own (row3_len _) hj1n (show 0 < 3 by omega) rfl⟩
        obtain ⟨v1, hv1⟩ : ∃ v, w9.cell? ⟨g, (j + 1) * 3 + 1, none⟩ = some v := ⟨_, row_cell HX9.out.own (row3_len _) hj1n (show 1 < 3 by omega) rfl⟩
        clear x6 x7 x8 y6 y7 y8 HXC N1 N2 z6 z7 z8
        go_wp2
        refine wp_region_still_tail 12 (by assumption) (by kernel_rfl) ?_
        rw [show ({ wc with drawn := wc.drawn + 1 } : World) = w9 from hw9.symm]
        clear hw9
        simp only [List.take_succ_cons, List.take_zero, List.drop_succ_cons, List.drop_zero]
        iterate 9 still_step
        still_call (HNX.out _)
        iterate 2 still_step
        refine wpStill_nil ?_
        go_wp2
        clear xb x6' x7' x8'
        obtain ⟨w10, hw10⟩ : ∃ w10, w10 = (w9.setCell ⟨g, (j + 1) * 3, none⟩ (.int .i64 vx)).drew := ⟨_, rfl⟩
        have hx := HXP.out.kept (Below.refl _ _).drew
        rw [← hw10] at hx
        have HX10 := Lib.hid hx
        obtain ⟨_, hgb, cu, hcu⟩ := HL.out
        have Q1 := Lib.hid (show w10.heap[w.heap.size]? = some (.cells #[.slice (some ⟨g0, o0, none⟩) n c] 31 (0, 0)) by rw [hw10]; exact far_set hcu P1.out (by decide) _ _)
        have Q2 := Lib.hid (show w10.heap[w.heap.size + 1]? = some (.cells #[.slice none 0 0] 31 (0, 0)) by rw [hw10]; exact far_set hcu P2.out (by decide) _ _)
        have hfar : ∀ (b i : Nat), b ≠ g → w10.cell? ⟨b, i, none⟩ = w9.cell? ⟨b, i, none⟩ := fun b i hb => by rw [hw10]; exact World.cell?_of_block (show (World.setCell _ _ _).heap[b]? = _ from Below.heap_setCell _ _ _ _ (by simpa using hb))
        have y6 := (hfar b6 1 (by omega)).trans y6'
        have y7 := (hfar b7 1 (by omega)).trans y7'
        have y8 := (hfar b8 1 (by omega)).trans y8'
        have xb := HX10.out.cell
        have vf2 : ∀ i, w10.frozen? ⟨g, i, none⟩ = false := by
          obtain ⟨_, _, cu2, hcu2⟩ := bx_low HX10.out
          exact unfrozen_of_block hcu2
        have vz2 := rown.row_lt HX10.out.own
        have HL2 := Lib.hid (bx_low HX10.out)
        have HXQ := Lib.hid (bx_put1 HX10.out (.int .i64 vy) (p := (j + 1) * 3 + 1) (by simp only [List.length_set]; rw [rws_len (row3_len _)]; omega))
        have hv1' : w10.cell? ⟨g, (j + 1) * 3 + 1, none⟩ = some v1 := by
          rw [hw10]
          show (World.setCell _ _ _).cell? _ = _
          go_simp
        clear hcu hfar hx y6' y7' y8' vf vz hv0 hv1 HX9 P1 P2
        obtain ⟨wz, hwz⟩ : ∃ wz, wz = w9.setCell ⟨g, (j + 1) * 3, none⟩ (.int .i64 vx) := ⟨_, rfl⟩
        rw [← hwz] at hw10 ⊢
        clear hwz
        refine wp_region_still_tail 12 (by assumption) (by kernel_rfl) ?_
        rw [show ({ wz with drawn := wz.drawn + 1 } : World) = w10 from hw10.symm]
        clear hw10
        simp only [List.take_succ_cons, List.take_zero, List.drop_succ_cons, List.drop_zero]
        iterate 9 still_step
        still_call (HNY.out _)
        iterate 2 still_step
        refine wpStill_nil ?_
        go_wp2
        clear xb y6 y7 y8 hv1' vf2 vz2
        have HEQ := Lib.hid (show ((rws (row3 (SM pts (j + 1))) n).set ((j + 1) * 3) (.int .i64 vx)).set ((j + 1) * 3 + 1) (.int .i64 vy) = rws (row3 (SM pts (j + 1 + 1))) n by
          rw [set2 _ _ _ hj1n, HSA.out]
          exact rws_congr n fun i _ => by unfold row3; rw [HST.out i])
        have R1 := Lib.hid (show (w10.setCell ⟨g, (j + 1) * 3 + 1, none⟩ (.int .i64 vy)).heap[w.heap.size]? = some (.cells #[.slice (some ⟨g0, o0, none⟩) n c] 31 (0, 0)) by obtain ⟨_, _, cu, hcu⟩ := HL2.out; exact far_set hcu Q1.out (by decide) _ _)
        have R2 := Lib.hid (show (w10.setCell ⟨g, (j + 1) * 3 + 1, none⟩ (.int .i64 vy)).heap[w.heap.size + 1]? = some (.cells #[.slice none 0 0] 31 (0, 0)) by obtain ⟨_, _, cu, hcu⟩ := HL2.out; exact far_set hcu Q2.out (by decide) _ _)
        go_wp2
        go_roundw
        case rel => exact ⟨j + 1, .inr (by omega), by go_num, Lib.hid (bx_cast HXQ.out HEQ.out), R1, R2⟩
        case measure => simp [intOf]; omega
    · have HV := Lib.hid (show ∀ i, i < n → SM pts (j + 1) i = SM pts (n - 1) i from fun i hi => by
        unfold SM
        by_cases h : 1 ≤ i ∧ i < j + 1
        · rw [if_pos h, if_pos (by omega)]
        · rw [if_neg h, if_neg (by omega)])
      have hn1 : ¬ ((j : Int) + 1 + 1 < (n : Int)) := by omega
      have hn2 : ¬ ((j : Int) + 1 < (n : Int) - 1) := by omega
      have xb := HX.out.cell
      have xz := HX.out.lt
      have r0 : wr.cell? ⟨w.heap.size + 1, 0, none⟩ = some (.slice none 0 0) := by rw [cell_of_block HM2.out]; rfl
      have rf := unfrozen_of_block HM2.out
      have rz : w.heap.size + 1 < wr.heap.size := block_size HM2.out
      go_wp2
      exact bodyPost_ret (v := .tuple #[.agg #[.slice (some ⟨g, 0, none⟩) n d], .int .i64 0]) (by simp [results, Try.results42, go_sem, r0]) rfl ⟨_, rfl, own_far (own_cast HX.out.own HV.out) HM2.out (by decide) 0, HX.out.below.setCell (show w.heap.size ≤ w.heap.size + 1 by omega) _⟩
theorem meat (vs0 : Nat → Value) (g0 : Nat → Dat) (ht0 : tyrStroke g0) :
    costRec 1 g0 ≤ 1048576 → ∃ (R : Nat → Dat) (r1 : Int), tyrStroke R ∧ cntRec 1 R ≤ 100000000000 ∧ (∀ (W : World) (us0 : Nat → Value), ReadsRec W 1 us0 g0 → Calls Try.prog 41 #[.agg #[us0 0]] W fun e W' => ∃ xs : Nat → Value, e = .returned (.tuple #[.agg #[xs 0], .int .i64 r1]) ∧ OwnRec W' 1 xs R (iv W.heap.size W'.heap.size) ∧ Below W.heap.size W W') ∧ (∀ (W : World) (us0 : Nat → Value), ReadsRec W 1 us0 g0 → Calls Try.prog 42 #[.agg #[us0 0]] W fun e W' => ∃ xs : Nat → Value, e = .returned (.tuple #[.agg #[xs 0], .int .i64 r1]) ∧ OwnRec W' 1 xs R (iv W.heap.size W'.heap.size) ∧ Below W.heap.size W W') := by
  intro hq
  cases hv : vS (strN g0) (strP g0) with
  | true =>
    have hin : ∀ i j, i < strN g0 → j < 3 → inI64 (fi3 (SM (strP g0) (strN g0 - 1)) i j) := in_yes (strP g0) hv
    exact ⟨datRows (strN g0) 3 (fi3 (SM (strP g0) (strN g0 - 1))), 0, wThinStroke.ty_of _ _, Nat.le_trans (datRows_cnt _ _ _) (by have h1 := (vS_of hv).2.1; omega), fun W us0 h0 => by
        obtain ⟨A, c, e, hn, hp⟩ := reads_str h0 ht0 hq
        rw [e]; exact fin (T := fun v => .tuple #[.agg #[v], .int .i64 0]) (row3_len _) (row3_get _) hin (spec_yes A _ _ W hn hp hv), fun W us0 h0 => by
        obtain ⟨A, c, e, hn, hp⟩ := reads_str h0 ht0 hq
        rw [e]; exact fin (T := fun v => .tuple #[.agg #[v], .int .i64 0]) (row3_len _) (row3_get _) hin (impl_yes A _ _ W hn hp hv)⟩
  | false =>
    have hin : ∀ i j, i < 0 → j < 3 → inI64 (fi3 (fun _ => (0, 0, 0)) i j) := fun i j hi _ => absurd hi (by omega)
    exact ⟨datRows (0) 3 (fi3 (fun _ => (0, 0, 0))), 1, wThinStroke.ty_of _ _, Nat.le_trans (datRows_cnt _ _ _) (by omega), fun W us0 h0 => by
        obtain ⟨A, c, e, hn, hp⟩ := reads_str h0 ht0 hq
        rw [e]; exact fin (T := fun v => .tuple #[.agg #[v], .int .i64 1]) (row3_len _) (row3_get _) hin (spec_no A _ _ W hn hp hv), fun W us0 h0 => by
        obtain ⟨A, c, e, hn, hp⟩ := reads_str h0 ht0 hq
        rw [e]; exact fin (T := fun v => .tuple #[.agg #[v], .int .i64 1]) (row3_len _) (row3_get _) hin (impl_no A _ _ W hn hp hv)⟩
end Go.Proofs.Ytmphnhffelfbgaa.wSmoothStroke
