/-
  Proved: both functions that leave out points of a stroke that lie close to others return the same stroke, in memory of its own.
  Conditions: none.
-/
import Derived.Test.YtmphnhffelfbgaaLenI
import Derived.Test.YtmphnhffelfbgaaRowN
import Derived.Test.YtmphnhffelfbgaaBoxed
import Derived.Test.YtmphnhffelfbgaaWid
namespace Go.Proofs.Ytmphnhffelfbgaa.wThinStroke
open Go.ChangeShapes Go.WideShapes Go.ChangeAt Go.RowKit Go.Joins
open Go.Proofs.Ytmphnhffelfbgaa.core Go.Proofs.Ytmphnhffelfbgaa.geoM Go.Proofs.Ytmphnhffelfbgaa.stk Go.Proofs.Ytmphnhffelfbgaa.seg Go.Proofs.Ytmphnhffelfbgaa.side Go.Proofs.Ytmphnhffelfbgaa.all Go.Proofs.Ytmphnhffelfbgaa.lenS Go.Proofs.Ytmphnhffelfbgaa.segs Go.Proofs.Ytmphnhffelfbgaa.lenI Go.Proofs.Ytmphnhffelfbgaa.rown Go.Proofs.Ytmphnhffelfbgaa.boxed
set_option linter.unusedVariables false
set_option linter.unusedSimpArgs false
/-- The points that stay among the first k + 1 ones: how many, and which. -/
def th (pts : Nat → P3) (S : Int) (N : Nat) : Nat → Nat × (Nat → P3)
  | 0 => (0, fun _ => pts 0)
  | k + 1 => let r := th pts S N k
    if k + 1 = N ∨ S * 16 ≤ ((len (r.2 r.1) (pts (k + 1)) : Nat) : Int) then (r.1 + 1, push r.2 (r.1 + 1) (pts (k + 1))) else r
theorem th_yes {pts : Nat → P3} {S : Int} {N k m : Nat} {F : Nat → P3} (e : th pts S N k = (m, F)) (h : k + 1 = N ∨ S * 16 ≤ ((len (F m) (pts (k + 1)) : Nat) : Int)) : th pts S N (k + 1) = (m + 1, push F (m + 1) (pts (k + 1))) := by
  rw [th]; simp only [e]; rw [if_pos h]
theorem th_no {pts : Nat → P3} {S : Int} {N k m : Nat} {F : Nat → P3} (e : th pts S N k = (m, F)) (h : ¬ (k + 1 = N ∨ S * 16 ≤ ((len (F m) (pts (k + 1)) : Nat) : Int))) : th pts S N (k + 1) = (m, F) := by
  rw [th]; simp only [e]; rw [if_neg h]
theorem th_le (pts : Nat → P3) (S : Int) (N : Nat) : ∀ k, (th pts S N k).1 ≤ k
  | 0 => Nat.le_refl _
  | k + 1 => by
    have := th_le pts S N k
    rw [th]
    split
    · show (th pts S N k).1 + 1 ≤ k + 1; omega
    · omega
theorem th_all {P : P3 → Prop} (pts : Nat → P3) (S : Int) (N : Nat) : ∀ k, (∀ i, i ≤ k → P (pts i)) → ∀ j, P ((th pts S N k).2 j)
  | 0, h, j => h 0 (Nat.le_refl _)
  | k + 1, h, j => by
    have ih := th_all pts S N k (fun i hi => h i (by omega))
    rw [th]
    split
    · simp only [push]
      split
      · exact h (k + 1) (Nat.le_refl _)
      · exact ih j
    · exact ih j
theorem p_in {n : Nat} {pts : Nat → P3} (hv : vS n pts = true) : ∀ i, i < n → (0 ≤ (pts i).1 ∧ (pts i).1 ≤ 4095 ∧ 0 ≤ (pts i).2.1 ∧ (pts i).2.1 ≤ 4095 ∧ 0 ≤ (pts i).2.2 ∧ (pts i).2.2 ≤ 3600000) := fun i hi => inR_of ((vS_of hv).2.2 i hi).1
abbrev nOf (n : Nat) (pts : Nat → P3) (S : Int) : Nat := (th pts S (n - 1) (n - 1)).1 + 1
abbrev fOf (n : Nat) (pts : Nat → P3) (S : Int) : Nat → P3 := (th pts S (n - 1) (n - 1)).2
theorem in_all {n : Nat} (pts : Nat → P3) (S : Int) (hv : vS n pts = true) : ∀ i j, i < nOf n pts S → j < 3 → inI64 (fi3 (fOf n pts S) i j) := fun i j hi hj => by
  have h1 := (vS_of hv).1
  have hx := th_all (P := fun p => 0 ≤ p.1 ∧ p.1 ≤ 4095 ∧ 0 ≤ p.2.1 ∧ p.2.1 ≤ 4095 ∧ 0 ≤ p.2.2 ∧ p.2.2 ≤ 3600000) pts S (n - 1) (n - 1) (fun i hi => p_in hv i (by omega)) i
  unfold fi3 inI64 fOf
  split
  · omega
  · split <;> omega
theorem ty_of (n : Nat) (f : Nat → Nat → Int) : tyrStroke (datRows n 3 f) := ⟨n, _, rfl, fun i _ => ⟨⟨_, rfl⟩, ⟨_, rfl⟩, ⟨_, rfl⟩⟩⟩
set_option maxRecDepth 100000 in
set_option maxHeartbeats 4000000 in
theorem spec_no {c : Nat} (A : Option Addr) (n : Nat) (pts : Nat → P3) (S : Int) (w : World) (hcap : n ≤ 1048576) (hp : PtsAt w A n pts) (hv : vS n pts = false) :
    Calls Try.prog 39 #[.agg #[.slice A n c], .int .i64 S] w fun e w' => ∃ v, e = .returned (.tuple #[.agg #[v], .int .i64 1]) ∧ w'.ownsRow w.heap.size 65 3 v (0) (rws (row3 (fun _ => (0, 0, 0))) (0)) ∧ Below w.heap.size w w' := by
  have B0 := Lib.hid (below_alloc2 w (.cells #[.slice A n c] 31) (.cells #[.slice none 0 0] 31))
  have K1 := Lib.hid (show ((w.alloc (.cells #[.slice A n c] 31)).alloc (.cells #[.slice none 0 0] 31)).heap[w.heap.size]? = some (.cells #[.slice A n c] 31 (0, 0)) by rw [Below.heap_alloc _ _ _ (by simp)]; exact heap_alloc_new _ _)
  have K2 := Lib.hid (show ((w.alloc (.cells #[.slice A n c] 31)).alloc (.cells #[.slice none 0 0] 31)).heap[w.heap.size + 1]? = some (.cells #[.slice none 0 0] 31 (0, 0)) by have := heap_alloc_new (w.alloc (.cells #[.slice A n c] 31)) (.cells #[.slice none 0 0] 31); simpa using this)
  have C1 := Lib.hid (show ((w.alloc (.cells #[.slice A n c] 31)).alloc (.cells #[.slice none 0 0] 31)).cell? ⟨w.heap.size, 0, none⟩ = some (.slice A n c) by rw [cell_of_block K1.out]; rfl)
  have HS := Lib.hid (l02Stroke_calls (c := c) (o := 0) A w.heap.size n pts ((w.alloc (.cells #[.slice A n c] 31)).alloc (.cells #[.slice none 0 0] 31)) hcap (by simp; omega) C1.out (hp.kept B0.out))
  rw [hv] at HS
  have HPW := Lib.hid (fun (V : World) (hV : Below w.heap.size w V) => hp.kept hV)
  clear hp hv HPW
  go_enter Try.func39, Try.ntmps39
  go_wp2_with fail
  refine HS.out.mono ?_
  rintro e w1 ⟨rfl, hb1⟩
  have B1 := Lib.hid (B0.out.trans (hb1.mono B0.out.size))
  have L1 := Lib.hid ((hb1.block _ (block_size K1.out)).trans K1.out)
  have L2 := Lib.hid ((hb1.block _ (block_size K2.out)).trans K2.out)
  clear hb1 HS B0 K1 K2 C1
  have r0 : w1.cell? ⟨w.heap.size + 1, 0, none⟩ = some (.slice none 0 0) := by rw [cell_of_block L2.out]; rfl
  have rf := unfrozen_of_block L2.out
  have rz : w.heap.size + 1 < w1.heap.size := block_size L2.out
  go_wp2
  exact bodyPost_ret (v := .tuple #[.agg #[.slice none 0 0], .int .i64 1]) (by simp [results, Try.results39, go_sem, r0]) rfl ⟨_, rfl, World.ownsRow_nil _ _ _ _, B1.out.setCell (show w.heap.size ≤ w.heap.size + 1 by omega) _⟩
set_option maxRecDepth 100000 in
set_option maxHeartbeats 4000000 in
theorem spec_rng {c : Nat} (A : Option Addr) (n : Nat) (pts : Nat → P3) (S : Int) (w : World) (hcap : n ≤ 1048576) (hp : PtsAt w A n pts) (hv : vS n pts = true) (hS : ¬ (0 ≤ S ∧ S ≤ 1000)) :
    Calls Try.prog 39 #[.agg #[.slice A n c], .int .i64 S] w fun e w' => ∃ v, e = .returned (.tuple #[.agg #[v], .int .i64 2]) ∧ w'.ownsRow w.heap.size 65 3 v (0) (rws (row3 (fun _ => (0, 0, 0))) (0)) ∧ Below w.heap.size w w' := by
  have B0 := Lib.hid (below_alloc2 w (.cells #[.slice A n c] 31) (.cells #[.slice none 0 0] 31))
  have K1 := Lib.hid (show ((w.alloc (.cells #[.slice A n c] 31)).alloc (.cells #[.slice none 0 0] 31)).heap[w.heap.size]? = some (.cells #[.slice A n c] 31 (0, 0)) by rw [Below.heap_alloc _ _ _ (by simp)]; exact heap_alloc_new _ _)
  have K2 := Lib.hid (show ((w.alloc (.cells #[.slice A n c] 31)).alloc (.cells #[.slice none 0 0] 31)).heap[w.heap.size + 1]? = some (.cells #[.slice none 0 0] 31 (0, 0)) by have := heap_alloc_new (w.alloc (.cells #[.slice A n c] 31)) (.cells #[.slice none 0 0] 31); simpa using this)
  have C1 := Lib.hid (show ((w.alloc (.cells #[.slice A n c] 31)).alloc (.cells #[.slice none 0 0] 31)).cell? ⟨w.heap.size, 0, none⟩ = some (.slice A n c) by rw [cell_of_block K1.out]; rfl)
  have HS := Lib.hid (l02Stroke_calls (c := c) (o := 0) A w.heap.size n pts ((w.alloc (.cells #[.slice A n c] 31)).alloc (.cells #[.slice none 0 0] 31)) hcap (by simp; omega) C1.out (hp.kept B0.out))
  rw [hv] at HS
  have HPW := Lib.hid (fun (V : World) (hV : Below w.heap.size w V) => hp.kept hV)
  clear hp hv HPW
  go_enter Try.func39, Try.ntmps39
  go_wp2_with fail
  refine HS.out.mono ?_
  rintro e w1 ⟨rfl, hb1⟩
  have B1 := Lib.hid (B0.out.trans (hb1.mono B0.out.size))
  have L1 := Lib.hid ((hb1.block _ (block_size K1.out)).trans K1.out)
  have L2 := Lib.hid ((hb1.block _ (block_size K2.out)).trans K2.out)
  clear hb1 HS B0 K1 K2 C1
  have HI := Lib.hid (in_f S 0 1000 hS w1)
  clear hS
  go_wp2_with fail
  refine HI.out.mono ?_
  rintro e w2 ⟨rfl, rfl⟩
  have r0 : w1.cell? ⟨w.heap.size + 1, 0, none⟩ = some (.slice none 0 0) := by rw [cell_of_block L2.out]; rfl
  have rf := unfrozen_of_block L2.out
  have rz : w.heap.size + 1 < w1.heap.size := block_size L2.out
  go_wp2
  exact bodyPost_ret (v := .tuple #[.agg #[.slice none 0 0], .int .i64 2]) (by simp [results, Try.results39, go_sem, r0]) rfl ⟨_, rfl, World.ownsRow_nil _ _ _ _, B1.out.setCell (show w.heap.size ≤ w.heap.size + 1 by omega) _⟩
set_option maxRecDepth 100000 in
set_option maxHeartbeats 4000000 in
theorem impl_no {c : Nat} (A : Option Addr) (n : Nat) (pts : Nat → P3) (S : Int) (w : World) (hcap : n ≤ 1048576) (hp : PtsAt w A n pts) (hv : vS n pts = false) :
    Calls Try.prog 40 #[.agg #[.slice A n c], .int .i64 S] w fun e w' => ∃ v, e = .returned (.tuple #[.agg #[v], .int .i64 1]) ∧ w'.ownsRow w.heap.size 65 3 v (0) (rws (row3 (fun _ => (0, 0, 0))) (0)) ∧ Below w.heap.size w w' := by
  have B0 := Lib.hid (below_alloc2 w (.cells #[.slice A n c] 31) (.cells #[.slice none 0 0] 31))
  have K1 := Lib.hid (show ((w.alloc (.cells #[.slice A n c] 31)).alloc (.cells #[.slice none 0 0] 31)).heap[w.heap.size]? = some (.cells #[.slice A n c] 31 (0, 0)) by rw [Below.heap_alloc _ _ _ (by simp)]; exact heap_alloc_new _ _)
  have K2 := Lib.hid (show ((w.alloc (.cells #[.slice A n c] 31)).alloc (.cells #[.slice none 0 0] 31)).heap[w.heap.size + 1]? = some (.cells #[.slice none 0 0] 31 (0, 0)) by have := heap_alloc_new (w.alloc (.cells #[.slice A n c] 31)) (.cells #[.slice none 0 0] 31); simpa using this)
  have C1 := Lib.hid (show ((w.alloc (.cells #[.slice A n c] 31)).alloc (.cells #[.slice none 0 0] 31)).cell? ⟨w.heap.size, 0, none⟩ = some (.slice A n c) by rw [cell_of_block K1.out]; rfl)
  have HS := Lib.hid (implValid_calls (c := c) A n pts ((w.alloc (.cells #[.slice A n c] 31)).alloc (.cells #[.slice none 0 0] 31)) hcap (hp.kept B0.out))
  rw [hv] at HS
  have HPW := Lib.hid (fun (V : World) (hV : Below w.heap.size w V) => hp.kept hV)
  clear hp hv HPW
  go_enter Try.func40, Try.ntmps40
  go_wp2_with fail
  refine HS.out.mono ?_
  rintro e w1 ⟨rfl, hb1⟩
  have B1 := Lib.hid (B0.out.trans (hb1.mono B0.out.size))
  have L1 := Lib.hid ((hb1.block _ (block_size K1.out)).trans K1.out)
  have L2 := Lib.hid ((hb1.block _ (block_size K2.out)).trans K2.out)
  clear hb1 HS B0 K1 K2 C1
  have r0 : w1.cell? ⟨w.heap.size + 1, 0, none⟩ = some (.slice none 0 0) := by rw [cell_of_block L2.out]; rfl
  have rf := unfrozen_of_block L2.out
  have rz : w.heap.size + 1 < w1.heap.size := block_size L2.out
  go_wp2
  exact bodyPost_ret (v := .tuple #[.agg #[.slice none 0 0], .int .i64 1]) (by simp [results, Try.results40, go_sem, r0]) rfl ⟨_, rfl, World.ownsRow_nil _ _ _ _, B1.out.setCell (show w.heap.size ≤ w.heap.size + 1 by omega) _⟩
set_option maxRecDepth 100000 in
set_option maxHeartbeats 4000000 in
theorem impl_rng {c : Nat} (A : Option Addr) (n : Nat) (pts : Nat → P3) (S : Int) (w : World) (hcap : n ≤ 1048576) (hp : PtsAt w A n pts) (hv : vS n pts = true) (hS : ¬ (0 ≤ S ∧ S ≤ 1000)) :
    Calls Try.prog 40 #[.agg #[.slice A n c], .int .i64 S] w fun e w' => ∃ v, e = .returned (.tuple #[.agg #[v], .int .i64 2]) ∧ w'.ownsRow w.heap.size 65 3 v (0) (rws (row3 (fun _ => (0, 0, 0))) (0)) ∧ Below w.heap.size w w' := by
  have B0 := Lib.hid (below_alloc2 w (.cells #[.slice A n c] 31) (.cells #[.slice none 0 0] 31))
  have K1 := Lib.hid (show ((w.alloc (.cells #[.slice A n c] 31)).alloc (.cells #[.slice none 0 0] 31)).heap[w.heap.size]? = some (.cells #[.slice A n c] 31 (0, 0)) by rw [Below.heap_alloc _ _ _ (by simp)]; exact heap_alloc_new _ _)
  have K2 := Lib.hid (show ((w.alloc (.cells #[.slice A n c] 31)).alloc (.cells #[.slice none 0 0] 31)).heap[w.heap.size + 1]? = some (.cells #[.slice none 0 0] 31 (0, 0)) by have := heap_alloc_new (w.alloc (.cells #[.slice A n c] 31)) (.cells #[.slice none 0 0] 31); simpa using this)
  have C1 := Lib.hid (show ((w.alloc (.cells #[.slice A n c] 31)).alloc (.cells #[.slice none 0 0] 31)).cell? ⟨w.heap.size, 0, none⟩ = some (.slice A n c) by rw [cell_of_block K1.out]; rfl)
  have HS := Lib.hid (implValid_calls (c := c) A n pts ((w.alloc (.cells #[.slice A n c] 31)).alloc (.cells #[.slice none 0 0] 31)) hcap (hp.kept B0.out))
  rw [hv] at HS
  have HPW := Lib.hid (fun (V : World) (hV : Below w.heap.size w V) => hp.kept hV)
  clear hp hv HPW
  by_cases hS0 : S < 0
  · have e0 : decide (S < 0) = true := decide_eq_true hS0
    go_enter Try.func40, Try.ntmps40
    go_wp2_with fail
    refine HS.out.mono ?_
    rintro e w1 ⟨rfl, hb1⟩
    have B1 := Lib.hid (B0.out.trans (hb1.mono B0.out.size))
    have L1 := Lib.hid ((hb1.block _ (block_size K1.out)).trans K1.out)
    have L2 := Lib.hid ((hb1.block _ (block_size K2.out)).trans K2.out)
    clear hb1 HS B0 K1 K2 C1
    have r0 : w1.cell? ⟨w.heap.size + 1, 0, none⟩ = some (.slice none 0 0) := by rw [cell_of_block L2.out]; rfl
    have rf := unfrozen_of_block L2.out
    have rz : w.heap.size + 1 < w1.heap.size := block_size L2.out
    go_wp2
    exact bodyPost_ret (v := .tuple #[.agg #[.slice none 0 0], .int .i64 2]) (by simp [results, Try.results40, go_sem, r0]) rfl ⟨_, rfl, World.ownsRow_nil _ _ _ _, B1.out.setCell (show w.heap.size ≤ w.heap.size + 1 by omega) _⟩
  · have e0 : decide (S < 0) = false := decide_eq_false hS0
    have hS1 : 1000 < S := by omega
    have e1 : decide (1000 < S) = true := decide_eq_true hS1
    go_enter Try.func40, Try.ntmps40
    go_wp2_with fail
    refine HS.out.mono ?_
    rintro e w1 ⟨rfl, hb1⟩
    have B1 := Lib.hid (B0.out.trans (hb1.mono B0.out.size))
    have L1 := Lib.hid ((hb1.block _ (block_size K1.out)).trans K1.out)
    have L2 := Lib.hid ((hb1.block _ (block_size K2.out)).trans K2.out)
    clear hb1 HS B0 K1 K2 C1
    have r0 : w1.cell? ⟨w.heap.size + 1, 0, none⟩ = some (.slice none 0 0) := by rw [cell_of_block L2.out]; rfl
    have rf := unfrozen_of_block L2.out
    have rz : w.heap.size + 1 < w1.heap.size := block_size L2.out
    go_wp2
    exact bodyPost_ret (v := .tuple #[.agg #[.slice none 0 0], .int .i64 2]) (by simp [results, Try.results40, go_sem, r0]) rfl ⟨_, rfl, World.ownsRow_nil _ _ _ _, B1.out.setCell (show w.heap.size ≤ w.heap.size + 1 by omega) _⟩
set_option maxRecDepth 100000 in
set_option maxHeartbeats 4000000 in
theorem spec_yes {c : Nat} (A : Option Addr) (n : Nat) (pts : Nat → P3) (S : Int) (w : World) (hcap : n ≤ 1048576) (hp : PtsAt w A n pts) (hv : vS n pts = true) (hS : 0 ≤ S ∧ S ≤ 1000) :
    Calls Try.prog 39 #[.agg #[.slice A n c], .int .i64 S] w fun e w' => ∃ v, e = .returned (.tuple #[.agg #[v], .int .i64 0]) ∧ w'.ownsRow w.heap.size 65 3 v (nOf n pts S) (rws (row3 (fOf n pts S)) (nOf n pts S)) ∧ Below w.heap.size w w' := by
  obtain ⟨h1, h60, -⟩ := vS_of hv
  obtain ⟨i0, hi0, hz0, hz1, hz2⟩ := rown.info_get infoPoint
  have HR := Lib.hid (vS_rg hv)
  have B0 := Lib.hid (below_alloc2 w (.cells #[.slice A n c] 31) (.cells #[.slice none 0 0] 31))
  have K1 := Lib.hid (show ((w.alloc (.cells #[.slice A n c] 31)).alloc (.cells #[.slice none 0 0] 31)).heap[w.heap.size]? = some (.cells #[.slice A n c] 31 (0, 0)) by rw [Below.heap_alloc _ _ _ (by simp)]; exact heap_alloc_new _ _)
  have K2 := Lib.hid (show ((w.alloc (.cells #[.slice A n c] 31)).alloc (.cells #[.slice none 0 0] 31)).heap[w.heap.size + 1]? = some (.cells #[.slice none 0 0] 31 (0, 0)) by have := heap_alloc_new (w.alloc (.cells #[.slice A n c] 31)) (.cells #[.slice none 0 0] 31); simpa using this)
  have C1 := Lib.hid (show ((w.alloc (.cells #[.slice A n c] 31)).alloc (.cells #[.slice none 0 0] 31)).cell? ⟨w.heap.size, 0, none⟩ = some (.slice A n c) by rw [cell_of_block K1.out]; rfl)
  have HS := Lib.hid (l02Stroke_calls (c := c) (o := 0) A w.heap.size n pts ((w.alloc (.cells #[.slice A n c] 31)).alloc (.cells #[.slice none 0 0] 31)) hcap (by simp; omega) C1.out (hp.kept B0.out))
  rw [hv] at HS
  have HPW := Lib.hid (fun (V : World) (hV : Below w.heap.size w V) => hp.kept hV)
  obtain ⟨N, rfl⟩ : ∃ N, n = N + 1 := ⟨n - 1, by omega⟩
  have HTF := Lib.hid (fun k (hk : k ≤ N) => th_all (P := Rg) pts S N k (fun i hi => HR.out i (by omega)))
  have HTL := Lib.hid (th_le pts S N)
  have HEN := Lib.hid (show nOf (N + 1) pts S = (th pts S N N).1 + 1 from rfl)
  have HEF := Lib.hid (show fOf (N + 1) pts S = (th pts S N N).2 from rfl)
  clear hp hv
  go_enter Try.func39, Try.ntmps39
  go_wp2_with fail
  refine HS.out.mono ?_
  rintro e w1 ⟨rfl, hb1⟩
  have B1 := Lib.hid (B0.out.trans (hb1.mono B0.out.size))
  have L1 := Lib.hid ((hb1.block _ (block_size K1.out)).trans K1.out)
  have L2 := Lib.hid ((hb1.block _ (block_size K2.out)).trans K2.out)
  clear hb1 HS B0 K1 K2 C1
  have HI := Lib.hid (in_t S 0 1000 hS w1)
  have c1 : w1.cell? ⟨w.heap.size, 0, none⟩ = some (.slice A (N + 1) c) := by rw [cell_of_block L1.out]; rfl
  have z1 : w.heap.size < w1.heap.size := block_size L1.out
  go_wp2_with fail
  refine HI.out.mono ?_
  rintro e w2 ⟨rfl, rfl⟩
  obtain ⟨g0, o0, rfl, hg0, p0, p1, p2⟩ := HPW.out w1 B1.out 0 (by omega)
  simp only [Nat.zero_mul, Nat.add_zero] at p0 p1 p2
  have HX0 := Lib.hid (show BX w ((w1.alloc (.cells #[.int .i64 (pts 0).1, .int .i64 (pts 0).2.1, .int .i64 (pts 0).2.2] 65)).alloc (.cells #[.slice (some ⟨w1.heap.size, 0, none⟩) 1 1] 31)) (w1.heap.size + 1) 31 w.heap.size 65 3 (.slice (some ⟨w1.heap.size, 0, none⟩) 1 1) 1 (rws (row3 fun _ => pts 0) 1) from by
    have := BX.start (W0 := w) (W := w1.alloc (.cells #[.int .i64 (pts 0).1, .int .i64 (pts 0).2.1, .int .i64 (pts 0).2.2] 65)) (B := 31) (base := w.heap.size) (E := 65) (k := 3) (v := .slice (some ⟨w1.heap.size, 0, none⟩) 1 1) (n := 1) (xs := rws (row3 fun _ => pts 0) 1) (B1.out.trans ((below_alloc1 _ _).mono B1.out.size)) (row_low (block_row w1 65 _) (Nat.le_of_lt z1)) (Nat.le_refl _) (by simp; omega) (by decide)
    simpa using this)
  have M1 := Lib.hid ((Below.heap_alloc _ _ _ (by simp; omega)).trans ((Below.heap_alloc _ _ _ (block_size L1.out)).trans L1.out) : ((w1.alloc (.cells #[.int .i64 (pts 0).1, .int .i64 (pts 0).2.1, .int .i64 (pts 0).2.2] 65)).alloc (.cells #[.slice (some ⟨w1.heap.size, 0, none⟩) 1 1] 31)).heap[w.heap.size]? = _)
  have M2 := Lib.hid ((Below.heap_alloc _ _ _ (by have := block_size L2.out; simp; omega)).trans ((Below.heap_alloc _ _ _ (block_size L2.out)).trans L2.out) : ((w1.alloc (.cells #[.int .i64 (pts 0).1, .int .i64 (pts 0).2.1, .int .i64 (pts 0).2.2] 65)).alloc (.cells #[.slice (some ⟨w1.heap.size, 0, none⟩) 1 1] 31)).heap[w.heap.size + 1]? = _)
  have z2 : w.heap.size + 1 < w1.heap.size := block_size L2.out
  have Z2 := Lib.hid z2
  clear HI L1 L2 B1
  go_wp2
  clear c1 p0 p1 p2 z1 z2 hg0
  have HN6 := Lib.hid (show w.heap.size + 1 < w1.heap.size + 1 by have := Z2.out; omega)
  go_loopw [7] (fun i w' => ∃ (k m d g : Nat) (F : Nat → P3), k ≤ N ∧ i = .int .i64 ((k + 1 : Nat) : Int) ∧ m ≤ k ∧ Hid (th pts S N k = (m, F)) ∧ Hid (BX w w' (w1.heap.size + 1) 31 w.heap.size 65 3 (.slice (some ⟨g, 0, none⟩) (m + 1) d) (m + 1) (rws (row3 F) (m + 1))) ∧ Hid (w'.heap[w.heap.size]? = some (.cells #[.slice (some ⟨g0, o0, none⟩) (N + 1) c] 31 (0, 0))) ∧ Hid (w'.heap[w.heap.size + 1]? = some (.cells #[.slice none 0 0] 31 (0, 0)))) (fun i _ => N + 1 - (intOf i).toNat)
  case atStart => exact ⟨0, 0, 1, _, _, Nat.zero_le _, rfl, Nat.le_refl _, Lib.hid rfl, HX0, M1, M2⟩
  case round =>
    obtain ⟨k, m, d, g, F, hk, rfl, hmk, HT, HX, HM1, HM2⟩ := hrel
    have hs : wr.cell? ⟨w.heap.size, 0, none⟩ = some (.slice (some ⟨g0, o0, none⟩) (N + 1) c) := by rw [cell_of_block HM1.out]; rfl
    by_cases hlt : k < N
    · obtain ⟨g1, o1, e1, hg, p0, p1, p2⟩ := (HPW.out wr HX.out.below) (k + 1) (by omega)
      injection e1 with e1
      injection e1 with e1 e2
      subst e1 e2
      have xb := HX.out.cell
      have xf := HX.out.free
      have xz := HX.out.lt
      have hrow : ∀ j, j < 3 → ∃ u, wr.cell? ⟨g, m * 3 + j, none⟩ = some u ∧ (row3 F m)[j]? = some u := fun j hj => ⟨_, row_cell HX.out.own (row3_len F) (show m < m + 1 by omega) hj (row3_get F m j hj), row3_get F m j hj⟩
      have y0 : wr.cell? ⟨g, m * 3, none⟩ = some (.int .i64 (F m).1) := row_cell HX.out.own (row3_len F) (show m < m + 1 by omega) (show 0 < 3 by omega) rfl
      have y1 : wr.cell? ⟨g, m * 3 + 1, none⟩ = some (.int .i64 (F m).2.1) := row_cell HX.out.own (row3_len F) (show m < m + 1 by omega) (show 1 < 3 by omega) rfl
      have y2 : wr.cell? ⟨g, m * 3 + 2, none⟩ = some (.int .i64 (F m).2.2) := row_cell HX.out.own (row3_len F) (show m < m + 1 by omega) (show 2 < 3 by omega) rfl
      have yz := rown.row_lt HX.out.own
      have HFR := Lib.hid (show Rg (F m) by have := HTF.out k hk m; rw [HT.out] at this; exact this)
      have HL := Lib.hid (fun W => specLen (F m) (pts (k + 1)) HFR.out (HR.out (k + 1) (by omega)) W)
      have hll := len_le HFR.out (HR.out (k + 1) (by omega))
      have HTY := Lib.hid (fun h => th_yes HT.out h)
      have HTN := Lib.hid (fun h => th_no HT.out h)
      have HPU := Lib.hid (rws_push F (m + 1) (pts (k + 1)))
      generalize len (F m) (pts (k + 1)) = L at *
      obtain ⟨q, hqk⟩ : ∃ q, pts (k + 1) = q := ⟨_, rfl⟩
      rw [hqk] at p0 p1 p2 HL HTY HPU
      obtain ⟨p, hpk⟩ : ∃ p, F m = p := ⟨_, rfl⟩
      rw [hpk] at y0 y1 y2 HL
      clear hqk hpk HFR hrow
      have hli : ((k : Int) + 1) < ((N : Int) + 1) := by omega
      have hm1 : (m : Int) < (m : Int) + 1 := by omega
      have HSU := Lib.hid hs
      have B8 := Lib.hid (below_alloc1 wr (.cells #[.int .i64 p.1, .int .i64 p.2.1, .int .i64 p.2.2] 65))
      have hwm : IntKind.i64.wrap (m : Int) = (m : Int) := IntWalk.i64_in _ (by omega)
      go_wp2
      obtain ⟨w8, hw8⟩ : ∃ w8, w8 = wr.alloc (.cells #[.int .i64 p.1, .int .i64 p.2.1, .int .i64 p.2.2] 65) := ⟨_, rfl⟩
      have K8' := heap_alloc_new wr (.cells #[.int .i64 p.1, .int .i64 p.2.1, .int .i64 p.2.2] 65)
      rw [← hw8] at B8 K8' ⊢
      have HX8 := Lib.hid (HX.out.kept B8.out)
      have N1 := Lib.hid ((B8.out.block _ (block_size HM1.out)).trans HM1.out)
      have N2 := Lib.hid ((B8.out.block _ (block_size HM2.out)).trans HM2.out)
      have hg8 : g0 < w8.heap.size := Nat.lt_of_lt_of_le hg B8.out.size
      have q0 := (B8.out.cell (p := ⟨g0, o0 + (k + 1) * 3, none⟩) hg).trans p0
      have q1 := (B8.out.cell (p := ⟨g0, o0 + (k + 1) * 3 + 1, none⟩) hg).trans p1
      have q2 := (B8.out.cell (p := ⟨g0, o0 + (k + 1) * 3 + 2, none⟩) hg).trans p2
      obtain ⟨b8, hb8⟩ : ∃ b8, wr.heap.size = b8 := ⟨_, rfl⟩
      rw [hb8] at K8' ⊢
      have hz8 := block_size K8'
      have z1 := block_size N1.out
      have HXN := Lib.hid (fun (W : World) (hW : Below w8.heap.size w8 W) => HX8.out.kept hW)
      have cA := cell_kept (w := w8) (a := ⟨w.heap.size, 0, none⟩) (v := .slice (some ⟨g0, o0, none⟩) (N + 1) c) z1 (by rw [cell_of_block N1.out]; rfl)
      have cP0 := cell_kept (w := w8) (a := ⟨b8, 0, none⟩) (v := .int .i64 p.1) hz8 (by rw [cell_of_block K8']; rfl)
      have cP1 := cell_kept (w := w8) (a := ⟨b8, 1, none⟩) (v := .int .i64 p.2.1) hz8 (by rw [cell_of_block K8']; rfl)
      have cP2 := cell_kept (w := w8) (a := ⟨b8, 2, none⟩) (v := .int .i64 p.2.2) hz8 (by rw [cell_of_block K8']; rfl)
      have cQ0 := cell_kept (w := w8) (a := ⟨g0, o0 + (k + 1) * 3, none⟩) hg8 q0
      have cQ1 := cell_kept (w := w8) (a := ⟨g0, o0 + (k + 1) * 3 + 1, none⟩) hg8 q1
      have cQ2 := cell_kept (w := w8) (a := ⟨g0, o0 + (k + 1) * 3 + 2, none⟩) hg8 q2
      have HQ := Lib.hid (And.intro q0 (And.intro q1 q2))
      have HG8 := Lib.hid hg8
      have hk1N : k + 1 < N + 1 := by omega
      have hk0 : (0 : Int) ≤ (k : Int) + 1 := by omega
      clear hw8 hb8 K8' HX HM1 HM2 B8 y0 y1 y2 p0 p1 p2 q0 q1 q2 xb xf xz yz hg hg8 hz8 z1 hwm hm1 HX8 hs HSU
      have hmx := stk.mixed
      have W1 : IntKind.i64.wrap (S * 16) = S * 16 := IntWalk.i64_in _ (by omega)
      have W2 : wrap64 (S * 16) = S * 16 := by rw [← IntWalk.i64_left]; exact W1
      have hu : undef = Value.tuple #[] := rfl
      have hcs : k + 1 = N ∨ (¬ k + 1 = N ∧ S * 16 ≤ (L : Int)) ∨ (¬ k + 1 = N ∧ ¬ S * 16 ≤ (L : Int)) := by omega
      rcases hcs with hl | ⟨hl, hc⟩ | ⟨hl, hc⟩
      · have HTK := Lib.hid (HTY.out (.inl hl))
        have e0 : ((k : Int) + 1 == (N : Int)) = true := by simp; omega
        have e0' : decide ((k : Int) + 1 = (N : Int)) = true := decide_eq_true (by omega)
        clear hl HTN HTY
        refine wp_region_quiet_kept (by assumption) (by kernel_rfl) ?_
        repeat (first | go_big_quiet_step ((go_at_call 59; exact Calls.kept_of (HL.out _))) | quiet_step ((go_at_call 59; exact Calls.kept_of (HL.out _))))
        refine wpQuiet_nil ?_
        intro w9 hw'
        have hB : Below w8.heap.size w8 w9 := by obtain ⟨⟨wk, hb0⟩, hw''⟩ := hw'; rw [hw'']; exact hb0
        have HX9 := Lib.hid (HXN.out _ hB)
        have P1 := Lib.hid ((hB.block _ (block_size N1.out)).trans N1.out)
        have P2 := Lib.hid ((hB.block _ (block_size N2.out)).trans N2.out)
        have q0 := (hB.cell (p := ⟨g0, o0 + (k + 1) * 3, none⟩) HG8.out).trans HQ.out.1
        have q1 := (hB.cell (p := ⟨g0, o0 + (k + 1) * 3 + 1, none⟩) HG8.out).trans HQ.out.2.1
        have q2 := (hB.cell (p := ⟨g0, o0 + (k + 1) * 3 + 2, none⟩) HG8.out).trans HQ.out.2.2
        clear hw' hB cA cP0 cP1 cP2 cQ0 cQ1 cQ2 W1 W2 hmx hu N1 N2 HXN HQ
        have hs9 : w9.cell? ⟨w.heap.size, 0, none⟩ = some (.slice (some ⟨g0, o0, none⟩) (N + 1) c) := by rw [cell_of_block P1.out]; rfl
        have xb := HX9.out.cell
        have xz9 := HX9.out.lt
        have HXD := Lib.hid (HX9.out.kept (Below.refl w9.heap.size w9).drew)
        have P1D := Lib.hid (show w9.drew.heap[w.heap.size]? = _ from P1.out)
        have P2D := Lib.hid (show w9.drew.heap[w.heap.size + 1]? = _ from P2.out)
        have hn6 := HN6.out
        have NE1 := Lib.hid (show w.heap.size ≠ w1.heap.size + 1 by omega)
        have NE2 := Lib.hid (show w.heap.size + 1 ≠ w1.heap.size + 1 by omega)
        clear hn6 e0 e0'
        try clear e1 hc
        go_wp2
        go_region_law (refine step_append_lies _ rfl (.tmp 56) (.tmp 62) _ rfl w.heap.size 65 i0 _ 3 24 Try.underlying29 hi0 hz0 hz1 hz2 rfl (by omega) (.slice (some ⟨g, 0, none⟩) (m + 1) d) (m + 1) _ (by simp [Act.eval]) (HXD.out.kept (below_alloc1 _ _)).own ⟨w9.heap.size, 0, none⟩ 1 1 [.int .i64 q.1, .int .i64 q.2.1, .int .i64 q.2.2] (by simp [Act.eval]) (by simp) (three_new rfl) (by simp [Value.oneCell']) (by omega) (by simp only [maxLen]; omega) (by omega) (Nat.le_trans HXD.out.hbs (by simp)) _ rfl ?_; intro g3 cap3 w10 hown hgr hat hlt3; obtain ⟨kc, kf, kz, kb, kx⟩ := HXD.out.more hgr hown; have KX := Lib.hid kx; have O1 := Lib.hid (HXD.out.other (v3 := .slice (some ⟨g3, 0, none⟩) (m + 1 + 1) cap3) hgr P1D.out (by decide) NE1.out); have O2 := Lib.hid (HXD.out.other (v3 := .slice (some ⟨g3, 0, none⟩) (m + 1 + 1) cap3) hgr P2D.out (by decide) NE2.out); clear hown hgr hat kb kx)
        all_goals
          clear hs9 xb q0 q1 q2 xz9
          go_wp2
          go_roundw
          case rel => exact ⟨k + 1, m + 1, cap3, g3, push F (m + 1) q, by omega, by go_num, by omega, HTK, Lib.hid (by rw [HPU.out]; exact KX.out), O1, O2⟩
          case measure => simp [intOf]; omega
      · have HTK := Lib.hid (HTY.out (.inr hc))
        have e0 : ((k : Int) + 1 == (N : Int)) = false := by simp; omega
        have e0' : decide ((k : Int) + 1 = (N : Int)) = false := decide_eq_false (by omega)
        have e1 : decide (S * 16 ≤ (L : Int)) = true := decide_eq_true hc
        clear hl HTN HTY
        refine wp_region_quiet_kept (by assumption) (by kernel_rfl) ?_
        repeat (first | go_big_quiet_step ((go_at_call 59; exact Calls.kept_of (HL.out _))) | quiet_step ((go_at_call 59; exact Calls.kept_of (HL.out _))))
        refine wpQuiet_nil ?_
        intro w9 hw'
        have hB : Below w8.heap.size w8 w9 := by obtain ⟨⟨wk, hb0⟩, hw''⟩ := hw'; rw [hw'']; exact hb0
        have HX9 := Lib.hid (HXN.out _ hB)
        have P1 := Lib.hid ((hB.block _ (block_size N1.out)).trans N1.out)
        have P2 := Lib.hid ((hB.block _ (block_size N2.out)).trans N2.out)
        have q0 := (hB.cell (p := ⟨g0, o0 + (k + 1) * 3, none⟩) HG8.out).trans HQ.out.1
        have q1 := (hB.cell (p := ⟨g0, o0 + (k + 1) * 3 + 1, none⟩) HG8.out).trans HQ.out.2.1
        have q2 := (hB.cell (p := ⟨g0, o0 + (k + 1) * 3 + 2, none⟩) HG8.out).trans HQ.out.2.2
        clear hw' hB cA cP0 cP1 cP2 cQ0 cQ1 cQ2 W1 W2 hmx hu N1 N2 HXN HQ
        have hs9 : w9.cell? ⟨w.heap.size, 0, none⟩ = some (.slice (some ⟨g0, o0, none⟩) (N + 1) c) := by rw [cell_of_block P1.out]; rfl
        have xb := HX9.out.cell
        have xz9 := HX9.out.lt
        have HXD := Lib.hid (HX9.out.kept (Below.refl w9.heap.size w9).drew)
        have P1D := Lib.hid (show w9.drew.heap[w.heap.size]? = _ from P1.out)
        have P2D := Lib.hid (show w9.drew.heap[w.heap.size + 1]? = _ from P2.out)
        have hn6 := HN6.out
        have NE1 := Lib.hid (show w.heap.size ≠ w1.heap.size + 1 by omega)
        have NE2 := Lib.hid (show w.heap.size + 1 ≠ w1.heap.size + 1 by omega)
        clear hn6 e0 e0'
        try clear e1 hc
        go_wp2
        go_region_law (refine step_append_lies _ rfl (.tmp 56) (.tmp 62) _ rfl w.heap.size 65 i0 _ 3 24 Try.underlying29 hi0 hz0 hz1 hz2 rfl (by omega) (.slice (some ⟨g, 0, none⟩) (m + 1) d) (m + 1) _ (by simp [Act.eval]) (HXD.out.kept (below_alloc1 _ _)).own ⟨w9.heap.size, 0, none⟩ 1 1 [.int .i64 q.1, .int .i64 q.2.1, .int .i64 q.2.2] (by simp [Act.eval]) (by simp) (three_new rfl) (by simp [Value.oneCell']) (by omega) (by simp only [maxLen]; omega) (by omega) (Nat.le_trans HXD.out.hbs (by simp)) _ rfl ?_; intro g3 cap3 w10 hown hgr hat hlt3; obtain ⟨kc, kf, kz, kb, kx⟩ := HXD.out.more hgr hown; have KX := Lib.hid kx; have O1 := Lib.hid (HXD.out.other (v3 := .slice (some ⟨g3, 0, none⟩) (m + 1 + 1) cap3) hgr P1D.out (by decide) NE1.out); have O2 := Lib.hid (HXD.out.other (v3 := .slice (some ⟨g3, 0, none⟩) (m + 1 + 1) cap3) hgr P2D.out (by decide) NE2.out); clear hown hgr hat kb kx)
        all_goals
          clear hs9 xb q0 q1 q2 xz9
          go_wp2
          go_roundw
          case rel => exact ⟨k + 1, m + 1, cap3, g3, push F (m + 1) q, by omega, by go_num, by omega, HTK, Lib.hid (by rw [HPU.out]; exact KX.out), O1, O2⟩
          case measure => simp [intOf]; omega
      · have HTK := Lib.hid (HTN.out (by rintro (h | h) <;> contradiction))
        have e0 : ((k : Int) + 1 == (N : Int)) = false := by simp; omega
        have e0' : decide ((k : Int) + 1 = (N : Int)) = false := decide_eq_false (by omega)
        have e1 : decide (S * 16 ≤ (L : Int)) = false := decide_eq_false hc
        clear hl HTN HTY
        refine wp_region_quiet_kept (by assumption) (by kernel_rfl) ?_
        repeat (first | go_big_quiet_step ((go_at_call 59; exact Calls.kept_of (HL.out _))) | quiet_step ((go_at_call 59; exact Calls.kept_of (HL.out _))))
        refine wpQuiet_nil ?_
        intro w9 hw'
        have hB : Below w8.heap.size w8 w9 := by obtain ⟨⟨wk, hb0⟩, hw''⟩ := hw'; rw [hw'']; exact hb0
        have HX9 := Lib.hid (HXN.out _ hB)
        have P1 := Lib.hid ((hB.block _ (block_size N1.out)).trans N1.out)
        have P2 := Lib.hid ((hB.block _ (block_size N2.out)).trans N2.out)
        have q0 := (hB.cell (p := ⟨g0, o0 + (k + 1) * 3, none⟩) HG8.out).trans HQ.out.1
        have q1 := (hB.cell (p := ⟨g0, o0 + (k + 1) * 3 + 1, none⟩) HG8.out).trans HQ.out.2.1
        have q2 := (hB.cell (p := ⟨g0, o0 + (k + 1) * 3 + 2, none⟩) HG8.out).trans HQ.out.2.2
        clear hw' hB cA cP0 cP1 cP2 cQ0 cQ1 cQ2 W1 W2 hmx hu N1 N2 HXN HQ
        clear e0 e0' hc
        try clear e1
        go_wp2
        go_roundw
        case rel => exact ⟨k + 1, m, d, g, F, by omega, by go_num, by omega, HTK, HX9, P1, P2⟩
        case measure => simp [intOf]; omega
    · obtain rfl : k = N := by omega
      have HV := Lib.hid (show (th pts S k k).1 + 1 = m + 1 ∧ (th pts S k k).2 = F by rw [HT.out]; exact ⟨rfl, rfl⟩)
      have xb := HX.out.cell
      have xz := HX.out.lt
      have hz6 := HN6.out
      have r0 : wr.cell? ⟨w.heap.size + 1, 0, none⟩ = some (.slice none 0 0) := by rw [cell_of_block HM2.out]; rfl
      have rf := unfrozen_of_block HM2.out
      have rz : w.heap.size + 1 < wr.heap.size := block_size HM2.out
      have HBB := Lib.hid HX.out.below
      have HOO := Lib.hid HX.out.own
      have HNE := Lib.hid (fun gg (hg : Value.ownBlock (.slice (some ⟨g, 0, none⟩) (m + 1) d) = some gg) => (show gg ≠ w.heap.size + 1 by
        obtain ⟨_, cur, hc⟩ := rown.ownsRow_block HX.out.own hg
        intro e
        rw [e, HM2.out] at hc
        injection hc with hc
        injection hc with h1 h2 h3
        exact absurd h2 (by decide)))
      clear hz6
      go_wp2
      refine bodyPost_ret (v := .tuple #[.agg #[.slice (some ⟨g, 0, none⟩) (m + 1) d], .int .i64 0]) (by simp [results, Try.results39, go_sem, r0]) rfl ⟨_, rfl, ?_, HBB.out.setCell (show w.heap.size ≤ w.heap.size + 1 by omega) _⟩
      rw [HEN.out, HEF.out, HV.out.1, HV.out.2]
      exact rown.ownsRow_same HOO.out fun gg hg => Below.heap_setCell _ _ _ _ (by simp only; exact HNE.out gg hg)
set_option maxRecDepth 100000 in
set_option maxHeartbeats 4000000 in
theorem impl_yes {c : Nat} (A : Option Addr) (n : Nat) (pts : Nat → P3) (S : Int) (w : World) (hcap : n ≤ 1048576) (hp : PtsAt w A n pts) (hv : vS n pts = true) (hS : 0 ≤ S ∧ S ≤ 1000) :
    Calls Try.prog 40 #[.agg #[.slice A n c], .int .i64 S] w fun e w' => ∃ v, e = .returned (.tuple #[.agg #[v], .int .i64 0]) ∧ w'.ownsRow w.heap.size 65 3 v (nOf n pts S) (rws (row3 (fOf n pts S)) (nOf n pts S)) ∧ Below w.heap.size w w' := by
  obtain ⟨h1, h60, -⟩ := vS_of hv
  obtain ⟨i0, hi0, hz0, hz1, hz2⟩ := rown.info_get infoPoint
  have HR := Lib.hid (vS_rg hv)
  have B0 := Lib.hid (below_alloc2 w (.cells #[.slice A n c] 31) (.cells #[.slice none 0 0] 31))
  have K1 := Lib.hid (show ((w.alloc (.cells #[.slice A n c] 31)).alloc (.cells #[.slice none 0 0] 31)).heap[w.heap.size]? = some (.cells #[.slice A n c] 31 (0, 0)) by rw [Below.heap_alloc _ _ _ (by simp)]; exact heap_alloc_new _ _)
  have K2 := Lib.hid (show ((w.alloc (.cells #[.slice A n c] 31)).alloc (.cells #[.slice none 0 0] 31)).heap[w.heap.size + 1]? = some (.cells #[.slice none 0 0] 31 (0, 0)) by have := heap_alloc_new (w.alloc (.cells #[.slice A n c] 31)) (.cells #[.slice none 0 0] 31); simpa using this)
  have C1 := Lib.hid (show ((w.alloc (.cells #[.slice A n c] 31)).alloc (.cells #[.slice none 0 0] 31)).cell? ⟨w.heap.size, 0, none⟩ = some (.slice A n c) by rw [cell_of_block K1.out]; rfl)
  have HS := Lib.hid (implValid_calls (c := c) A n pts ((w.alloc (.cells #[.slice A n c] 31)).alloc (.cells #[.slice none 0 0] 31)) hcap (hp.kept B0.out))
  rw [hv] at HS
  have HPW := Lib.hid (fun (V : World) (hV : Below w.heap.size w V) => hp.kept hV)
  obtain ⟨N, rfl⟩ : ∃ N, n = N + 1 := ⟨n - 1, by omega⟩
  have HTF := Lib.hid (fun k (hk : k ≤ N) => th_all (P := Rg) pts S N k (fun i hi => HR.out i (by omega)))
  have HTL := Lib.hid (th_le pts S N)
  have HEN := Lib.hid (show nOf (N + 1) pts S = (th pts S N N).1 + 1 from rfl)
  have HEF := Lib.hid (show fOf (N + 1) pts S = (th pts S N N).2 from rfl)
  have e0 : decide (S < 0) = false := decide_eq_false (by omega)
  have e1 : decide (1000 < S) = false := decide_eq_false (by omega)
  clear hp hv
  go_enter Try.func40, Try.ntmps40
  go_wp2_with fail
  refine HS.out.mono ?_
  rintro e w1 ⟨rfl, hb1⟩
  have B1 := Lib.hid (B0.out.trans (hb1.mono B0.out.size))
  have L1 := Lib.hid ((hb1.block _ (block_size K1.out)).trans K1.out)
  have L2 := Lib.hid ((hb1.block _ (block_size K2.out)).trans K2.out)
  clear hb1 HS B0 K1 K2 C1
  have c1 : w1.cell? ⟨w.heap.size, 0, none⟩ = some (.slice A (N + 1) c) := by rw [cell_of_block L1.out]; rfl
  have z1 : w.heap.size < w1.heap.size := block_size L1.out
  obtain ⟨g0, o0, rfl, hg0, p0, p1, p2⟩ := HPW.out w1 B1.out 0 (by omega)
  simp only [Nat.zero_mul, Nat.add_zero] at p0 p1 p2
  have BB := Lib.hid (below_alloc1 w1 (.cells #[.int .i64 (pts 0).1, .int .i64 (pts 0).2.1, .int .i64 (pts 0).2.2] 65))
  have HO0 := Lib.hid (row_low (block_row w1 65 (pts 0)) (Nat.le_of_lt z1))
  have B2 := Lib.hid (B1.out.trans (BB.out.mono B1.out.size))
  have M1 := Lib.hid ((BB.out.block _ (block_size L1.out)).trans L1.out)
  have M2 := Lib.hid ((BB.out.block _ (block_size L2.out)).trans L2.out)
  clear L1 L2 B1 BB
  go_wp2
  clear c1 p0 p1 p2 z1 hg0 e0 e1
  go_loopw [6, 8] (fun o i w' => ∃ (k m d g : Nat) (F : Nat → P3), k ≤ N ∧ i = .int .i64 ((k + 1 : Nat) : Int) ∧ o = .slice (some ⟨g, 0, none⟩) (m + 1) d ∧ m ≤ k ∧ Hid (th pts S N k = (m, F)) ∧ Hid (w'.ownsRow w.heap.size 65 3 (.slice (some ⟨g, 0, none⟩) (m + 1) d) (m + 1) (rws (row3 F) (m + 1))) ∧ Hid (Below w.heap.size w w') ∧ Hid (w'.heap[w.heap.size]? = some (.cells #[.slice (some ⟨g0, o0, none⟩) (N + 1) c] 31 (0, 0))) ∧ Hid (w'.heap[w.heap.size + 1]? = some (.cells #[.slice none 0 0] 31 (0, 0)))) (fun _ i _ => N + 1 - (intOf i).toNat)
  case atStart => exact ⟨0, 0, 1, _, _, Nat.zero_le _, rfl, rfl, Nat.le_refl _, Lib.hid rfl, HO0, B2, M1, M2⟩
  case round =>
    obtain ⟨k, m, d, g, F, hk, rfl, rfl, hmk, HT, HO, HB, HM1, HM2⟩ := hrel
    by_cases hlt : k < N
    · obtain ⟨g1, o1, e1, hg, p0, p1, p2⟩ := (HPW.out wr HB.out) (k + 1) (by omega)
      injection e1 with e1
      injection e1 with e1 e2
      subst e1 e2
      have hs : wr.cell? ⟨w.heap.size, 0, none⟩ = some (.slice (some ⟨g0, o0, none⟩) (N + 1) c) := by rw [cell_of_block HM1.out]; rfl
      have zs : w.heap.size < wr.heap.size := block_size HM1.out
      have y0 : wr.cell? ⟨g, m * 3, none⟩ = some (.int .i64 (F m).1) := row_cell HO.out (row3_len F) (show m < m + 1 by omega) (show 0 < 3 by omega) rfl
      have y1 : wr.cell? ⟨g, m * 3 + 1, none⟩ = some (.int .i64 (F m).2.1) := row_cell HO.out (row3_len F) (show m < m + 1 by omega) (show 1 < 3 by omega) rfl
      have y2 : wr.cell? ⟨g, m * 3 + 2, none⟩ = some (.int .i64 (F m).2.2) := row_cell HO.out (row3_len F) (show m < m + 1 by omega) (show 2 < 3 by omega) rfl
      have yz := rown.row_lt HO.out
      have HFR := Lib.hid (show Rg (F m) by have := HTF.out k hk m; rw [HT.out] at this; exact this)
      have HL := Lib.hid (fun W => side.length_calls (F m) (pts (k + 1)) HFR.out (HR.out (k + 1) (by omega)) W)
      have hll := len_le HFR.out (HR.out (k + 1) (by omega))
      have HTY := Lib.hid (fun h => th_yes HT.out h)
      have HTN := Lib.hid (fun h => th_no HT.out h)
      have HPU := Lib.hid (rws_push F (m + 1) (pts (k + 1)))
      generalize len (F m) (pts (k + 1)) = L at *
      obtain ⟨q, hqk⟩ : ∃ q, pts (k + 1) = q := ⟨_, rfl⟩
      rw [hqk] at p0 p1 p2 HL HTY HPU
      obtain ⟨p, hpk⟩ : ∃ p, F m = p := ⟨_, rfl⟩
      rw [hpk] at y0 y1 y2 HL
      clear hqk hpk HFR
      have hli : ((k : Int) + 1) ≤ (N : Int) := by omega
      have hm1 : (m : Int) < (m : Int) + 1 := by omega
      have hwm : IntKind.i64.wrap (m : Int) = (m : Int) := IntWalk.i64_in _ (by omega)
      have hk1N : k + 1 < N + 1 := by omega
      have hk0 : (0 : Int) ≤ (k : Int) + 1 := by omega
      have BX := Lib.hid ((Below.refl wr.heap.size wr).drew.trans (below_alloc1 wr.drew (.cells #[.int .i64 p.1, .int .i64 p.2.1, .int .i64 p.2.2, .int .i64 q.1, .int .i64 q.2.1, .int .i64 q.2.2] 76)))
      have BK := Lib.hid (heap_alloc_new wr.drew (.cells #[.int .i64 p.1, .int .i64 p.2.1, .int .i64 p.2.2, .int .i64 q.1, .int .i64 q.2.1, .int .i64 q.2.2] 76))
      have HQ := Lib.hid (And.intro hg (And.intro p0 (And.intro p1 p2)))
      go_wp2
      go_region
      obtain ⟨w8, hw8⟩ : ∃ w8, w8 = (wr.alloc (.cells #[.int .i64 p.1, .int .i64 p.2.1, .int .i64 p.2.2, .int .i64 q.1, .int .i64 q.2.1, .int .i64 q.2.2] 76)).drew := ⟨_, rfl⟩
      rw [← hw8]
      have B8 := Lib.hid (show Below wr.heap.size wr w8 by rw [hw8]; exact (below_alloc1 wr _).drew)
      have K8' : w8.heap[wr.heap.size]? = some (.cells #[.int .i64 p.1, .int .i64 p.2.1, .int .i64 p.2.2, .int .i64 q.1, .int .i64 q.2.1, .int .i64 q.2.2] 76 (0, 0)) := by rw [hw8]; exact heap_alloc_new wr _
      have HO8 := Lib.hid (rown.ownsRow_kept HO.out B8.out)
      have HB8 := Lib.hid (HB.out.trans (B8.out.mono HB.out.size))
      have N1 := Lib.hid ((B8.out.block _ (block_size HM1.out)).trans HM1.out)
      have N2 := Lib.hid ((B8.out.block _ (block_size HM2.out)).trans HM2.out)
      have hg8 : g0 < w8.heap.size := Nat.lt_of_lt_of_le hg B8.out.size
      have q0 := (B8.out.cell (p := ⟨g0, o0 + (k + 1) * 3, none⟩) hg).trans p0
      have q1 := (B8.out.cell (p := ⟨g0, o0 + (k + 1) * 3 + 1, none⟩) hg).trans p1
      have q2 := (B8.out.cell (p := ⟨g0, o0 + (k + 1) * 3 + 2, none⟩) hg).trans p2
      clear HQ BX BK
      have HQ := Lib.hid (And.intro q0 (And.intro q1 q2))
      have HG8 := Lib.hid hg8
      have hz8 := block_size K8'
      have cP0 : w8.cell? ⟨wr.heap.size, 0, none⟩ = some (.int .i64 p.1) := by rw [cell_of_block K8']; rfl
      have cP1 : w8.cell? ⟨wr.heap.size, 1, none⟩ = some (.int .i64 p.2.1) := by rw [cell_of_block K8']; rfl
      have cP2 : w8.cell? ⟨wr.heap.size, 2, none⟩ = some (.int .i64 p.2.2) := by rw [cell_of_block K8']; rfl
      have cP3 : w8.cell? ⟨wr.heap.size, 3, none⟩ = some (.int .i64 q.1) := by rw [cell_of_block K8']; rfl
      have cP4 : w8.cell? ⟨wr.heap.size, 4, none⟩ = some (.int .i64 q.2.1) := by rw [cell_of_block K8']; rfl
      have cP5 : w8.cell? ⟨wr.heap.size, 5, none⟩ = some (.int .i64 q.2.2) := by rw [cell_of_block K8']; rfl
      clear hw8 K8' HO HB HM1 HM2 B8 y0 y1 y2 p0 p1 p2 q0 q1 q2 yz hg hg8 hz8 hwm hm1 hs zs
      have W1 : IntKind.i64.wrap (S * 16) = S * 16 := IntWalk.i64_in _ (by omega)
      have W2 : wrap64 (S * 16) = S * 16 := by rw [← IntWalk.i64_left]; exact W1
      have hcs : k + 1 = N ∨ (¬ k + 1 = N ∧ S * 16 ≤ (L : Int)) ∨ (¬ k + 1 = N ∧ ¬ S * 16 ≤ (L : Int)) := by omega
      rcases hcs with hl | ⟨hl, hc⟩ | ⟨hl, hc⟩
      · have HTK := Lib.hid (HTY.out (.inl hl))
        have e0 : ((k : Int) + 1 == (N : Int)) = true := by simp; omega
        have e0' : decide ((k : Int) + 1 = (N : Int)) = true := decide_eq_true (by omega)
        clear hl HTN HTY cP0 cP1 cP2 cP3 cP4 cP5 W1 W2
        obtain ⟨q0, q1, q2⟩ := HQ.out
        have hs8 : w8.cell? ⟨w.heap.size, 0, none⟩ = some (.slice (some ⟨g0, o0, none⟩) (N + 1) c) := by rw [cell_of_block N1.out]; rfl
        go_wp2_with (first
          | (at_builtin
             have z0 := rown.ownsRow_kept HO8.out (below_alloc1 w8 (.cells #[.int .i64 q.1, .int .i64 q.2.1, .int .i64 q.2.2] 65))
             have z2 : ∀ u ∈ [Value.int .i64 q.1, Value.int .i64 q.2.1, Value.int .i64 q.2.2], u.oneCell' = true := (by simp [Value.oneCell'])
             have z3 : m + 1 + 1 ≤ maxLen := (by simp only [maxLen]; omega)
             have z4 : (m + 1 + 1) * 24 ≤ 140737488355328 := (by omega)
             have z5 : w.heap.size ≤ (w8.alloc (.cells #[.int .i64 q.1, .int .i64 q.2.1, .int .i64 q.2.2] 65)).heap.size := (Nat.le_trans HB8.out.size (by simp))
             refine wpList_append_lies (w8.alloc (.cells #[.int .i64 q.1, .int .i64 q.2.1, .int .i64 q.2.2] 65)) rfl _ _ 29 rfl w.heap.size 65 i0 _ 3 24 Try.underlying29 hi0 hz0 hz1 hz2 rfl (by decide) (.slice (some ⟨g, 0, none⟩) (m + 1) d) (m + 1) _ rfl z0 ⟨w8.heap.size, 0, none⟩ 1 1 [.int .i64 q.1, .int .i64 q.2.1, .int .i64 q.2.2] rfl rfl (three_new rfl) z2 (by decide) z3 z4 z5 _ rfl ?_
             intro g3 cap3 w10 hown hgr hat hlt3
             have HO10 := Lib.hid hown
             have HB10 := Lib.hid (HB8.out.trans (rown.under HO8.out HB8.out.size hgr))
             have O1 := Lib.hid (grown_block HO8.out hgr N1.out (by decide))
             have O2 := Lib.hid (grown_block HO8.out hgr N2.out (by decide))
             clear hown hgr hat z0 z2 z3 z4 z5))
        go_roundw
        case rel => exact ⟨k + 1, m + 1, cap3, g3, push F (m + 1) q, by omega, by go_num, rfl, by omega, HTK, Lib.hid (by rw [HPU.out]; exact HO10.out), HB10, O1, O2⟩
        case measure => simp [intOf]; omega
      · have HTK := Lib.hid (HTY.out (.inr hc))
        have e0 : ((k : Int) + 1 == (N : Int)) = false := by simp; omega
        have e0' : decide ((k : Int) + 1 = (N : Int)) = false := decide_eq_false (by omega)
        have e1 : decide (S * 16 ≤ (L : Int)) = true := decide_eq_true hc
        clear hl HTN HTY
        go_wp2_with fail
        with_reducible refine (HL.out _).mono ?_
        rintro e w9 ⟨rfl, hB⟩
        have HO9 := Lib.hid (rown.ownsRow_kept HO8.out hB)
        have HB9 := Lib.hid (HB8.out.trans (hB.mono HB8.out.size))
        have P1 := Lib.hid ((hB.block _ (block_size N1.out)).trans N1.out)
        have P2 := Lib.hid ((hB.block _ (block_size N2.out)).trans N2.out)
        have q0 := (hB.cell (p := ⟨g0, o0 + (k + 1) * 3, none⟩) HG8.out).trans HQ.out.1
        have q1 := (hB.cell (p := ⟨g0, o0 + (k + 1) * 3 + 1, none⟩) HG8.out).trans HQ.out.2.1
        have q2 := (hB.cell (p := ⟨g0, o0 + (k + 1) * 3 + 2, none⟩) HG8.out).trans HQ.out.2.2
        clear hB cP0 cP1 cP2 cP3 cP4 cP5 N1 N2 HQ HO8 HB8
        have hs9 : w9.cell? ⟨w.heap.size, 0, none⟩ = some (.slice (some ⟨g0, o0, none⟩) (N + 1) c) := by rw [cell_of_block P1.out]; rfl
        go_wp2_with (first
          | (at_builtin
             have z0 := rown.ownsRow_kept HO9.out (below_alloc1 w9 (.cells #[.int .i64 q.1, .int .i64 q.2.1, .int .i64 q.2.2] 65))
             have z2 : ∀ u ∈ [Value.int .i64 q.1, Value.int .i64 q.2.1, Value.int .i64 q.2.2], u.oneCell' = true := (by simp [Value.oneCell'])
             have z3 : m + 1 + 1 ≤ maxLen := (by simp only [maxLen]; omega)
             have z4 : (m + 1 + 1) * 24 ≤ 140737488355328 := (by omega)
             have z5 : w.heap.size ≤ (w9.alloc (.cells #[.int .i64 q.1, .int .i64 q.2.1, .int .i64 q.2.2] 65)).heap.size := (Nat.le_trans HB9.out.size (by simp))
             refine wpList_append_lies (w9.alloc (.cells #[.int .i64 q.1, .int .i64 q.2.1, .int .i64 q.2.2] 65)) rfl _ _ 29 rfl w.heap.size 65 i0 _ 3 24 Try.underlying29 hi0 hz0 hz1 hz2 rfl (by decide) (.slice (some ⟨g, 0, none⟩) (m + 1) d) (m + 1) _ rfl z0 ⟨w9.heap.size, 0, none⟩ 1 1 [.int .i64 q.1, .int .i64 q.2.1, .int .i64 q.2.2] rfl rfl (three_new rfl) z2 (by decide) z3 z4 z5 _ rfl ?_
             intro g3 cap3 w10 hown hgr hat hlt3
             have HO10 := Lib.hid hown
             have HB10 := Lib.hid (HB9.out.trans (rown.under HO9.out HB9.out.size hgr))
             have O1 := Lib.hid (grown_block HO9.out hgr P1.out (by decide))
             have O2 := Lib.hid (grown_block HO9.out hgr P2.out (by decide))
             clear hown hgr hat z0 z2 z3 z4 z5))
        go_roundw
        case rel => exact ⟨k + 1, m + 1, cap3, g3, push F (m + 1) q, by omega, by go_num, rfl, by omega, HTK, Lib.hid (by rw [HPU.out]; exact HO10.out), HB10, O1, O2⟩
        case measure => simp [intOf]; omega
      · have HTK := Lib.hid (HTN.out (by rintro (h | h) <;> contradiction))
        have e0 : ((k : Int) + 1 == (N : Int)) = false := by simp; omega
        have e0' : decide ((k : Int) + 1 = (N : Int)) = false := decide_eq_false (by omega)
        have e1 : decide (S * 16 ≤ (L : Int)) = false := decide_eq_false hc
        clear hl HTN HTY
        go_wp2_with fail
        with_reducible refine (HL.out _).mono ?_
        rintro e w9 ⟨rfl, hB⟩
        have HO9 := Lib.hid (rown.ownsRow_kept HO8.out hB)
        have HB9 := Lib.hid (HB8.out.trans (hB.mono HB8.out.size))
        have P1 := Lib.hid ((hB.block _ (block_size N1.out)).trans N1.out)
        have P2 := Lib.hid ((hB.block _ (block_size N2.out)).trans N2.out)
        have q0 := (hB.cell (p := ⟨g0, o0 + (k + 1) * 3, none⟩) HG8.out).trans HQ.out.1
        have q1 := (hB.cell (p := ⟨g0, o0 + (k + 1) * 3 + 1, none⟩) HG8.out).trans HQ.out.2.1
        have q2 := (hB.cell (p := ⟨g0, o0 + (k + 1) * 3 + 2, none⟩) HG8.out).trans HQ.out.2.2
        clear hB cP0 cP1 cP2 cP3 cP4 cP5 N1 N2 HQ HO8 HB8
        go_wp2
        go_roundw
        case rel => exact ⟨k + 1, m, d, g, F, by omega, by go_num, rfl, by omega, HTK, HO9, HB9, P1, P2⟩
        case measure => simp [intOf]; omega
    · obtain rfl : k = N := by omega
      have HV := Lib.hid (show (th pts S k k).1 + 1 = m + 1 ∧ (th pts S k k).2 = F by rw [HT.out]; exact ⟨rfl, rfl⟩)
      have r0 : wr.cell? ⟨w.heap.size + 1, 0, none⟩ = some (.slice none 0 0) := by rw [cell_of_block HM2.out]; rfl
      have rf := unfrozen_of_block HM2.out
      have rz : w.heap.size + 1 < wr.heap.size := block_size HM2.out
      have HNE := Lib.hid (fun gg (hg : Value.ownBlock (.slice (some ⟨g, 0, none⟩) (m + 1) d) = some gg) => (show gg ≠ w.heap.size + 1 by
        obtain ⟨_, cur, hc⟩ := rown.ownsRow_block HO.out hg
        intro e
        rw [e, HM2.out] at hc
        injection hc with hc
        injection hc with h1 h2 h3
        exact absurd h2 (by decide)))
      go_wp2
      refine bodyPost_ret (v := .tuple #[.agg #[.slice (some ⟨g, 0, none⟩) (m + 1) d], .int .i64 0]) (by simp [results, Try.results40, go_sem, r0]) rfl ⟨_, rfl, ?_, HB.out.setCell (show w.heap.size ≤ w.heap.size + 1 by omega) _⟩
      rw [HEN.out, HEF.out, HV.out.1, HV.out.2]
      exact rown.ownsRow_same HO.out fun gg hg => Below.heap_setCell _ _ _ _ (by simp only; exact HNE.out gg hg)
theorem meat (vs0 : Nat → Value) (g0 : Nat → Dat) (a1 : Int) (ht0 : tyrStroke g0) (hi1 : inI64 a1) :
    costRec 1 g0 ≤ 1048576 → ∃ (R : Nat → Dat) (r1 : Int), tyrStroke R ∧ cntRec 1 R ≤ 100000000000 ∧ (∀ (W : World) (us0 : Nat → Value), ReadsRec W 1 us0 g0 → Calls Try.prog 39 #[.agg #[us0 0], .int .i64 a1] W fun e W' => ∃ xs : Nat → Value, e = .returned (.tuple #[.agg #[xs 0], .int .i64 r1]) ∧ OwnRec W' 1 xs R (iv W.heap.size W'.heap.size) ∧ Below W.heap.size W W') ∧ (∀ (W : World) (us0 : Nat → Value), ReadsRec W 1 us0 g0 → Calls Try.prog 40 #[.agg #[us0 0], .int .i64 a1] W fun e W' => ∃ xs : Nat → Value, e = .returned (.tuple #[.agg #[xs 0], .int .i64 r1]) ∧ OwnRec W' 1 xs R (iv W.heap.size W'.heap.size) ∧ Below W.heap.size W W') := by
  intro hq
  cases hv : vS (strN g0) (strP g0) with
  | true =>
    by_cases hS : 0 ≤ a1 ∧ a1 ≤ 1000
    · skip
      have hin : ∀ i j, i < nOf (strN g0) (strP g0) a1 → j < 3 → inI64 (fi3 (fOf (strN g0) (strP g0) a1) i j) := in_all (strP g0) a1 hv
      exact ⟨datRows (nOf (strN g0) (strP g0) a1) 3 (fi3 (fOf (strN g0) (strP g0) a1)), 0, ty_of _ _, Nat.le_trans (datRows_cnt _ _ _) (by have h1 := (vS_of hv).2.1; have h2 := th_le (strP g0) a1 (strN g0 - 1) (strN g0 - 1); show ((th (strP g0) a1 (strN g0 - 1) (strN g0 - 1)).1 + 1) * 3 ≤ _; omega), fun W us0 h0 => by
          obtain ⟨A, c, e, hn, hp⟩ := reads_str h0 ht0 hq
          rw [e]; exact fin (T := fun v => .tuple #[.agg #[v], .int .i64 0]) (row3_len _) (row3_get _) hin (spec_yes A _ _ a1 W hn hp hv hS), fun W us0 h0 => by
          obtain ⟨A, c, e, hn, hp⟩ := reads_str h0 ht0 hq
          rw [e]; exact fin (T := fun v => .tuple #[.agg #[v], .int .i64 0]) (row3_len _) (row3_get _) hin (impl_yes A _ _ a1 W hn hp hv hS)⟩
    · skip
      have hin : ∀ i j, i < 0 → j < 3 → inI64 (fi3 (fun _ => (0, 0, 0)) i j) := fun i j hi _ => absurd hi (by omega)
      exact ⟨datRows (0) 3 (fi3 (fun _ => (0, 0, 0))), 2, ty_of _ _, Nat.le_trans (datRows_cnt _ _ _) (by omega), fun W us0 h0 => by
          obtain ⟨A, c, e, hn, hp⟩ := reads_str h0 ht0 hq
          rw [e]; exact fin (T := fun v => .tuple #[.agg #[v], .int .i64 2]) (row3_len _) (row3_get _) hin (spec_rng A _ _ a1 W hn hp hv hS), fun W us0 h0 => by
          obtain ⟨A, c, e, hn, hp⟩ := reads_str h0 ht0 hq
          rw [e]; exact fin (T := fun v => .tuple #[.agg #[v], .int .i64 2]) (row3_len _) (row3_get _) hin (impl_rng A _ _ a1 W hn hp hv hS)⟩
  | false =>
    have hin : ∀ i j, i < 0 → j < 3 → inI64 (fi3 (fun _ => (0, 0, 0)) i j) := fun i j hi _ => absurd hi (by omega)
    exact ⟨datRows (0) 3 (fi3 (fun _ => (0, 0, 0))), 1, ty_of _ _, Nat.le_trans (datRows_cnt _ _ _) (by omega), fun W us0 h0 => by
        obtain ⟨A, c, e, hn, hp⟩ := reads_str h0 ht0 hq
        rw [e]; exact fin (T := fun v => .tuple #[.agg #[v], .int .i64 1]) (row3_len _) (row3_get _) hin (spec_no A _ _ a1 W hn hp hv), fun W us0 h0 => by
        obtain ⟨A, c, e, hn, hp⟩ := reads_str h0 ht0 hq
        rw [e]; exact fin (T := fun v => .tuple #[.agg #[v], .int .i64 1]) (row3_len _) (row3_get _) hin (impl_no A _ _ a1 W hn hp hv)⟩
end Go.Proofs.Ytmphnhffelfbgaa.wThinStroke
