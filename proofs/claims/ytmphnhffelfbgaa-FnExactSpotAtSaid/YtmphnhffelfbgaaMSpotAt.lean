/-
  Proved: both functions that tell the place at a part of a stroke's length return the same place.
  Conditions: none.
-/
import Derived.Test.YtmphnhffelfbgaaTrail
import Derived.Test.YtmphnhffelfbgaaLenI
import Derived.Test.YtmphnhffelfbgaaWid
namespace Go.Proofs.Ytmphnhffelfbgaa.wSpotAt
open Go.ChangeShapes Go.WideShapes Go.ChangeAt Go.RowKit Go.Joins
open Go.Proofs.Ytmphnhffelfbgaa.core Go.Proofs.Ytmphnhffelfbgaa.geoM Go.Proofs.Ytmphnhffelfbgaa.stk Go.Proofs.Ytmphnhffelfbgaa.seg Go.Proofs.Ytmphnhffelfbgaa.side Go.Proofs.Ytmphnhffelfbgaa.all Go.Proofs.Ytmphnhffelfbgaa.lenS Go.Proofs.Ytmphnhffelfbgaa.segs Go.Proofs.Ytmphnhffelfbgaa.lenI Go.Proofs.Ytmphnhffelfbgaa.rown Go.Proofs.Ytmphnhffelfbgaa.boxed Go.Proofs.Ytmphnhffelfbgaa.near Go.Proofs.Ytmphnhffelfbgaa.arcs Go.Proofs.Ytmphnhffelfbgaa.spot Go.Proofs.Ytmphnhffelfbgaa.trail
set_option linter.unusedVariables false
set_option linter.unusedSimpArgs false
theorem own_two {w : World} {a b : Int} {F : Nat → Prop} (ha : inI64 a) (hb : inI64 b) : OwnRec w 2 (fun j => if j = 0 then .int .i64 a else .int .i64 b) (fun j => if j = 0 then .int a else .int b) F :=
  ⟨fun _ _ => False, fun j hj => by
    by_cases h : j = 0
    · subst h; exact .int _ _ ha
    · simp only [if_neg h]; exact .int _ _ hb, fun _ _ _ h => h.elim, fun _ _ _ _ _ h => h.elim⟩
set_option maxRecDepth 100000 in
set_option maxHeartbeats 4000000 in
theorem spec_no {c : Nat} (A : Option Addr) (n : Nat) (pts : Nat → P3) (part parts : Int) (w : World) (hcap : n ≤ 1048576) (hp : PtsAt w A n pts) (hv : vS n pts = false) :
    Calls Try.prog 31 #[.agg #[.slice A n c], .int .i64 part, .int .i64 parts] w fun e w' => e = .returned (.tuple #[.agg #[.int .i64 0, .int .i64 0], .int .i64 1]) ∧ Below w.heap.size w w' := by
  have B0 := Lib.hid (below_alloc2 w (.cells #[.slice A n c] 31) (.cells #[.int .i64 0, .int .i64 0] 46))
  have K1 := Lib.hid (show ((w.alloc (.cells #[.slice A n c] 31)).alloc (.cells #[.int .i64 0, .int .i64 0] 46)).heap[w.heap.size]? = some (.cells #[.slice A n c] 31 (0, 0)) by rw [Below.heap_alloc _ _ _ (by simp)]; exact heap_alloc_new _ _)
  have K2 := Lib.hid (show ((w.alloc (.cells #[.slice A n c] 31)).alloc (.cells #[.int .i64 0, .int .i64 0] 46)).heap[w.heap.size + 1]? = some (.cells #[.int .i64 0, .int .i64 0] 46 (0, 0)) by have := heap_alloc_new (w.alloc (.cells #[.slice A n c] 31)) (.cells #[.int .i64 0, .int .i64 0] 46); simpa using this)
  have C1 := Lib.hid (show ((w.alloc (.cells #[.slice A n c] 31)).alloc (.cells #[.int .i64 0, .int .i64 0] 46)).cell? ⟨w.heap.size, 0, none⟩ = some (.slice A n c) by rw [cell_of_block K1.out]; rfl)
  have HS := Lib.hid (l02Stroke_calls (c := c) (o := 0) A w.heap.size n pts ((w.alloc (.cells #[.slice A n c] 31)).alloc (.cells #[.int .i64 0, .int .i64 0] 46)) hcap (by simp; omega) C1.out (hp.kept B0.out))
  rw [hv] at HS
  have HPW := Lib.hid (fun (V : World) (hV : Below w.heap.size w V) => hp.kept hV)
  clear hp hv HPW
  go_enter Try.func31, Try.ntmps31
  go_wp2_with fail
  refine HS.out.mono ?_
  rintro e w1 ⟨rfl, hb1⟩
  have B1 := Lib.hid (B0.out.trans (hb1.mono B0.out.size))
  have L1 := Lib.hid ((hb1.block _ (block_size K1.out)).trans K1.out)
  have L2 := Lib.hid ((hb1.block _ (block_size K2.out)).trans K2.out)
  clear hb1 HS B0 K1 K2 C1
  have r0 : w1.cell? ⟨w.heap.size + 1, 0, none⟩ = some (.int .i64 0) := by rw [cell_of_block L2.out]; rfl
  have r1 : w1.cell? ⟨w.heap.size + 1, 1, none⟩ = some (.int .i64 0) := by rw [cell_of_block L2.out]; rfl
  have rf := unfrozen_of_block L2.out
  have rz : w.heap.size + 1 < w1.heap.size := block_size L2.out
  go_wp2
  exact bodyPost_ret (v := .tuple #[.agg #[.int .i64 (0), .int .i64 (0)], .int .i64 1]) (by simp [results, Try.results31, go_sem, r0, r1]) rfl ⟨rfl, (B1.out.setCell (show w.heap.size ≤ w.heap.size + 1 by omega) _).setCell (show w.heap.size ≤ w.heap.size + 1 by omega) _⟩
set_option maxRecDepth 100000 in
set_option maxHeartbeats 4000000 in
theorem impl_no {c : Nat} (A : Option Addr) (n : Nat) (pts : Nat → P3) (part parts : Int) (w : World) (hcap : n ≤ 1048576) (hp : PtsAt w A n pts) (hv : vS n pts = false) :
    Calls Try.prog 32 #[.agg #[.slice A n c], .int .i64 part, .int .i64 parts] w fun e w' => e = .returned (.tuple #[.agg #[.int .i64 0, .int .i64 0], .int .i64 1]) ∧ Below w.heap.size w w' := by
  have B0 := Lib.hid (below_alloc2 w (.cells #[.slice A n c] 31) (.cells #[.int .i64 0, .int .i64 0] 46))
  have K1 := Lib.hid (show ((w.alloc (.cells #[.slice A n c] 31)).alloc (.cells #[.int .i64 0, .int .i64 0] 46)).heap[w.heap.size]? = some (.cells #[.slice A n c] 31 (0, 0)) by rw [Below.heap_alloc _ _ _ (by simp)]; exact heap_alloc_new _ _)
  have K2 := Lib.hid (show ((w.alloc (.cells #[.slice A n c] 31)).alloc (.cells #[.int .i64 0, .int .i64 0] 46)).heap[w.heap.size + 1]? = some (.cells #[.int .i64 0, .int .i64 0] 46 (0, 0)) by have := heap_alloc_new (w.alloc (.cells #[.slice A n c] 31)) (.cells #[.int .i64 0, .int .i64 0] 46); simpa using this)
  have C1 := Lib.hid (show ((w.alloc (.cells #[.slice A n c] 31)).alloc (.cells #[.int .i64 0, .int .i64 0] 46)).cell? ⟨w.heap.size, 0, none⟩ = some (.slice A n c) by rw [cell_of_block K1.out]; rfl)
  have HS := Lib.hid (implValid_calls (c := c) A n pts ((w.alloc (.cells #[.slice A n c] 31)).alloc (.cells #[.int .i64 0, .int .i64 0] 46)) hcap (hp.kept B0.out))
  rw [hv] at HS
  have HPW := Lib.hid (fun (V : World) (hV : Below w.heap.size w V) => hp.kept hV)
  clear hp hv HPW
  go_enter Try.func32, Try.ntmps32
  go_wp2_with fail
  refine HS.out.mono ?_
  rintro e w1 ⟨rfl, hb1⟩
  have B1 := Lib.hid (B0.out.trans (hb1.mono B0.out.size))
  have L1 := Lib.hid ((hb1.block _ (block_size K1.out)).trans K1.out)
  have L2 := Lib.hid ((hb1.block _ (block_size K2.out)).trans K2.out)
  clear hb1 HS B0 K1 K2 C1
  have r0 : w1.cell? ⟨w.heap.size + 1, 0, none⟩ = some (.int .i64 0) := by rw [cell_of_block L2.out]; rfl
  have r1 : w1.cell? ⟨w.heap.size + 1, 1, none⟩ = some (.int .i64 0) := by rw [cell_of_block L2.out]; rfl
  have rf := unfrozen_of_block L2.out
  have rz : w.heap.size + 1 < w1.heap.size := block_size L2.out
  go_wp2
  exact bodyPost_ret (v := .tuple #[.agg #[.int .i64 (0), .int .i64 (0)], .int .i64 1]) (by simp [results, Try.results32, go_sem, r0, r1]) rfl ⟨rfl, (B1.out.setCell (show w.heap.size ≤ w.heap.size + 1 by omega) _).setCell (show w.heap.size ≤ w.heap.size + 1 by omega) _⟩
set_option maxRecDepth 100000 in
set_option maxHeartbeats 4000000 in
theorem spec_rng {c : Nat} (A : Option Addr) (n : Nat) (pts : Nat → P3) (part parts : Int) (w : World) (hcap : n ≤ 1048576) (hp : PtsAt w A n pts) (hv : vS n pts = true) (hq : ¬ ((1 ≤ parts ∧ parts ≤ 1000) ∧ 0 ≤ part ∧ part ≤ parts)) (hi1 : inI64 part) (hi2 : inI64 parts) :
    Calls Try.prog 31 #[.agg #[.slice A n c], .int .i64 part, .int .i64 parts] w fun e w' => e = .returned (.tuple #[.agg #[.int .i64 0, .int .i64 0], .int .i64 2]) ∧ Below w.heap.size w w' := by
  have B0 := Lib.hid (below_alloc2 w (.cells #[.slice A n c] 31) (.cells #[.int .i64 0, .int .i64 0] 46))
  have K1 := Lib.hid (show ((w.alloc (.cells #[.slice A n c] 31)).alloc (.cells #[.int .i64 0, .int .i64 0] 46)).heap[w.heap.size]? = some (.cells #[.slice A n c] 31 (0, 0)) by rw [Below.heap_alloc _ _ _ (by simp)]; exact heap_alloc_new _ _)
  have K2 := Lib.hid (show ((w.alloc (.cells #[.slice A n c] 31)).alloc (.cells #[.int .i64 0, .int .i64 0] 46)).heap[w.heap.size + 1]? = some (.cells #[.int .i64 0, .int .i64 0] 46 (0, 0)) by have := heap_alloc_new (w.alloc (.cells #[.slice A n c] 31)) (.cells #[.int .i64 0, .int .i64 0] 46); simpa using this)
  have C1 := Lib.hid (show ((w.alloc (.cells #[.slice A n c] 31)).alloc (.cells #[.int .i64 0, .int .i64 0] 46)).cell? ⟨w.heap.size, 0, none⟩ = some (.slice A n c) by rw [cell_of_block K1.out]; rfl)
  have HS := Lib.hid (l02Stroke_calls (c := c) (o := 0) A w.heap.size n pts ((w.alloc (.cells #[.slice A n c] 31)).alloc (.cells #[.int .i64 0, .int .i64 0] 46)) hcap (by simp; omega) C1.out (hp.kept B0.out))
  rw [hv] at HS
  have HPW := Lib.hid (fun (V : World) (hV : Below w.heap.size w V) => hp.kept hV)
  unfold inI64 at hi1 hi2
  clear hp hv HPW
  go_enter Try.func31, Try.ntmps31
  go_wp2_with fail
  refine HS.out.mono ?_
  rintro e w1 ⟨rfl, hb1⟩
  have B1 := Lib.hid (B0.out.trans (hb1.mono B0.out.size))
  have L1 := Lib.hid ((hb1.block _ (block_size K1.out)).trans K1.out)
  have L2 := Lib.hid ((hb1.block _ (block_size K2.out)).trans K2.out)
  clear hb1 HS B0 K1 K2 C1
  have r0 : w1.cell? ⟨w.heap.size + 1, 0, none⟩ = some (.int .i64 0) := by rw [cell_of_block L2.out]; rfl
  have r1 : w1.cell? ⟨w.heap.size + 1, 1, none⟩ = some (.int .i64 0) := by rw [cell_of_block L2.out]; rfl
  have rf := unfrozen_of_block L2.out
  have rz : w.heap.size + 1 < w1.heap.size := block_size L2.out
  by_cases hq1 : 1 ≤ parts ∧ parts ≤ 1000
  · skip
    go_wp2_with fail
    refine (in_t _ _ _ (by omega) _).mono ?_
    rintro e w2 ⟨rfl, rfl⟩
    go_wp2_with fail
    refine (in_f _ _ _ (by omega) _).mono ?_
    rintro e w2 ⟨rfl, rfl⟩
    go_wp2
    exact bodyPost_ret (v := .tuple #[.agg #[.int .i64 (0), .int .i64 (0)], .int .i64 2]) (by simp [results, Try.results31, go_sem, r0, r1]) rfl ⟨rfl, (B1.out.setCell (show w.heap.size ≤ w.heap.size + 1 by omega) _).setCell (show w.heap.size ≤ w.heap.size + 1 by omega) _⟩
  · skip
    go_wp2_with fail
    refine (in_f _ _ _ (by omega) _).mono ?_
    rintro e w2 ⟨rfl, rfl⟩
    go_wp2
    exact bodyPost_ret (v := .tuple #[.agg #[.int .i64 (0), .int .i64 (0)], .int .i64 2]) (by simp [results, Try.results31, go_sem, r0, r1]) rfl ⟨rfl, (B1.out.setCell (show w.heap.size ≤ w.heap.size + 1 by omega) _).setCell (show w.heap.size ≤ w.heap.size + 1 by omega) _⟩
set_option maxRecDepth 100000 in
set_option maxHeartbeats 4000000 in
theorem impl_rng {c : Nat} (A : Option Addr) (n : Nat) (pts : Nat → P3) (part parts : Int) (w : World) (hcap : n ≤ 1048576) (hp : PtsAt w A n pts) (hv : vS n pts = true) (hq : ¬ ((1 ≤ parts ∧ parts ≤ 1000) ∧ 0 ≤ part ∧ part ≤ parts)) (hi1 : inI64 part) (hi2 : inI64 parts) :
    Calls Try.prog 32 #[.agg #[.slice A n c], .int .i64 part, .int .i64 parts] w fun e w' => e = .returned (.tuple #[.agg #[.int .i64 0, .int .i64 0], .int .i64 2]) ∧ Below w.heap.size w w' := by
  have B0 := Lib.hid (below_alloc2 w (.cells #[.slice A n c] 31) (.cells #[.int .i64 0, .int .i64 0] 46))
  have K1 := Lib.hid (show ((w.alloc (.cells #[.slice A n c] 31)).alloc (.cells #[.int .i64 0, .int .i64 0] 46)).heap[w.heap.size]? = some (.cells #[.slice A n c] 31 (0, 0)) by rw [Below.heap_alloc _ _ _ (by simp)]; exact heap_alloc_new _ _)
  have K2 := Lib.hid (show ((w.alloc (.cells #[.slice A n c] 31)).alloc (.cells #[.int .i64 0, .int .i64 0] 46)).heap[w.heap.size + 1]? = some (.cells #[.int .i64 0, .int .i64 0] 46 (0, 0)) by have := heap_alloc_new (w.alloc (.cells #[.slice A n c] 31)) (.cells #[.int .i64 0, .int .i64 0] 46); simpa using this)
  have C1 := Lib.hid (show ((w.alloc (.cells #[.slice A n c] 31)).alloc (.cells #[.int .i64 0, .int .i64 0] 46)).cell? ⟨w.heap.size, 0, none⟩ = some (.slice A n c) by rw [cell_of_block K1.out]; rfl)
  have HS := Lib.hid (implValid_calls (c := c) A n pts ((w.alloc (.cells #[.slice A n c] 31)).alloc (.cells #[.int .i64 0, .int .i64 0] 46)) hcap (hp.kept B0.out))
  rw [hv] at HS
  have HPW := Lib.hid (fun (V : World) (hV : Below w.heap.size w V) => hp.kept hV)
  unfold inI64 at hi1 hi2
  clear hp hv HPW
  go_enter Try.func32, Try.ntmps32
  go_wp2_with fail
  refine HS.out.mono ?_
  rintro e w1 ⟨rfl, hb1⟩
  have B1 := Lib.hid (B0.out.trans (hb1.mono B0.out.size))
  have L1 := Lib.hid ((hb1.block _ (block_size K1.out)).trans K1.out)
  have L2 := Lib.hid ((hb1.block _ (block_size K2.out)).trans K2.out)
  clear hb1 HS B0 K1 K2 C1
  have r0 : w1.cell? ⟨w.heap.size + 1, 0, none⟩ = some (.int .i64 0) := by rw [cell_of_block L2.out]; rfl
  have r1 : w1.cell? ⟨w.heap.size + 1, 1, none⟩ = some (.int .i64 0) := by rw [cell_of_block L2.out]; rfl
  have rf := unfrozen_of_block L2.out
  have rz : w.heap.size + 1 < w1.heap.size := block_size L2.out
  by_cases a1 : parts < 1
  · clear hq
    go_wp2
    exact bodyPost_ret (v := .tuple #[.agg #[.int .i64 (0), .int .i64 (0)], .int .i64 2]) (by simp [results, Try.results32, go_sem, r0, r1]) rfl ⟨rfl, (B1.out.setCell (show w.heap.size ≤ w.heap.size + 1 by omega) _).setCell (show w.heap.size ≤ w.heap.size + 1 by omega) _⟩
  · by_cases a2 : 1000 < parts
    · clear hq
      go_wp2
      exact bodyPost_ret (v := .tuple #[.agg #[.int .i64 (0), .int .i64 (0)], .int .i64 2]) (by simp [results, Try.results32, go_sem, r0, r1]) rfl ⟨rfl, (B1.out.setCell (show w.heap.size ≤ w.heap.size + 1 by omega) _).setCell (show w.heap.size ≤ w.heap.size + 1 by omega) _⟩
    · by_cases a3 : part < 0
      · clear hq
        go_wp2
        exact bodyPost_ret (v := .tuple #[.agg #[.int .i64 (0), .int .i64 (0)], .int .i64 2]) (by simp [results, Try.results32, go_sem, r0, r1]) rfl ⟨rfl, (B1.out.setCell (show w.heap.size ≤ w.heap.size + 1 by omega) _).setCell (show w.heap.size ≤ w.heap.size + 1 by omega) _⟩
      · have a4 : parts < part := by omega
        clear hq
        go_wp2
        exact bodyPost_ret (v := .tuple #[.agg #[.int .i64 (0), .int .i64 (0)], .int .i64 2]) (by simp [results, Try.results32, go_sem, r0, r1]) rfl ⟨rfl, (B1.out.setCell (show w.heap.size ≤ w.heap.size + 1 by omega) _).setCell (show w.heap.size ≤ w.heap.size + 1 by omega) _⟩
set_option maxRecDepth 100000 in
set_option maxHeartbeats 4000000 in
theorem spec_yes {c : Nat} (A : Option Addr) (n : Nat) (pts : Nat → P3) (part parts : Int) (w : World) (hcap : n ≤ 1048576) (hp : PtsAt w A n pts) (hv : vS n pts = true) (hq : 1 ≤ parts ∧ parts ≤ 1000) (hpa : 0 ≤ part ∧ part ≤ parts) (k : Nat) (hE : IsE (lens pts) (wantOf pts n part) parts n k) :
    Calls Try.prog 31 #[.agg #[.slice A n c], .int .i64 part, .int .i64 parts] w fun e w' => e = .returned (.tuple #[.agg #[.int .i64 (spX pts n k part parts), .int .i64 (spY pts n k part parts)], .int .i64 0]) ∧ Below w.heap.size w w' := by
  have B0 := Lib.hid (below_alloc2 w (.cells #[.slice A n c] 31) (.cells #[.int .i64 0, .int .i64 0] 46))
  have K1 := Lib.hid (show ((w.alloc (.cells #[.slice A n c] 31)).alloc (.cells #[.int .i64 0, .int .i64 0] 46)).heap[w.heap.size]? = some (.cells #[.slice A n c] 31 (0, 0)) by rw [Below.heap_alloc _ _ _ (by simp)]; exact heap_alloc_new _ _)
  have K2 := Lib.hid (show ((w.alloc (.cells #[.slice A n c] 31)).alloc (.cells #[.int .i64 0, .int .i64 0] 46)).heap[w.heap.size + 1]? = some (.cells #[.int .i64 0, .int .i64 0] 46 (0, 0)) by have := heap_alloc_new (w.alloc (.cells #[.slice A n c] 31)) (.cells #[.int .i64 0, .int .i64 0] 46); simpa using this)
  have C1 := Lib.hid (show ((w.alloc (.cells #[.slice A n c] 31)).alloc (.cells #[.int .i64 0, .int .i64 0] 46)).cell? ⟨w.heap.size, 0, none⟩ = some (.slice A n c) by rw [cell_of_block K1.out]; rfl)
  have HS := Lib.hid (l02Stroke_calls (c := c) (o := 0) A w.heap.size n pts ((w.alloc (.cells #[.slice A n c] 31)).alloc (.cells #[.int .i64 0, .int .i64 0] 46)) hcap (by simp; omega) C1.out (hp.kept B0.out))
  rw [hv] at HS
  have HPW := Lib.hid (fun (V : World) (hV : Below w.heap.size w V) => hp.kept hV)
  obtain ⟨h1, h60, -⟩ := vS_of hv
  have HR := Lib.hid (vS_rg hv)
  have HE := Lib.hid hE
  clear hp hv hE
  go_enter Try.func31, Try.ntmps31
  go_wp2_with fail
  refine HS.out.mono ?_
  rintro e w1 ⟨rfl, hb1⟩
  have B1 := Lib.hid (B0.out.trans (hb1.mono B0.out.size))
  have L1 := Lib.hid ((hb1.block _ (block_size K1.out)).trans K1.out)
  have L2 := Lib.hid ((hb1.block _ (block_size K2.out)).trans K2.out)
  clear hb1 HS B0 K1 K2 C1
  have c1 : w1.cell? ⟨w.heap.size, 0, none⟩ = some (.slice A n c) := by rw [cell_of_block L1.out]; rfl
  have z1 := block_size L1.out
  have HARC := Lib.hid (specArcs (c := c) (o := 0) A w.heap.size n pts w1 h1 h60 HR.out z1 c1 (HPW.out w1 B1.out))
  go_wp2_with fail
  refine (in_t _ _ _ hq _).mono ?_
  rintro e w2 ⟨rfl, rfl⟩
  go_wp2_with fail
  refine (in_t _ _ _ hpa _).mono ?_
  rintro e w2 ⟨rfl, rfl⟩
  go_wp2_with fail
  refine HARC.out.mono ?_
  rintro e w2 ⟨v, rfl, ho, hb⟩
  obtain ⟨g, d, rfl⟩ := row_shape ho h1
  have B2 := Lib.hid (B1.out.trans (hb.mono B1.out.size))
  have M2 := Lib.hid ((hb.block _ (block_size L2.out)).trans L2.out)
  have z2 : w.heap.size < w2.heap.size := by have := hb.size; omega
  have HAT := Lib.hid (specAt (c := c) (d := d) (o := 0) (g := g) A w.heap.size n k pts part parts w2 h1 h60 HR.out hq hpa HE.out z2 ((hb.cell (p := ⟨w.heap.size, 0, none⟩) z1).trans c1) (HPW.out w2 B2.out) (row_lt ho) (fun i hi => row_cell1 ho hi))
  clear hb ho c1
  go_wp2_with fail
  refine HAT.out.mono ?_
  rintro e w3 ⟨rfl, hb⟩
  have B3 := Lib.hid (B2.out.trans (hb.mono B2.out.size))
  have N2 := Lib.hid ((hb.block _ (block_size M2.out)).trans M2.out)
  clear hb HAT HARC
  have r0 : w3.cell? ⟨w.heap.size + 1, 0, none⟩ = some (.int .i64 0) := by rw [cell_of_block N2.out]; rfl
  have r1 : w3.cell? ⟨w.heap.size + 1, 1, none⟩ = some (.int .i64 0) := by rw [cell_of_block N2.out]; rfl
  have rf := unfrozen_of_block N2.out
  have rz : w.heap.size + 1 < w3.heap.size := block_size N2.out
  go_wp2
  exact bodyPost_ret (v := .tuple #[.agg #[.int .i64 (spX pts n k part parts), .int .i64 (spY pts n k part parts)], .int .i64 0]) (by simp [results, Try.results31, go_sem, r0, r1]) rfl ⟨rfl, (B3.out.setCell (show w.heap.size ≤ w.heap.size + 1 by omega) _).setCell (show w.heap.size ≤ w.heap.size + 1 by omega) _⟩
set_option maxRecDepth 100000 in
set_option maxHeartbeats 4000000 in
theorem impl_yes {c : Nat} (A : Option Addr) (n : Nat) (pts : Nat → P3) (part parts : Int) (w : World) (hcap : n ≤ 1048576) (hp : PtsAt w A n pts) (hv : vS n pts = true) (hq : 1 ≤ parts ∧ parts ≤ 1000) (hpa : 0 ≤ part ∧ part ≤ parts) (k : Nat) (hE : IsE (lens pts) (wantOf pts n part) parts n k) :
    Calls Try.prog 32 #[.agg #[.slice A n c], .int .i64 part, .int .i64 parts] w fun e w' => e = .returned (.tuple #[.agg #[.int .i64 (spX pts n k part parts), .int .i64 (spY pts n k part parts)], .int .i64 0]) ∧ Below w.heap.size w w' := by
  have B0 := Lib.hid (below_alloc2 w (.cells #[.slice A n c] 31) (.cells #[.int .i64 0, .int .i64 0] 46))
  have K1 := Lib.hid (show ((w.alloc (.cells #[.slice A n c] 31)).alloc (.cells #[.int .i64 0, .int .i64 0] 46)).heap[w.heap.size]? = some (.cells #[.slice A n c] 31 (0, 0)) by rw [Below.heap_alloc _ _ _ (by simp)]; exact heap_alloc_new _ _)
  have K2 := Lib.hid (show ((w.alloc (.cells #[.slice A n c] 31)).alloc (.cells #[.int .i64 0, .int .i64 0] 46)).heap[w.heap.size + 1]? = some (.cells #[.int .i64 0, .int .i64 0] 46 (0, 0)) by have := heap_alloc_new (w.alloc (.cells #[.slice A n c] 31)) (.cells #[.int .i64 0, .int .i64 0] 46); simpa using this)
  have C1 := Lib.hid (show ((w.alloc (.cells #[.slice A n c] 31)).alloc (.cells #[.int .i64 0, .int .i64 0] 46)).cell? ⟨w.heap.size, 0, none⟩ = some (.slice A n c) by rw [cell_of_block K1.out]; rfl)
  have HS := Lib.hid (implValid_calls (c := c) A n pts ((w.alloc (.cells #[.slice A n c] 31)).alloc (.cells #[.int .i64 0, .int .i64 0] 46)) hcap (hp.kept B0.out))
  rw [hv] at HS
  have HPW := Lib.hid (fun (V : World) (hV : Below w.heap.size w V) => hp.kept hV)
  obtain ⟨h1, h60, -⟩ := vS_of hv
  have HR := Lib.hid (vS_rg hv)
  have HE := Lib.hid hE
  clear hp hv hE
  go_enter Try.func32, Try.ntmps32
  go_wp2_with fail
  refine HS.out.mono ?_
  rintro e w1 ⟨rfl, hb1⟩
  have B1 := Lib.hid (B0.out.trans (hb1.mono B0.out.size))
  have L1 := Lib.hid ((hb1.block _ (block_size K1.out)).trans K1.out)
  have L2 := Lib.hid ((hb1.block _ (block_size K2.out)).trans K2.out)
  clear hb1 HS B0 K1 K2 C1
  have HTR := Lib.hid (trail_calls (c := c) A n pts w1 h1 h60 HR.out (HPW.out w1 B1.out))
  have c1 : w1.cell? ⟨w.heap.size, 0, none⟩ = some (.slice A n c) := by rw [cell_of_block L1.out]; rfl
  have z1 := block_size L1.out
  go_wp2_with fail
  refine HTR.out.mono ?_
  rintro e w2 ⟨g, d, rfl, ho, hb⟩
  have B2 := Lib.hid (B1.out.trans (hb.mono B1.out.size))
  have M2 := Lib.hid ((hb.block _ (block_size L2.out)).trans L2.out)
  have HAT := Lib.hid (implAt (c := c) (d := d) (g := g) A n k pts part parts w2 h1 h60 HR.out hq hpa HE.out (HPW.out w2 B2.out) (row_lt ho) (fun i hi => row_cell1 ho hi))
  clear hb ho c1 HTR
  go_wp2_with fail
  refine HAT.out.mono ?_
  rintro e w3 ⟨rfl, hb⟩
  have B3 := Lib.hid (B2.out.trans (hb.mono B2.out.size))
  have N2 := Lib.hid ((hb.block _ (block_size M2.out)).trans M2.out)
  clear hb HAT
  have r0 : w3.cell? ⟨w.heap.size + 1, 0, none⟩ = some (.int .i64 0) := by rw [cell_of_block N2.out]; rfl
  have r1 : w3.cell? ⟨w.heap.size + 1, 1, none⟩ = some (.int .i64 0) := by rw [cell_of_block N2.out]; rfl
  have rf := unfrozen_of_block N2.out
  have rz : w.heap.size + 1 < w3.heap.size := block_size N2.out
  go_wp2
  exact bodyPost_ret (v := .tuple #[.agg #[.int .i64 (spX pts n k part parts), .int .i64 (spY pts n k part parts)], .int .i64 0]) (by simp [results, Try.results32, go_sem, r0, r1]) rfl ⟨rfl, (B3.out.setCell (show w.heap.size ≤ w.heap.size + 1 by omega) _).setCell (show w.heap.size ≤ w.heap.size + 1 by omega) _⟩
theorem fin2 {K : FuncId} {args : Array Value} {W : World} {a b r1 : Int} (ha : inI64 a) (hb : inI64 b) (h : Calls Try.prog K args W fun e w' => e = .returned (.tuple #[.agg #[.int .i64 a, .int .i64 b], .int .i64 r1]) ∧ Below W.heap.size W w') :
    Calls Try.prog K args W fun e W' => ∃ xs : Nat → Value, e = .returned (.tuple #[.agg #[xs 0, xs 1], .int .i64 r1]) ∧ OwnRec W' 2 xs (fun j => if j = 0 then .int a else .int b) (iv W.heap.size W'.heap.size) ∧ Below W.heap.size W W' :=
  h.mono fun e w' ⟨he, hb'⟩ => ⟨fun j => if j = 0 then .int .i64 a else .int .i64 b, he, own_two ha hb, hb'⟩
theorem ty2 (a b : Int) : tyrSpot (fun j => if j = 0 then .int a else .int b) := ⟨⟨_, rfl⟩, ⟨_, rfl⟩⟩
theorem cnt2 (a b : Int) : cntRec 2 (fun j => if j = 0 then Dat.int a else Dat.int b) ≤ 100000000000 := by simp [cntRec, sumTo, cntS, cnt]
theorem z64 : inI64 0 := by unfold inI64; omega
theorem meat (vs0 : Nat → Value) (g0 : Nat → Dat) (a1 a2 : Int) (ht0 : tyrStroke g0) (hi1 : inI64 a1) (hi2 : inI64 a2) :
    costRec 1 g0 ≤ 1048576 → ∃ (R : Nat → Dat) (r1 : Int), tyrSpot R ∧ cntRec 2 R ≤ 100000000000 ∧ (∀ (W : World) (us0 : Nat → Value), ReadsRec W 1 us0 g0 → Calls Try.prog 31 #[.agg #[us0 0], .int .i64 a1, .int .i64 a2] W fun e W' => ∃ xs : Nat → Value, e = .returned (.tuple #[.agg #[xs 0, xs 1], .int .i64 r1]) ∧ OwnRec W' 2 xs R (iv W.heap.size W'.heap.size) ∧ Below W.heap.size W W') ∧ (∀ (W : World) (us0 : Nat → Value), ReadsRec W 1 us0 g0 → Calls Try.prog 32 #[.agg #[us0 0], .int .i64 a1, .int .i64 a2] W fun e W' => ∃ xs : Nat → Value, e = .returned (.tuple #[.agg #[xs 0, xs 1], .int .i64 r1]) ∧ OwnRec W' 2 xs R (iv W.heap.size W'.heap.size) ∧ Below W.heap.size W W') := by
  intro hq
  cases hv : vS (strN g0) (strP g0) with
  | true =>
    by_cases hr : (1 ≤ a2 ∧ a2 ≤ 1000) ∧ 0 ≤ a1 ∧ a1 ≤ a2
    · obtain ⟨k, hE⟩ := isE_ex (pts := strP g0) (want := wantOf (strP g0) (strN g0) a1) (parts := a2) (by omega) (strN g0)
      obtain ⟨h1, h60, -⟩ := vS_of hv
      have hin := sp_in h1 h60 (vS_rg hv) hr.1 hr.2 hE
      exact ⟨_, _, ty2 _ _, cnt2 _ _, fun W us0 h0 => by
          obtain ⟨A, c, e, hn, hp⟩ := reads_str h0 ht0 hq
          rw [e]; exact fin2 (a := spX (strP g0) (strN g0) k a1 a2) (b := spY (strP g0) (strN g0) k a1 a2) (hin.1) (hin.2) (spec_yes A _ _ _ _ W hn hp hv hr.1 hr.2 k hE), fun W us0 h0 => by
          obtain ⟨A, c, e, hn, hp⟩ := reads_str h0 ht0 hq
          rw [e]; exact fin2 (a := spX (strP g0) (strN g0) k a1 a2) (b := spY (strP g0) (strN g0) k a1 a2) (hin.1) (hin.2) (impl_yes A _ _ _ _ W hn hp hv hr.1 hr.2 k hE)⟩
    · skip
      exact ⟨_, _, ty2 _ _, cnt2 _ _, fun W us0 h0 => by
          obtain ⟨A, c, e, hn, hp⟩ := reads_str h0 ht0 hq
          rw [e]; exact fin2 (a := 0) (b := 0) (z64) (z64) (spec_rng A _ _ _ _ W hn hp hv hr hi1 hi2), fun W us0 h0 => by
          obtain ⟨A, c, e, hn, hp⟩ := reads_str h0 ht0 hq
          rw [e]; exact fin2 (a := 0) (b := 0) (z64) (z64) (impl_rng A _ _ _ _ W hn hp hv hr hi1 hi2)⟩
  | false =>
    exact ⟨_, _, ty2 _ _, cnt2 _ _, fun W us0 h0 => by
        obtain ⟨A, c, e, hn, hp⟩ := reads_str h0 ht0 hq
        rw [e]; exact fin2 (a := 0) (b := 0) (z64) (z64) (spec_no A _ _ _ _ W hn hp hv), fun W us0 h0 => by
        obtain ⟨A, c, e, hn, hp⟩ := reads_str h0 ht0 hq
        rw [e]; exact fin2 (a := 0) (b := 0) (z64) (z64) (impl_no A _ _ _ _ W hn hp hv)⟩
end Go.Proofs.Ytmphnhffelfbgaa.wSpotAt
