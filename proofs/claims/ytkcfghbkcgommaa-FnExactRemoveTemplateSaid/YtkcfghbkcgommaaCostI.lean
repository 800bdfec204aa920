/-
  Proved: what the program's function that tells the cost of matching two features returns.
  Conditions: none.
-/
import Derived.Test.YtkcfghbkcgommaaSeqI
namespace Go.Proofs.Ytkcfghbkcgommaa.seq
open Go.ChangeShapes Go.WideShapes Go.ChangeAt Go.RowKit Go.Joins
open Go.Proofs.Ytkcfghbkcgommaa.core Go.Proofs.Ytkcfghbkcgommaa.rown Go.Proofs.Ytkcfghbkcgommaa.stk Go.Proofs.Ytkcfghbkcgommaa.boxed Go.Proofs.Ytkcfghbkcgommaa.ft
set_option linter.unusedVariables false
set_option linter.unusedSimpArgs false
/-- Two features in memory. -/
abbrev TF (w : World) (g h : Nat) (p q : P3) (W : World) : Prop := W.cell? ⟨g, 0, none⟩ = some (.int .i64 p.1) ∧ W.cell? ⟨g, 1, none⟩ = some (.int .i64 p.2.1) ∧ W.cell? ⟨h, 0, none⟩ = some (.int .i64 q.1) ∧ W.cell? ⟨h, 1, none⟩ = some (.int .i64 q.2.1) ∧ Below w.heap.size w W
theorem TF_drew {w : World} {g h : Nat} {p q : P3} {W : World} (hh : TF w g h p q W) : TF w g h p q W.drew := ⟨hh.1, hh.2.1, hh.2.2.1, hh.2.2.2.1, hh.2.2.2.2.drew⟩
set_option maxRecDepth 100000 in
set_option maxHeartbeats 4000000 in
theorem costI (p q : P3) (hp : inF p = true) (hq : inF q = true) (w : World) : Calls Try.prog 144 #[pv p, pv q] w fun e w' => e = .returned (.int .i64 (cst p q)) ∧ Below w.heap.size w w' := by
  have h1 := inF_of hp
  have h2 := inF_of hq
  obtain ⟨x, y, d⟩ := p
  obtain ⟨x', y', d'⟩ := q
  simp only at h1 h2
  have HC := Lib.hid (show absv (x - x') + absv (y - y') + 16 * min (absv (d - d')) (8 - absv (d - d')) = cst (x, y, d) (x', y', d') from rfl)
  have H1 := Lib.hid (fun W => apartI x x' W)
  have H2 := Lib.hid (fun W => apartI y y' W)
  have H3 := Lib.hid (fun W => apartI d d' W)
  rw [apW_in (by omega) (by omega)] at H1 H2 H3
  have b1 := absv_in (n := x - x') (B := 255) (by omega) (by omega)
  have b2 := absv_in (n := y - y') (B := 255) (by omega) (by omega)
  have b3 := absv_in (n := d - d') (B := 7) (by omega) (by omega)
  obtain ⟨A, hA⟩ : ∃ u, absv (x - x') = u := ⟨_, rfl⟩
  obtain ⟨B, hB⟩ : ∃ u, absv (y - y') = u := ⟨_, rfl⟩
  obtain ⟨D, hD⟩ : ∃ u, absv (d - d') = u := ⟨_, rfl⟩
  rw [hA] at H1 HC b1
  rw [hB] at H2 HC b2
  rw [hD] at H3 HC b3
  obtain ⟨M, hM⟩ : ∃ u, min D (8 - D) = u := ⟨_, rfl⟩
  have bM : 0 ≤ M + 1 ∧ M ≤ 7 := by omega
  have hmin : ∀ (W : World), (Builtin.min_ #[2, 2] 2 #[.int .i64 D, .int .i64 (8 - D)]).run Try.prog W = .ok (.int .i64 M) W := fun W => by rw [run_min2, hM]
  rw [hM] at HC
  obtain ⟨T, hT⟩ : ∃ u, A + B + 16 * M = u := ⟨_, rfl⟩
  rw [hT] at HC
  have E3 : IntKind.i64.wrap (A + B) = A + B := IntWalk.i64_in _ (by omega)
  have E4 : IntKind.i64.wrap (8 - D) = 8 - D := IntWalk.i64_in _ (by omega)
  have E5 : IntKind.i64.wrap (16 * M) = 16 * M := IntWalk.i64_in _ (by omega)
  have E6 : IntKind.i64.wrap (A + B + 16 * M) = T := by rw [hT]; exact IntWalk.i64_in _ (by omega)
  have F3 : wrap64 (A + B) = A + B := by rw [← IntWalk.i64_left]; exact E3
  have F4 : wrap64 (8 - D) = 8 - D := by rw [← IntWalk.i64_left]; exact E4
  have F5 : wrap64 (16 * M) = 16 * M := by rw [← IntWalk.i64_left]; exact E5
  have F6 : wrap64 (A + B + 16 * M) = T := by rw [← IntWalk.i64_left]; exact E6
  clear hA hB hD hM hT h1 h2 hp hq b1 b2 b3 bM
  have BA := Lib.hid (below_alloc2 w (.cells #[.int .i64 x, .int .i64 y, .int .i64 d] 95) (.cells #[.int .i64 x', .int .i64 y', .int .i64 d'] 95))
  go_enter Try.func144, Try.ntmps144
  go_wp2_with fail
  with_reducible refine (H3.out _).mono ?_
  rintro e w2 ⟨rfl, rfl⟩
  go_wp2
  have K0 := Lib.hid (show ((w.alloc (.cells #[.int .i64 x, .int .i64 y, .int .i64 d] 95)).alloc (.cells #[.int .i64 x', .int .i64 y', .int .i64 d'] 95)).heap[w.heap.size]? = some (.cells #[.int .i64 x, .int .i64 y, .int .i64 d] 95 (0, 0)) by rw [Below.heap_alloc _ _ _ (by simp)]; exact heap_alloc_new _ _)
  have K1 := Lib.hid (show ((w.alloc (.cells #[.int .i64 x, .int .i64 y, .int .i64 d] 95)).alloc (.cells #[.int .i64 x', .int .i64 y', .int .i64 d'] 95)).heap[w.heap.size + 1]? = some (.cells #[.int .i64 x', .int .i64 y', .int .i64 d'] 95 (0, 0)) by have := heap_alloc_new (w.alloc (.cells #[.int .i64 x, .int .i64 y, .int .i64 d] 95)) (.cells #[.int .i64 x', .int .i64 y', .int .i64 d'] 95); simpa using this)
  have hk : TF w w.heap.size (w.heap.size + 1) (x, y, d) (x', y', d') ((w.alloc (.cells #[.int .i64 x, .int .i64 y, .int .i64 d] 95)).alloc (.cells #[.int .i64 x', .int .i64 y', .int .i64 d'] 95)) := ⟨by rw [cell_of_block K0.out]; rfl, by rw [cell_of_block K0.out]; rfl, by rw [cell_of_block K1.out]; rfl, by rw [cell_of_block K1.out]; rfl, BA.out⟩
  clear BA K0 K1
  go_region_held3 (fun W => W.cell? ⟨w.heap.size, 0, none⟩ = some (.int .i64 x) ∧ W.cell? ⟨w.heap.size, 1, none⟩ = some (.int .i64 y) ∧ W.cell? ⟨w.heap.size + 1, 0, none⟩ = some (.int .i64 x') ∧ W.cell? ⟨w.heap.size + 1, 1, none⟩ = some (.int .i64 y') ∧ Below w.heap.size w W) (first | assumption | exact TF_drew hk | go_keep)
    (first | (go_at_call 141; first | ((with_reducible refine (H1.out _).mono ?_); rintro e wc ⟨rfl, rfl⟩) | ((with_reducible refine (H2.out _).mono ?_); rintro e wc ⟨rfl, rfl⟩)))
  all_goals
    rename_i hh
    have HB := Lib.hid hh.2.2.2.2
    clear hh
    go_wp2
    go_ret
    exact ⟨by rw [← HC.out]; rfl, HB.out⟩
end Go.Proofs.Ytkcfghbkcgommaa.seq
