/-
  Proved: what the program's functions that collect what a feature is matched with, and that tell the mean, return.
  Conditions: the numbers are those of features on a path.
-/
import Derived.Test.YthpmckfjlbiiiabBlendF
import Derived.Test.YthpmckfjlbiiiabCostI
import Derived.Test.YthpmckfjlbiiiabPut
import Derived.Test.YthpmckfjlbiiiabNear
namespace Go.Proofs.Ythpmckfjlbiiiab.path
open Go.ChangeShapes Go.WideShapes Go.ChangeAt Go.RowKit Go.Joins
open Go.Proofs.Ythpmckfjlbiiiab.core Go.Proofs.Ythpmckfjlbiiiab.rown Go.Proofs.Ythpmckfjlbiiiab.stk Go.Proofs.Ythpmckfjlbiiiab.boxed Go.Proofs.Ythpmckfjlbiiiab.ft Go.Proofs.Ythpmckfjlbiiiab.seq Go.Proofs.Ythpmckfjlbiiiab.near Go.Proofs.Ythpmckfjlbiiiab.put3
set_option linter.unusedVariables false
set_option linter.unusedSimpArgs false
set_option maxRecDepth 100000 in
set_option maxHeartbeats 8000000 in
theorem addI {base n g c i : Nat} {F : Nat → P3} (p : P3) (w : World) (ho : w.ownsRow base 115 3 (.slice (some ⟨g, 0, none⟩) n c) n (rws (row3 F) n)) (hbz : base ≤ w.heap.size) (hi : i < n) (hp : inF p = true)
    (hF : (0 ≤ (F i).1 ∧ (F i).1 ≤ 1000000000) ∧ (0 ≤ (F i).2.1 ∧ (F i).2.1 ≤ 1000000000) ∧ (0 ≤ (F i).2.2 ∧ (F i).2.2 ≤ 1000000000)) :
    Calls Try.prog 73 #[.pointer (some ⟨g, i * 3, none⟩), pv p] w fun e w' => e = .returned (.tuple #[]) ∧ w'.ownsRow base 115 3 (.slice (some ⟨g, 0, none⟩) n c) n (rws (row3 (put F i ((F i).1 + p.1, (F i).2.1 + p.2.1, (F i).2.2 + 1))) n) ∧ Below base w w' := by
  have hpi := inF_of hp
  have BA := Lib.hid (below_alloc1 w (.cells #[.int .i64 p.1, .int .i64 p.2.1, .int .i64 p.2.2] 65))
  have K0 := Lib.hid (heap_alloc_new w (.cells #[.int .i64 p.1, .int .i64 p.2.1, .int .i64 p.2.2] 65))
  have hgz := rown.row_lt ho
  have hbg := (ownsRow_block ho (g := g) rfl).1
  have hl := rws_len (row3_len F) n
  have HO := Lib.hid (rown.ownsRow_kept ho BA.out)
  obtain ⟨W0, hW0⟩ : ∃ v, v = w.alloc (.cells #[.int .i64 p.1, .int .i64 p.2.1, .int .i64 p.2.2] 65) := ⟨_, rfl⟩
  rw [← hW0] at BA K0 HO
  obtain ⟨X, Y, Q, hXYQ⟩ : ∃ X Y Q, F i = (X, Y, Q) := ⟨_, _, _, rfl⟩
  have HP := Lib.hid (own_put (w := W0) HO.out hi (X + p.1, Y + p.2.1, Q + 1))
  have x0 := row_cell HO.out (row3_len F) hi (show 0 < 3 by omega) (v := .int .i64 X) (by unfold row3; rw [hXYQ]; rfl)
  have x1 := row_cell HO.out (row3_len F) hi (show 1 < 3 by omega) (v := .int .i64 Y) (by unfold row3; rw [hXYQ]; rfl)
  have x2 := row_cell HO.out (row3_len F) hi (show 2 < 3 by omega) (v := .int .i64 Q) (by unfold row3; rw [hXYQ]; rfl)
  rw [hXYQ] at hF ⊢
  simp only [Nat.add_zero] at x0 x1 x2 hF
  have E1 : IntKind.i64.wrap (X + p.1) = X + p.1 := IntWalk.i64_in _ (by omega)
  have E2 : IntKind.i64.wrap (Y + p.2.1) = Y + p.2.1 := IntWalk.i64_in _ (by omega)
  have E3 : IntKind.i64.wrap (Q + 1) = Q + 1 := IntWalk.i64_in _ (by omega)
  have F1 : wrap64 (X + p.1) = X + p.1 := by rw [← IntWalk.i64_left]; exact E1
  have F2 : wrap64 (Y + p.2.1) = Y + p.2.1 := by rw [← IntWalk.i64_left]; exact E2
  have F3 : wrap64 (Q + 1) = Q + 1 := by rw [← IntWalk.i64_left]; exact E3
  have xz := rown.row_lt HO.out
  have xf := free_row HO.out
  have y0 := block_size K0.out
  have b0 : W0.cell? ⟨w.heap.size, 0, none⟩ = some (.int .i64 p.1) := by rw [cell_of_block K0.out]; rfl
  have b1 : W0.cell? ⟨w.heap.size, 1, none⟩ = some (.int .i64 p.2.1) := by rw [cell_of_block K0.out]; rfl
  have hne : ¬ w.heap.size = g := by omega
  have hne2 : ¬ g = w.heap.size := by omega
  have HBW := Lib.hid (show Below base w W0 from BA.out.mono hbz)
  have HBG := Lib.hid hbg
  clear ho hF hXYQ hl hp hpi hbg
  have HW0 := Lib.hid hW0
  clear hW0
  go_enter Try.func73, Try.ntmps73
  go_wp2
  rw [← HW0.out]
  clear HW0
  go_region
  go_wp2
  go_region
  go_wp2
  go_end0
  exact ⟨rfl, rown.ownsRow_kept HP.out ((Below.refl _ _).drew.drew), ((((HBW.out.setCell HBG.out _).setCell HBG.out _).setCell HBG.out _).drew).drew⟩
set_option maxRecDepth 100000 in
set_option maxHeartbeats 8000000 in
theorem withI {g o : Nat} (X Y Q : Int) (p : P3) (w : World) (hp : inF p = true) (hQ : 1 ≤ Q ∧ Q ≤ 1048576) (hX : 0 ≤ X ∧ X ≤ 1000000000) (hY : 0 ≤ Y ∧ Y ≤ 1000000000)
    (h0 : w.cell? ⟨g, o, none⟩ = some (.int .i64 X)) (h1 : w.cell? ⟨g, o + 1, none⟩ = some (.int .i64 Y)) (h2 : w.cell? ⟨g, o + 2, none⟩ = some (.int .i64 Q)) :
    Calls Try.prog 74 #[.pointer (some ⟨g, o, none⟩), pv p] w fun e w' => e = .returned (pv (nr (X + Q * p.1) (2 * Q), nr (Y + Q * p.2.1) (2 * Q), p.2.2)) ∧ Below w.heap.size w w' := by
  have hpi := inF_of hp
  have hz := World.block_lt_of_cell? w ⟨g, o, none⟩ h0
  simp only at hz
  have BA := Lib.hid (below_alloc2 w (.cells #[.int .i64 p.1, .int .i64 p.2.1, .int .i64 p.2.2] 65) (.cells #[.int .i64 0, .int .i64 0, .int .i64 0] 65))
  have K0 := Lib.hid (show ((w.alloc (.cells #[.int .i64 p.1, .int .i64 p.2.1, .int .i64 p.2.2] 65)).alloc (.cells #[.int .i64 0, .int .i64 0, .int .i64 0] 65)).heap[w.heap.size]? = some (.cells #[.int .i64 p.1, .int .i64 p.2.1, .int .i64 p.2.2] 65 (0, 0)) by rw [Below.heap_alloc _ _ _ (by simp)]; exact heap_alloc_new _ _)
  have K1 := Lib.hid (show ((w.alloc (.cells #[.int .i64 p.1, .int .i64 p.2.1, .int .i64 p.2.2] 65)).alloc (.cells #[.int .i64 0, .int .i64 0, .int .i64 0] 65)).heap[w.heap.size + 1]? = some (.cells #[.int .i64 0, .int .i64 0, .int .i64 0] 65 (0, 0)) by have := heap_alloc_new (w.alloc (.cells #[.int .i64 p.1, .int .i64 p.2.1, .int .i64 p.2.2] 65)) (.cells #[.int .i64 0, .int .i64 0, .int .i64 0] 65); simpa using this)
  obtain ⟨W0, hW0⟩ : ∃ v, v = (w.alloc (.cells #[.int .i64 p.1, .int .i64 p.2.1, .int .i64 p.2.2] 65)).alloc (.cells #[.int .i64 0, .int .i64 0, .int .i64 0] 65) := ⟨_, rfl⟩
  rw [← hW0] at BA K0 K1
  have m1 := mul_in (K := Q) (k := 1048576) (a := p.1) (by omega) (by omega) (by omega) (by omega)
  have m2 := mul_in (K := Q) (k := 1048576) (a := p.2.1) (by omega) (by omega) (by omega) (by omega)
  have H1 := Lib.hid (fun W => implNear (X + Q * p.1) (2 * Q) (by omega) (by omega) (by omega) (by omega) W)
  have H2 := Lib.hid (fun W => implNear (Y + Q * p.2.1) (2 * Q) (by omega) (by omega) (by omega) (by omega) W)
  obtain ⟨M1, hM1⟩ : ∃ v, Q * p.1 = v := ⟨_, rfl⟩
  obtain ⟨M2, hM2⟩ : ∃ v, Q * p.2.1 = v := ⟨_, rfl⟩
  rw [hM1] at m1 H1 ⊢
  rw [hM2] at m2 H2 ⊢
  have E1 : IntKind.i64.wrap (Q * p.1) = M1 := by rw [hM1]; exact IntWalk.i64_in _ (by omega)
  have E2 : IntKind.i64.wrap (Q * p.2.1) = M2 := by rw [hM2]; exact IntWalk.i64_in _ (by omega)
  have E3 : IntKind.i64.wrap (X + M1) = X + M1 := IntWalk.i64_in _ (by omega)
  have E4 : IntKind.i64.wrap (Y + M2) = Y + M2 := IntWalk.i64_in _ (by omega)
  have E5 : IntKind.i64.wrap (2 * Q) = 2 * Q := IntWalk.i64_in _ (by omega)
  obtain ⟨R1, hR1⟩ : ∃ v, nr (X + M1) (2 * Q) = v := ⟨_, rfl⟩
  obtain ⟨R2, hR2⟩ : ∃ v, nr (Y + M2) (2 * Q) = v := ⟨_, rfl⟩
  rw [hR1] at H1 ⊢
  rw [hR2] at H2 ⊢
  have a0 : W0.cell? ⟨g, o, none⟩ = some (.int .i64 X) := (BA.out.cell (p := ⟨g, o, none⟩) hz).trans h0
  have a1 : W0.cell? ⟨g, o + 1, none⟩ = some (.int .i64 Y) := (BA.out.cell (p := ⟨g, o + 1, none⟩) hz).trans h1
  have a2 : W0.cell? ⟨g, o + 2, none⟩ = some (.int .i64 Q) := (BA.out.cell (p := ⟨g, o + 2, none⟩) hz).trans h2
  have b0 : W0.cell? ⟨w.heap.size, 0, none⟩ = some (.int .i64 p.1) := by rw [cell_of_block K0.out]; rfl
  have b1 : W0.cell? ⟨w.heap.size, 1, none⟩ = some (.int .i64 p.2.1) := by rw [cell_of_block K0.out]; rfl
  have b2 : W0.cell? ⟨w.heap.size, 2, none⟩ = some (.int .i64 p.2.2) := by rw [cell_of_block K0.out]; rfl
  have c0 : W0.cell? ⟨w.heap.size + 1, 0, none⟩ = some (.int .i64 0) := by rw [cell_of_block K1.out]; rfl
  have c1 : W0.cell? ⟨w.heap.size + 1, 1, none⟩ = some (.int .i64 0) := by rw [cell_of_block K1.out]; rfl
  have c2 : W0.cell? ⟨w.heap.size + 1, 2, none⟩ = some (.int .i64 0) := by rw [cell_of_block K1.out]; rfl
  have cf : ∀ i, W0.frozen? ⟨w.heap.size + 1, i, none⟩ = false := unfrozen_of_block K1.out
  have z1 : w.heap.size + 1 < W0.heap.size := block_size K1.out
  have HW0 := Lib.hid hW0
  have HK := Lib.hid (show W0.drew.cell? ⟨g, o, none⟩ = some (.int .i64 X) ∧ W0.drew.cell? ⟨g, o + 1, none⟩ = some (.int .i64 Y) ∧ W0.drew.cell? ⟨g, o + 2, none⟩ = some (.int .i64 Q) ∧ W0.drew.cell? ⟨w.heap.size, 0, none⟩ = some (.int .i64 p.1) ∧ W0.drew.cell? ⟨w.heap.size, 1, none⟩ = some (.int .i64 p.2.1) ∧ W0.drew.cell? ⟨w.heap.size, 2, none⟩ = some (.int .i64 p.2.2) ∧ Below w.heap.size w W0.drew from ⟨a0, a1, a2, b0, b1, b2, BA.out.drew⟩)
  have hne : w.heap.size ≠ w.heap.size + 1 := by omega
  have hng : g ≠ w.heap.size + 1 := by omega
  have HKS := Lib.hid (show ∀ u1 u2 u3 : Value, (fun W : World => W.cell? ⟨g, o, none⟩ = some (.int .i64 X) ∧ W.cell? ⟨g, o + 1, none⟩ = some (.int .i64 Y) ∧ W.cell? ⟨g, o + 2, none⟩ = some (.int .i64 Q) ∧ W.cell? ⟨w.heap.size, 0, none⟩ = some (.int .i64 p.1) ∧ W.cell? ⟨w.heap.size, 1, none⟩ = some (.int .i64 p.2.1) ∧ W.cell? ⟨w.heap.size, 2, none⟩ = some (.int .i64 p.2.2) ∧ Below w.heap.size w W) (((W0.drew.setCell ⟨w.heap.size + 1, 0, none⟩ u1).setCell ⟨w.heap.size + 1, 1, none⟩ u2).setCell ⟨w.heap.size + 1, 2, none⟩ u3) from fun u1 u2 u3 => by
    have ek : ∀ k, k ≠ w.heap.size + 1 → (((W0.drew.setCell ⟨w.heap.size + 1, 0, none⟩ u1).setCell ⟨w.heap.size + 1, 1, none⟩ u2).setCell ⟨w.heap.size + 1, 2, none⟩ u3).heap[k]? = W0.drew.heap[k]? := fun k hk => by
      rw [Below.heap_setCell _ _ _ _ (by simpa using hk), Below.heap_setCell _ _ _ _ (by simpa using hk), Below.heap_setCell _ _ _ _ (by simpa using hk)]
    obtain ⟨q0, q1, q2, q3, q4, q5, q6⟩ := HK.out
    exact ⟨(World.cell?_of_block (ek g hng)).trans q0, (World.cell?_of_block (ek g hng)).trans q1, (World.cell?_of_block (ek g hng)).trans q2, (World.cell?_of_block (ek _ hne)).trans q3, (World.cell?_of_block (ek _ hne)).trans q4, (World.cell?_of_block (ek _ hne)).trans q5, ((q6.setCell (by simp) _).setCell (by simp) _).setCell (by simp) _⟩)
  clear hM1 hM2 hR1 hR2 m1 m2 hpi hQ hX hY h0 h1 h2 hp hW0 K0 K1 BA
  go_enter Try.func74, Try.ntmps74
  go_wp2
  rw [← HW0.out]
  go_region_held3 (fun W => W.cell? ⟨g, o, none⟩ = some (.int .i64 X) ∧ W.cell? ⟨g, o + 1, none⟩ = some (.int .i64 Y) ∧ W.cell? ⟨g, o + 2, none⟩ = some (.int .i64 Q) ∧ W.cell? ⟨w.heap.size, 0, none⟩ = some (.int .i64 p.1) ∧ W.cell? ⟨w.heap.size, 1, none⟩ = some (.int .i64 p.2.1) ∧ W.cell? ⟨w.heap.size, 2, none⟩ = some (.int .i64 p.2.2) ∧ Below w.heap.size w W) (first | assumption | exact HK.out | exact HKS.out _ _ _ | go_keep)
    (first | (go_at_call 104; (first | (with_reducible refine (H1.out _).mono ?_) | (with_reducible refine (H2.out _).mono ?_)); rintro e wd ⟨rfl, rfl⟩))
  all_goals
    rename_i hh
    have HB := Lib.hid hh.2.2.2.2.2.2
    clear hh
    go_wp2
    exact bodyPost_ret (v := pv (R1, R2, p.2.2)) (by simp [results, Try.results74, go_sem, c0, c1, c2, cf, z1]) rfl ⟨rfl, HB.out⟩
end Go.Proofs.Ythpmckfjlbiiiab.path
