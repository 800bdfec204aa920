/-
  Proved: what the program's function that returns the scores of all labels for an input returns.
  Conditions: the perceptron is valid, and the input is small.
-/
import Derived.Test.YtimkochgnjggdaaSco
namespace Go.Proofs.Ytimkochgnjggdaa.sco
open Go.ChangeShapes Go.WideShapes Go.ChangeAt Go.RowKit Go.Joins
open Go.Proofs.Ytimkochgnjggdaa.core Go.Proofs.Ytimkochgnjggdaa.rown Go.Proofs.Ytimkochgnjggdaa.stk Go.Proofs.Ytimkochgnjggdaa.boxed Go.Proofs.Ytimkochgnjggdaa.ft Go.Proofs.Ytimkochgnjggdaa.one1 Go.Proofs.Ytimkochgnjggdaa.inp Go.Proofs.Ytimkochgnjggdaa.per
set_option linter.unusedVariables false
set_option linter.unusedSimpArgs false
theorem makeZ (n : Nat) (hn : n ≤ 1048576) (w : World) : ∃ cur : Array Value, cur.size = n ∧
    (Instr.makeSlice 24 (.int .i64 0) (.int .i64 (n : Int))).run Try.prog w = .ok (.slice (some ⟨w.heap.size, 0, none⟩) 0 n) (w.alloc (.cells cur 2)) := by
  obtain ⟨i0, hi, hz0, hz1, hz2⟩ := rown.info_get infoI
  have hr := run_make (P := Try.prog) w 24 2 i0 _ Try.underlying24 hi hz0 .i64 .i64 0 n (by omega) (by omega) (by rw [hz2]; omega) (by omega)
  simp only [Int.toNat_natCast] at hr
  refine ⟨_, ?_, hr⟩
  rw [hz1]
  simp [madeCells]
theorem rowZ (w : World) (E n : Nat) (cur : Array Value) (hc : cur.size = n) (hn : n ≤ maxLen) : (w.alloc (.cells cur E)).ownsRow w.heap.size E 1 (.slice (some ⟨w.heap.size, 0, none⟩) 0 n) 0 [] :=
  ⟨by simp, .inr ⟨w.heap.size, n, _, rfl, Nat.le_refl _, heap_alloc_new _ _, Nat.zero_le _, hn, by omega, by simp⟩⟩
set_option maxRecDepth 100000 in
set_option maxHeartbeats 2000000 in
theorem scorerI {dx : Nat} (X : Option Addr) (w : World) :
    Calls Try.prog 108 #[.slice X 25 dx] w fun e w' => e = .returned (.func (.func 126) #[] #[.pointer (some ⟨w.heap.size, 0, none⟩)]) ∧ w' = w.alloc (.cells #[.slice X 25 dx] 24) := by
  go_enter Try.func108, Try.ntmps108
  go_wp2
  go_ret
  exact ⟨rfl, rfl⟩
set_option maxRecDepth 100000 in
set_option maxHeartbeats 8000000 in
theorem scoresI {c d dx : Nat} (A B X : Option Addr) (m n : Nat) (wn : Nat → Nat) (wf : Nat → Nat → Int) (x : Nat → Int) (w : World) (hn : n ≤ 12) (hw : ∀ i, i < n → RowOk (wn i) (wf i)) (hx : InX x) (hp : WsAt w B n wn wf) (hq : NumAt w X 25 x) :
    Calls Try.prog 81 #[.agg #[.slice A m c, .slice B n d], .slice X 25 dx] w fun e w' => ∃ v, e = .returned v ∧ w'.ownsRow w.heap.size 2 1 v n (rws (one (scr wf x)) n) ∧ Below w.heap.size w w' := by
  obtain ⟨i0, hi0, hz0, hz1', hz2⟩ := rown.info_get infoI
  have HP := Lib.hid hp
  have HQ := Lib.hid hq
  have HW := Lib.hid hw
  have HSC := Lib.hid (fun W => scorerI (dx := dx) X W)
  have HD := Lib.hid (fun (i : Nat) (hi : i < n) (ci : Nat) (b : Nat) (Ai : Option Addr) (W : World) (hW : Below w.heap.size w W) (hb : b < W.heap.size) (c0 : W.cell? ⟨b, 0, none⟩ = some (.slice X 25 dx)) (hr : NumAt W Ai 25 (wf i)) => dotI (c := ci) b Ai X (wf i) x W hb c0 hr (hq.kept hW) (hw i hi).2 hx)
  obtain ⟨w1, hw1⟩ : ∃ w1, (w.alloc (.cells #[.slice A m c, .slice B n d] 38)).alloc (.cells #[.slice X 25 dx] 24) = w1 := ⟨_, rfl⟩
  have B1 := Lib.hid (show Below w.heap.size w w1 by rw [← hw1]; exact below_alloc2 _ _ _)
  have HK := Lib.hid (show ∀ V, Below w1.heap.size w1 V → V.cell? ⟨w.heap.size, 1, none⟩ = some (.slice B n d) ∧ V.cell? ⟨w.heap.size + 1, 0, none⟩ = some (.slice X 25 dx) ∧ w.heap.size + 1 < V.heap.size by
    intro V hV
    rw [← hw1] at hV
    have h1 := heap_alloc_new w (.cells #[.slice A m c, .slice B n d] 38)
    have h2 := heap_alloc_new (w.alloc (.cells #[.slice A m c, .slice B n d] 38)) (.cells #[.slice X 25 dx] 24)
    have B2 := below_alloc1 (w.alloc (.cells #[.slice A m c, .slice B n d] 38)) (.cells #[.slice X 25 dx] 24)
    have e1 : (w.alloc (.cells #[.slice A m c, .slice B n d] 38)).heap.size = w.heap.size + 1 := by simp
    have e2 : ((w.alloc (.cells #[.slice A m c, .slice B n d] 38)).alloc (.cells #[.slice X 25 dx] 24)).heap.size = w.heap.size + 2 := by simp
    rw [e1] at h2 B2
    have z1 := (hV.block w.heap.size (by omega)).trans ((B2.block w.heap.size (by omega)).trans h1)
    have z2 := (hV.block (w.heap.size + 1) (by omega)).trans h2
    have hs := hV.size
    exact ⟨by rw [cell_of_block z1]; rfl, by rw [cell_of_block z2]; rfl, by omega⟩)
  have HW1 := Lib.hid hw1
  clear hp hq hw hw1
  go_enter Try.func81, Try.ntmps81
  go_wp2_with fail
  refine (HSC.out _).mono ?_
  rintro e w1' ⟨rfl, hw1'⟩
  rw [HW1.out] at hw1'
  subst hw1'
  obtain ⟨k1, k2, kz⟩ := HK.out _ (Below.refl _ _)
  obtain ⟨cur, hcu, hmk⟩ := makeZ n (by omega) w1'
  have R0 := Lib.hid (rowZ w1' 2 n cur hcu (by simp only [maxLen]; omega))
  have BM := Lib.hid (below_alloc1 w1' (.cells cur 2))
  have k3 := (HK.out _ BM.out).1
  clear hcu
  have hz1 : (w.alloc (.cells #[.slice A m c, .slice B n d] 38)).heap.size = w.heap.size + 1 := by simp
  go_wp2
  clear hmk k1 k2 k3
  go_loopw [6, 18] (fun o i w' => ∃ (j C : Nat) (D : Option Addr), j ≤ n ∧ i = .int .i64 (j : Int) ∧ o = .slice D j C ∧ Hid (w'.ownsRow w1'.heap.size 2 1 (.slice D j C) j (rws (one (scr wf x)) j)) ∧ Hid (Below w1'.heap.size w1' w')) (fun _ i _ => n - (intOf i).toNat)
  case atStart => exact ⟨0, n, _, Nat.zero_le _, rfl, rfl, R0, BM⟩
  case round =>
    obtain ⟨j, C, D, hj, rfl, rfl, HO, HB⟩ := hrel
    obtain ⟨k1, k2, kz⟩ := HK.out _ HB.out
    have HBW := Lib.hid (B1.out.trans (HB.out.mono B1.out.size))
    by_cases hlt : j < n
    · obtain ⟨b1, o1, Ai, ci, rfl, hb1, p0, hrow⟩ := (HP.out.kept HBW.out) j hlt
      rw [(HW.out j hlt).1] at p0 hrow
      have hli : (j : Int) < (n : Int) := by omega
      have HDJ := Lib.hid (HD.out j hlt ci (w.heap.size + 1) Ai wr HBW.out kz k2 hrow)
      obtain ⟨u, hu⟩ : ∃ u, dot (wf j) x 25 = u := ⟨_, rfl⟩
      have HX := Lib.hid (show rws (one (scr wf x)) (j + 1) = rws (one (scr wf x)) j ++ [.int .i64 u] by rw [rws_succ]; unfold one scr; rw [hu])
      rw [hu] at HDJ
      clear hrow hu
      go_wp2_with fail
      refine HDJ.out.mono ?_
      rintro e _ ⟨rfl, rfl⟩
      go_wp2_with (first
        | (at_builtin
           have z0 := rown.ownsRow_kept HO.out (below_alloc1 wr (.cells #[.int .i64 u] 2))
           have z2 : ∀ u' ∈ [Value.int .i64 u], u'.oneCell' = true := (by simp [Value.oneCell'])
           have z3 : j + 1 ≤ maxLen := (by simp only [maxLen]; omega)
           have z4 : (j + 1) * 8 ≤ 140737488355328 := (by omega)
           have z5 : w1'.heap.size ≤ (wr.alloc (.cells #[.int .i64 u] 2)).heap.size := (Nat.le_trans HB.out.size (by simp))
           refine wpList_append_lies (wr.alloc (.cells #[.int .i64 u] 2)) rfl _ _ 24 rfl w1'.heap.size 2 i0 _ 1 8 Try.underlying24 hi0 hz0 hz1' hz2 rfl (by decide) (.slice D j C) j _ rfl z0 ⟨wr.heap.size, 0, none⟩ 1 1 [.int .i64 u] rfl rfl (one_newC rfl) z2 (by decide) z3 z4 z5 _ rfl ?_
           intro g3 cap3 w5 hown1 hgr hat hlt3
           have HO4 := Lib.hid hown1
           have HB4 := Lib.hid (HB.out.trans (rown.under HO.out HB.out.size hgr))
           clear hown1 hgr hat z0 z2 z3 z4 z5))
      go_roundw
      case rel => exact ⟨j + 1, cap3, some ⟨g3, 0, none⟩, by omega, by go_num, rfl, Lib.hid (by rw [HX.out]; exact HO4.out), HB4⟩
      case measure => simp [intOf]; omega
    · obtain rfl : j = n := by omega
      go_wp2
      go_ret
      exact ⟨_, rfl, row_low HO.out B1.out.size, HBW.out⟩
end Go.Proofs.Ytimkochgnjggdaa.sco
