/-
  Proved: what the program's functions that tell a bound of the least cost return.
  Conditions: none.
-/
import Derived.Test.YtkcfghbkcgommabEnvI
import Derived.Test.YtkcfghbkcgommabEndsI
import Derived.Test.YtkcfghbkcgommabElasI
namespace Go.Proofs.Ytkcfghbkcgommab.env
open Go.ChangeShapes Go.WideShapes Go.ChangeAt Go.RowKit Go.Joins
open Go.Proofs.Ytkcfghbkcgommab.core Go.Proofs.Ytkcfghbkcgommab.rown Go.Proofs.Ytkcfghbkcgommab.stk Go.Proofs.Ytkcfghbkcgommab.boxed Go.Proofs.Ytkcfghbkcgommab.ft Go.Proofs.Ytkcfghbkcgommab.seq Go.Proofs.Ytkcfghbkcgommab.tab Go.Proofs.Ytkcfghbkcgommab.dp
set_option linter.unusedVariables false
set_option linter.unusedSimpArgs false
set_option maxRecDepth 100000 in
set_option maxHeartbeats 8000000 in
theorem boundMI {ca cb : Nat} (A B : Option Addr) (na nb : Nat) (fa fb : Nat → P3) (bd : Nat) (w : World) (pa : PtsAt w A na fa) (pb : PtsAt w B nb fb) (va : okQ na fa = true) (vb : okQ nb fb = true) (hbd : 0 ≤ (bd : Int) ∧ (bd : Int) ≤ 72) (hab : absv ((na : Int) - (nb : Int)) ≤ (bd : Int)) :
    Calls Try.prog 21 #[mtv A B na nb ca cb bd] w fun e w' => e = .returned (.int .i64 (boundE na nb fa fb (bd : Int))) ∧ Below w.heap.size w w' := by
  obtain ⟨a1, a2, -⟩ := okQ_of va
  obtain ⟨b1, b2, -⟩ := okQ_of vb
  have VE := Lib.hid (env_okE ⟨a1, a2⟩ vb hbd hab)
  have HE := Lib.hid (fun W hW => envI (c := cb) B nb fb na bd W vb a1 a2 (by omega) hab hW)
  have HO := Lib.hid (fun W ea ec (hA : PtsAt W A na fa) (hN : ∀ k, k < 4 → NumAt W (ea k) na (envF fb nb (bd : Int) k)) => outsideMI (ca := ca) A na fa ea (fun _ => na) ec (envF fb nb (bd : Int)) W hA hN va VE.out rfl)
  have HD := Lib.hid (fun W hA hB => endsI (ca := ca) (cb := cb) A B na nb fa fb W hA hB va vb)
  have HV := Lib.hid (show max (outG fa (envF fb nb (bd : Int)) na) (endsE na nb fa fb) = boundE na nb fa fb (bd : Int) by unfold boundE; rw [outG_E])
  have BA := Lib.hid (below_alloc1 w (mtc A B na nb ca cb bd))
  have K0 := Lib.hid (heap_alloc_new w (mtc A B na nb ca cb bd))
  have HPA := Lib.hid pa
  have HPB := Lib.hid pb
  clear va vb hbd hab pa pb VE
  generalize boundE na nb fa fb (bd : Int) = R at *
  generalize outG fa (envF fb nb (bd : Int)) na = O at *
  generalize endsE na nb fa fb = D at *
  generalize envF fb nb (bd : Int) = F at *
  have hmax : ∀ (W : World), (Builtin.max_ #[2, 2] 2 #[.int .i64 O, .int .i64 D]).run Try.prog W = .ok (.int .i64 R) W := fun W => by rw [run_max2, HV.out]
  have hk : MB w.heap.size (.slice A na ca) (.slice B nb cb) (bd : Int) w (w.alloc (mtc A B na nb ca cb bd)) := ⟨by rw [cell_of_block K0.out]; rfl, by rw [cell_of_block K0.out]; rfl, by rw [cell_of_block K0.out]; rfl, block_size K0.out, BA.out⟩
  go_enter Try.func21, Try.ntmps21
  go_wp2
  go_region_held3 (fun W => W.cell? ⟨w.heap.size, 0, none⟩ = some (.slice A na ca) ∧ W.cell? ⟨w.heap.size, 1, none⟩ = some (.slice B nb cb) ∧ W.cell? ⟨w.heap.size, 2, none⟩ = some (.int .i64 (bd : Int)) ∧ w.heap.size < W.heap.size ∧ Below w.heap.size w W) (first | assumption | exact MB_drew hk | go_keep)
    (first
      | (go_at_call 36; (refine (HE.out _ (HPB.out.kept (show MB w.heap.size (.slice A na ca) (.slice B nb cb) (bd : Int) w _ from (by first | assumption | exact MB_drew hk)).2.2.2.2)).mono ?_); rintro e wc ⟨s, rfl, h4, hbc⟩; have hkc := MB_kept hbc (by first | assumption | exact MB_drew hk); obtain ⟨ea, ec, hs, hn⟩ := four_nums h4; rw [hs 0 (by omega), hs 1 (by omega), hs 2 (by omega), hs 3 (by omega)]; clear h4 hs)
      | (go_at_call 37; (refine (HO.out _ ea ec (HPA.out.kept (show MB w.heap.size (.slice A na ca) (.slice B nb cb) (bd : Int) w _ from (by assumption)).2.2.2.2) (by assumption)).mono ?_); rintro e wo ⟨rfl, hbo⟩; have hko := MB_kept hbo (by assumption))
      | (go_at_call 38; (refine (HD.out _ (HPA.out.kept (show MB w.heap.size (.slice A na ca) (.slice B nb cb) (bd : Int) w _ from (by first | assumption | exact MB_drew hk)).2.2.2.2) (HPB.out.kept (show MB w.heap.size (.slice A na ca) (.slice B nb cb) (bd : Int) w _ from (by first | assumption | exact MB_drew hk)).2.2.2.2)).mono ?_); rintro e wd ⟨rfl, hbd⟩; have hkd := MB_kept hbd (by first | assumption | exact MB_drew hk); (try have hn := fun k hk => (hn k hk).kept hbd)))
  all_goals
    rename_i hh
    have B2 := Lib.hid hh.2.2.2.2
    clear hh
    go_wp2
    go_ret
    exact ⟨rfl, B2.out⟩
end Go.Proofs.Ytkcfghbkcgommab.env
