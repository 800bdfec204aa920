/-
  Proved: the program's function that tells the box of a stroke answers as the document's definition.
  Conditions: the stroke's points lie in a row of their own.
-/
import Derived.Test.YtklfmlbokedbdaaBoxOf
namespace Go.Proofs.Ytklfmlbokedbdaa.boxOf
open Go.ChangeShapes Go.WideShapes Go.ChangeAt Go.RowKit Go.Joins
open Go.Proofs.Ytklfmlbokedbdaa.join Go.Proofs.Ytklfmlbokedbdaa.strokes Go.Proofs.Ytklfmlbokedbdaa.valid Go.Proofs.Ytklfmlbokedbdaa.boxes
set_option linter.unusedVariables false

set_option maxRecDepth 100000 in
set_option maxHeartbeats 2000000 in
theorem implBox_ok (g n : Nat) (pts : List P3) (p : P3) (x1 x2 x3 x4 : Int) (w : World) (hn : pts.length = n) (hcap : n ≤ 1048576) (hg : g < w.heap.size) (hp : Pts w g pts) (hv : vS pts = true) (h0 : pts[0]? = some p)
    (e1 : gX1 p.1 pts = x1) (e2 : gY1 p.2.1 pts = x2) (e3 : gX2 p.1 pts = x3) (e4 : gY2 p.2.1 pts = x4) :
    Calls Try.prog 30 #[stroke g n] w fun e w' => e = .returned (.tuple #[box x1 x2 x3 x4, .int .i64 0]) ∧ Below w.heap.size w w' := by
  have HN := Lib.hid hn
  have HP := Lib.hid (hp.below (below_alloc2 w (.cells #[.slice (some ⟨g, 0, none⟩) n n] 29) (.cells #[.int .i64 0, .int .i64 0, .int .i64 0, .int .i64 0] 48)) hg)
  have HV := Lib.hid hv
  have H0 := Lib.hid h0
  have HE := Lib.hid (And.intro e1 (And.intro e2 (And.intro e3 e4)))
  have hn0 : 0 < n := by have := (vS_pos hv).1; omega
  have hn1 : (0 : Int) < (n : Int) := by omega
  have hn2 : (0 : Int) ≤ (n : Int) := by omega
  clear hn hp hv h0 e1 e2 e3 e4
  go_enter Try.func30, Try.ntmps30
  go_wp2_with fail
  refine (implValid_calls g n pts _ HN.out hcap (by simp; omega) HP.out).mono ?_
  rintro e w1 ⟨rfl, hb1⟩
  rw [HV.out]
  obtain ⟨q0, q1, q2⟩ := HP.out 0 p H0.out
  have hk : SB w p pts g n w1 := SB_kept hb1 ⟨by simp, by simpa using q0, by simpa using q1, by simpa using q2, ⟨below_alloc2 w _ _, by simp, hg, HP.out, _, _, _, _, by
    have h := heap_alloc_new (w.alloc (.cells #[.slice (some ⟨g, 0, none⟩) n n] 29)) (.cells #[.int .i64 0, .int .i64 0, .int .i64 0, .int .i64 0] 48)
    have e : (w.alloc (.cells #[.slice (some ⟨g, 0, none⟩) n n] 29)).heap.size = w.heap.size + 1 := by simp
    rw [e] at h
    exact h⟩⟩
  clear hb1 HP q0 q1 q2
  have hk0 := hk
  obtain ⟨c0, c1, c2, c3, _⟩ := hk0
  go_wp2
  clear c0 c1 c2 c3
  go_region_held3 (fun W => W.cell? ⟨w.heap.size, 0, none⟩ = some (.slice (some ⟨g, 0, none⟩) n n) ∧ W.cell? ⟨g, 0, none⟩ = some (.int .i64 p.1) ∧ W.cell? ⟨g, 1, none⟩ = some (.int .i64 p.2.1) ∧ W.cell? ⟨g, 2, none⟩ = some (.int .i64 p.2.2) ∧ InvB w pts g n W) (first | assumption | exact SB_drew hk | exact SB_set (by assumption) | go_keep)
    (first | (go_at_call 62; refine (boxAt_calls _ _ _ _).mono ?_; rintro e w' ⟨rfl, hb⟩; have hk2 := SB_kept hb (by assumption)) | (go_at_call 63; refine (grown_calls _ _ _ _ g n n pts _ HN.out (by omega) (by exact SB_row (by assumption)) (by exact SB_gz (by assumption))).mono ?_; rintro e w' ⟨rfl, hb⟩; rw [HE.out.1, HE.out.2.1, HE.out.2.2.1, HE.out.2.2.2]; have hk2 := SB_kept hb (by assumption); obtain ⟨hz, v0, v1, v2, v3, r0, r1, r2, r3, hfz⟩ := SB_res hk2))
  rename_i hh
  have HF := Lib.hid (SB_below hh)
  clear hh
  go_wp2
  exact bodyPost_ret (v := .tuple #[box x1 x2 x3 x4, .int .i64 0]) (by simp [results, Try.results30, go_sem, r0, r1, r2, r3]) rfl
    ⟨rfl, HF.out⟩
end Go.Proofs.Ytklfmlbokedbdaa.boxOf
