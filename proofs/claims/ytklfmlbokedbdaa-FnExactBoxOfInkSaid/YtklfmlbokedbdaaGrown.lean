/-
  Proved: what the functions that join boxes return (contracts of the callees of the law on JoinBoxes).
  Conditions: none.
-/
import Derived.Test.YtklfmlbokedbdaaPts
import Derived.BigRegion
import Derived.Deep.RegionHeld3
namespace Go.Proofs.Ytklfmlbokedbdaa.join
open Go.ChangeShapes Go.WideShapes Go.ChangeAt Go.RowKit Go.Joins
open Go.Proofs.Ytklfmlbokedbdaa.boxes
set_option linter.unusedVariables false

theorem ret_int {k : IntKind} {a b : Int} (h : a = b) : Ending.returned (.int k a) = .returned (.int k b) := by rw [h]

theorem min_calls (a b : Int) (w : World) : Calls Try.prog 84 #[.int .i64 a, .int .i64 b] w fun e w' => e = .returned (.int .i64 (min a b)) ∧ w = w' := by
  go_enter Try.func84, Try.ntmps84
  go_wp2
  all_goals go_ret
  all_goals exact ⟨ret_int (by omega), rfl⟩
theorem max_calls (a b : Int) (w : World) : Calls Try.prog 85 #[.int .i64 a, .int .i64 b] w fun e w' => e = .returned (.int .i64 (max a b)) ∧ w = w' := by
  go_enter Try.func85, Try.ntmps85
  go_wp2
  all_goals go_ret
  all_goals exact ⟨ret_int (by omega), rfl⟩

set_option maxRecDepth 100000 in
set_option maxHeartbeats 2000000 in
theorem grown_calls (a b c d : Int) (g n cap : Nat) (pts : List P3) (w : World) (hn : pts.length = n) (hcap : n ≤ 9000000000000000000) (hp : Pts w g pts) (hg : g < w.heap.size) :
    Calls Try.prog 63 #[box a b c d, .slice (some ⟨g, 0, none⟩) n cap] w fun e w' => e = .returned (box (gX1 a pts) (gY1 b pts) (gX2 c pts) (gY2 d pts)) ∧ Below w.heap.size w w' := by
  have HN := Lib.hid hn
  have HP := Lib.hid hp
  clear hn hp
  go_enter Try.func63, Try.ntmps63
  go_wp2
  go_loopw [9] (fun i w' => ∃ k : Nat, k ≤ n ∧ i = .int .i64 k ∧ Growing w (gX1 a (pts.take k)) (gY1 b (pts.take k)) (gX2 c (pts.take k)) (gY2 d (pts.take k)) w') (fun i _ => n - (intOf i).toNat)
  case atStart =>
    exact ⟨0, Nat.zero_le _, rfl, Growing.start w a b c d⟩
  case round =>
    obtain ⟨k, hk, rfl, hG⟩ := hrel
    by_cases hlt : k < n
    · have hkl : k < pts.length := by rw [HN.out]; exact hlt
      obtain ⟨p0, p1, p2⟩ := HP.out k pts[k] (List.getElem?_eq_getElem hkl)
      generalize hpk : pts[k] = p at p0 p1 p2
      have HK := Lib.hid hpk
      clear hpk
      generalize ea : gX1 a (pts.take k) = a0 at *
      generalize eb : gY1 b (pts.take k) = b0 at *
      generalize ec : gX2 c (pts.take k) = c0 at *
      generalize ed : gY2 d (pts.take k) = d0 at *
      have EA := Lib.hid ea
      have EB := Lib.hid eb
      have EC := Lib.hid ec
      have ED := Lib.hid ed
      clear ea eb ec ed
      have HG := Lib.hid hG
      clear hG
      have q0 := (HG.out.below.cell (p := ⟨g, k * 3, none⟩) hg).trans p0
      have q1 := (HG.out.below.cell (p := ⟨g, k * 3 + 1, none⟩) hg).trans p1
      have q2 := (HG.out.below.cell (p := ⟨g, k * 3 + 2, none⟩) hg).trans p2
      clear p0 p1 p2
      go_wp2
      clear q0 q1 q2
      have h0 : wr.cell? ⟨w.heap.size, 0, none⟩ = some (.int .i64 a0) := HG.out.cell 0
      have h2 : wr.cell? ⟨w.heap.size, 2, none⟩ = some (.int .i64 c0) := HG.out.cell 2
      have hf0 := HG.out.fr 0
      have hf2 := HG.out.fr 2
      have lz : w.heap.size < wr.heap.size := by have := HG.out.size; omega
      go_region
      clear h0 h2 hf0 hf2
      generalize e1 : (if p.1 < a0 then p.1 else a0) = x1
      generalize e2 : (if c0 < p.1 then p.1 else c0) = x2
      have h1 : wr.cell? ⟨w.heap.size, 1, none⟩ = some (.int .i64 b0) := HG.out.cell 1
      have h3 : wr.cell? ⟨w.heap.size, 3, none⟩ = some (.int .i64 d0) := HG.out.cell 3
      have hf1 := HG.out.fr 1
      have hf3 := HG.out.fr 3
      have ALL := Lib.hid (And.intro e1 (And.intro e2 (And.intro EA.out (And.intro EB.out (And.intro EC.out (And.intro ED.out (And.intro HK.out (And.intro HP.out (And.intro HN.out HG.out)))))))))
      clear e1 e2 EA EB EC ED HK HP HN HG
      go_wp2
      go_region
      clear h1 h3 hf1 hf3
      go_wp2
      go_roundw
      case rel =>
        obtain ⟨e1, e2, ea, eb, ec, ed, hpk, _, _, hG⟩ := ALL.out
        refine ⟨k + 1, by omega, by go_num, Growing.cast (hG.step _ _ _ _ _) ?_ ?_ ?_ ?_⟩
        · rw [gX1_succ a pts k hkl, ea, hpk, ← min_if, e1]
        · rw [gY1_succ b pts k hkl, eb, hpk, ← min_if]
        · rw [gX2_succ c pts k hkl, ec, hpk, ← max_if, e2]
        · rw [gY2_succ d pts k hkl, ed, hpk, ← max_if]
      case measure => simp [intOf]; omega
    · have HB := Lib.hid hG.below
      have h0 : wr.cell? ⟨w.heap.size, 0, none⟩ = some (.int .i64 (gX1 a (pts.take k))) := hG.cell 0
      have h1 : wr.cell? ⟨w.heap.size, 1, none⟩ = some (.int .i64 (gY1 b (pts.take k))) := hG.cell 1
      have h2 : wr.cell? ⟨w.heap.size, 2, none⟩ = some (.int .i64 (gX2 c (pts.take k))) := hG.cell 2
      have h3 : wr.cell? ⟨w.heap.size, 3, none⟩ = some (.int .i64 (gY2 d (pts.take k))) := hG.cell 3
      have r0 : wr.cell? ⟨w.heap.size + 1, 0, none⟩ = some (.int .i64 0) := hG.cell' 0
      have r1 : wr.cell? ⟨w.heap.size + 1, 1, none⟩ = some (.int .i64 0) := hG.cell' 1
      have r2 : wr.cell? ⟨w.heap.size + 1, 2, none⟩ = some (.int .i64 0) := hG.cell' 2
      have r3 : wr.cell? ⟨w.heap.size + 1, 3, none⟩ = some (.int .i64 0) := hG.cell' 3
      have hfr := hG.fr'
      have hz := hG.size
      clear hG
      have lz : w.heap.size < wr.heap.size := by omega
      have lz1 : w.heap.size + 1 < wr.heap.size := by omega
      have HT : Hid (pts.take k = pts) := Lib.hid (List.take_of_length_le (by rw [HN.out]; omega))
      go_wp2
      exact bodyPost_ret (v := box (gX1 a (pts.take k)) (gY1 b (pts.take k)) (gX2 c (pts.take k)) (gY2 d (pts.take k))) (by simp [results, Try.results63, go_sem, r0, r1, r2, r3]) rfl ⟨by rw [HT.out], (((HB.out.setCell (by simp) _).setCell (by simp) _).setCell (by simp) _).setCell (by simp) _⟩
end Go.Proofs.Ytklfmlbokedbdaa.join
