/-
  Proved: what the program's function that copies a template returns.
  Conditions: those of the theorem.
-/
import Derived.Test.YtghaddpicedenaaOw
namespace Go.Proofs.Ytghaddpicedenaa.tmp
open Go.ChangeShapes Go.WideShapes Go.ChangeAt Go.RowKit Go.Joins
open Go.Proofs.Ytghaddpicedenaa.core Go.Proofs.Ytghaddpicedenaa.rown Go.Proofs.Ytghaddpicedenaa.stk Go.Proofs.Ytghaddpicedenaa.boxed Go.Proofs.Ytghaddpicedenaa.ft Go.Proofs.Ytghaddpicedenaa.seq Go.Proofs.Ytghaddpicedenaa.lab Go.Proofs.Ytghaddpicedenaa.sto Go.Proofs.Ytghaddpicedenaa.cln Go.Proofs.Ytghaddpicedenaa.tab Go.Proofs.Ytghaddpicedenaa.env Go.Proofs.Ytghaddpicedenaa.put3
set_option linter.unusedVariables false
set_option linter.unusedSimpArgs false
set_option maxRecDepth 100000 in
set_option maxHeartbeats 8000000 in
theorem copyT {c : Nat} (s : ByteArray) (A : Option Addr) (n : Nat) (f : Nat → P3) (w : World) (h1 : 1 ≤ n) (h72 : n ≤ 72) (hp : PtsAt w A n f) :
    Calls Try.prog 25 #[.agg #[.string s, .slice A n c]] w fun e w' => ∃ g d, e = .returned (.agg #[.string s, .slice (some ⟨g, 0, none⟩) n d]) ∧ w'.ownsRow w.heap.size 66 3 (.slice (some ⟨g, 0, none⟩) n d) n (rws (row3 f) n) ∧ Below w.heap.size w w' := by
  have B2 := Lib.hid (below_alloc2 w (.cells #[.string s, .slice A n c] 38) (.cells #[.string ⟨#[]⟩, .slice none 0 0] 38))
  obtain ⟨W0, hW0⟩ : ∃ W0, (w.alloc (.cells #[.string s, .slice A n c] 38)).alloc (.cells #[.string ⟨#[]⟩, .slice none 0 0] 38) = W0 := ⟨_, rfl⟩
  have e : (w.alloc (.cells #[.string s, .slice A n c] 38)).heap.size = w.heap.size + 1 := by simp
  have F0 := Lib.hid (show W0.heap[w.heap.size]? = some (.cells #[.string s, .slice A n c] 38 (0, 0)) by
    rw [← hW0, Below.heap_alloc _ _ _ (by simp)]; exact heap_alloc_new _ _)
  have F1 := Lib.hid (show W0.heap[w.heap.size + 1]? = some (.cells #[.string ⟨#[]⟩, .slice none 0 0] 38 (0, 0)) by
    rw [← hW0, ← e]; exact heap_alloc_new _ _)
  have HZ := Lib.hid (show W0.heap.size = w.heap.size + 2 by rw [← hW0]; simp)
  have HS := Lib.hid (fun V (hV : Below W0.heap.size W0 V) => (show V.cell? ⟨w.heap.size, 0, none⟩ = some (.string s) ∧ V.cell? ⟨w.heap.size, 1, none⟩ = some (.slice A n c) from
    ⟨by rw [cell_of_block ((hV.block _ (by rw [HZ.out]; omega)).trans F0.out)]; rfl, by rw [cell_of_block ((hV.block _ (by rw [HZ.out]; omega)).trans F0.out)]; rfl⟩))
  have B2' : Below w.heap.size w W0 := by rw [← hW0]; exact B2.out
  have HC := Lib.hid (cloneI (c := c) A n f W0.drew h1 h72 (hp.kept B2'.drew))
  have HB := Lib.hid B2'
  clear hp e B2 B2'
  go_enter Try.func25, Try.ntmps25
  go_wp2
  clear hW0
  have hkd := HS.out W0.drew (Below.refl _ _).drew
  have hk := HS.out W0 (Below.refl _ _)
  go_region_held3 (fun V => V.cell? ⟨w.heap.size, 0, none⟩ = some (.string s) ∧ V.cell? ⟨w.heap.size, 1, none⟩ = some (.slice A n c)) (first | assumption | exact hkd | exact hkr _ _ | go_keep)
    (first
      | (go_at_call 38; (with_reducible refine HC.out.mono ?_); rintro e w1 ⟨g, d, rfl, ho, hb1⟩; have HO := Lib.hid ho; have BC := Lib.hid ((Below.refl W0.heap.size W0).drew.trans hb1); have hkc := HS.out _ BC.out; have FC := (BC.out.block (w.heap.size + 1) (by rw [HZ.out]; omega)).trans F1.out; have c0 : w1.cell? ⟨w.heap.size + 1, 0, none⟩ = some (.string ⟨#[]⟩) := (by rw [cell_of_block FC]; rfl); have c1 : w1.cell? ⟨w.heap.size + 1, 1, none⟩ = some (.slice none 0 0) := (by rw [cell_of_block FC]; rfl); have c2 := unfrozen_of_block FC 0; have c3 := unfrozen_of_block FC 1; have hkr : ∀ u v, ((w1.setCell ⟨w.heap.size + 1, 0, none⟩ u).setCell ⟨w.heap.size + 1, 1, none⟩ v).cell? ⟨w.heap.size, 0, none⟩ = some (.string s) ∧ ((w1.setCell ⟨w.heap.size + 1, 0, none⟩ u).setCell ⟨w.heap.size + 1, 1, none⟩ v).cell? ⟨w.heap.size, 1, none⟩ = some (.slice A n c) := (fun u v => ⟨(World.cell?_of_block ((Below.heap_setCell _ _ _ _ (by simp)).trans (Below.heap_setCell _ _ _ _ (by simp)))).trans hkc.1, (World.cell?_of_block ((Below.heap_setCell _ _ _ _ (by simp)).trans (Below.heap_setCell _ _ _ _ (by simp)))).trans hkc.2⟩); clear ho hb1))
  all_goals
    have hsz := HZ.out
    have hs1 : W0.drew.heap.size = w.heap.size + 2 := HZ.out
    have HO1 := Lib.hid (ownsRow_setCell_below (ownsRow_setCell_below HO.out (a := ⟨w.heap.size + 1, 0, none⟩) (by rw [hs1]; simp) (.string s)) (a := ⟨w.heap.size + 1, 1, none⟩) (by rw [hs1]; simp) (.slice (some ⟨g, 0, none⟩) n d))
    have HB1 := Lib.hid (((HB.out.trans (BC.out.mono HB.out.size)).setCell (p := ⟨w.heap.size + 1, 0, none⟩) (show w.heap.size ≤ w.heap.size + 1 by omega) (.string s)).setCell (p := ⟨w.heap.size + 1, 1, none⟩) (show w.heap.size ≤ w.heap.size + 1 by omega) (.slice (some ⟨g, 0, none⟩) n d))
    have HL := Lib.hid (show w.heap.size ≤ W0.drew.heap.size by rw [hs1]; omega)
    clear hs1 hsz hkd hk
    go_wp2
    refine bodyPost_ret (v := .agg #[.string s, .slice (some ⟨g, 0, none⟩) n d]) (by simp [results, Try.results25, go_sem, c0, c1]) rfl ⟨g, d, rfl, row_low HO1.out HL.out, HB1.out⟩
end Go.Proofs.Ytghaddpicedenaa.tmp
