/-
  Proved: slices.Clone of a list of features that is not empty.
  Conditions: the lists are not empty and not longer than 72.
-/
import Derived.Test.YtghaddpicedenaaLast
import Derived.Laws.Cover3
namespace Go.Proofs.Ytghaddpicedenaa.cln
open Go.ChangeShapes Go.WideShapes Go.ChangeAt Go.RowKit Go.Joins
open Go.Proofs.Ytghaddpicedenaa.core Go.Proofs.Ytghaddpicedenaa.rown Go.Proofs.Ytghaddpicedenaa.stk Go.Proofs.Ytghaddpicedenaa.boxed Go.Proofs.Ytghaddpicedenaa.ft Go.Proofs.Ytghaddpicedenaa.seq Go.Proofs.Ytghaddpicedenaa.tab Go.Proofs.Ytghaddpicedenaa.put3 Go.Proofs.Ytghaddpicedenaa.dp
set_option linter.unusedVariables false
set_option linter.unusedSimpArgs false
theorem add_off (b o j : Nat) : (⟨b, o, none⟩ : Addr).add j = ⟨b, o + j, none⟩ := by unfold Addr.add; split <;> simp_all
theorem pts_news {w : World} {b o n : Nat} {pts : Nat → P3} (hp : PtsAt w (some ⟨b, o, none⟩) n pts) : ∀ j u, (rws (row3 pts) n)[j]? = some u → w.cell? ((⟨b, o, none⟩ : Addr).add j) = some u := by
  intro j u hu
  have hl : j < n * 3 := by
    have := (List.getElem?_eq_some_iff.1 hu).1
    rwa [rws_len (row3_len pts)] at this
  obtain ⟨i, r, hr, rfl⟩ : ∃ i r, r < 3 ∧ j = i * 3 + r := ⟨j / 3, j % 3, by omega, by omega⟩
  have hi : i < n := by omega
  rw [rws_get (row3_len pts) i r hr n hi] at hu
  obtain ⟨b', o', e, hb, c0, c1, c2⟩ := hp i hi
  injection e with e
  injection e with e1 e2
  subst e1 e2
  rw [add_off]
  rcases (by omega : r = 0 ∨ r = 1 ∨ r = 2) with rfl | rfl | rfl
  · rw [show o + (i * 3 + 0) = o + i * 3 by omega, c0, ← hu]; rfl
  · rw [show o + (i * 3 + 1) = o + i * 3 + 1 by omega, c1, ← hu]; rfl
  · rw [show o + (i * 3 + 2) = o + i * 3 + 2 by omega, c2, ← hu]; rfl
theorem some_not_nil (a : Addr) (n c : Nat) (w : World) : (binOp .eql 36 (.slice (some a) n c) (.slice none 0 0)).run Try.prog w = .ok (.bool false) w := by
  show ((do pure (.bool (← Op.equal 36 (.slice (some a) n c) (.slice none 0 0))) : Sem Value)).run Try.prog w = _
  simp [run_equal_slice_nil w 36 66 (some a) n c Try.underlying36]
set_option maxRecDepth 100000 in
set_option maxHeartbeats 2000000 in
theorem cloneI {c : Nat} (A : Option Addr) (n : Nat) (f : Nat → P3) (w : World) (h1 : 1 ≤ n) (h72 : n ≤ 72) (hp : PtsAt w A n f) :
    Calls Try.prog 38 #[.slice A n c] w fun e w' => ∃ g d, e = .returned (.slice (some ⟨g, 0, none⟩) n d) ∧ w'.ownsRow w.heap.size 66 3 (.slice (some ⟨g, 0, none⟩) n d) n (rws (row3 f) n) ∧ Below w.heap.size w w' := by
  obtain ⟨i0, hi0, hz0, hz1, hz2⟩ := rown.info_get infoFeat
  obtain ⟨g0, o0, rfl, hg0, -, -, -⟩ := hp 0 (by omega)
  have B0 := Lib.hid (below_alloc1 w (.cells #[] 66))
  have HP := Lib.hid (hp.kept B0.out)
  have HO := Lib.hid (empty_row w 66 3)
  have hnil := fun W => some_not_nil ⟨g0, o0, none⟩ n c W
  clear hp hg0
  go_enter Try.func38, Try.ntmps38
  go_wp2_with (first
    | (at_builtin
       have z1 : ∀ u ∈ rws (row3 f) n, u.oneCell' = true := rws_one f n
       have z2 : 0 + n ≤ maxLen := (by simp only [maxLen]; omega)
       have z3 : (0 + n) * 24 ≤ 140737488355328 := (by omega)
       have z4 : w.heap.size ≤ (w.alloc (.cells #[] 66)).heap.size := B0.out.size
       refine wpList_append_lies (w.alloc (.cells #[] 66)) rfl _ _ 36 rfl w.heap.size 66 i0 _ 3 24 Try.underlying36 hi0 hz0 hz1 hz2 rfl (by decide) (.slice (some ⟨w.heap.size, 0, none⟩) 0 0) 0 [] rfl HO.out ⟨g0, o0, none⟩ n c (rws (row3 f) n) rfl (rws_len (row3_len f) n) (pts_news HP.out) z1 (by omega) z2 z3 z4 _ rfl ?_
       intro g3 cap3 w4 hown hgr hat hlt3
       have HO4 := Lib.hid hown
       have HB4 := Lib.hid (B0.out.grown hgr B0.out.size (fun kk hkk => (by simp [Value.ownBlock] at hkk; omega)))
       clear hown hgr hat z1 z2 z3 z4)
)
  go_ret
  exact ⟨g3, cap3, by simp, by simpa using HO4.out, HB4.out⟩
end Go.Proofs.Ytghaddpicedenaa.cln
