/-
  Proved: the document's function that copies ink leaves it in blocks of its own (a contract of a callee of the laws on functions that return ink).
  Conditions: each stroke has points, which lie in a row of their own.
-/
import Derived.Test.YtklfmlbokedbdaaBuild
namespace Go.Proofs.Ytklfmlbokedbdaa.owned
open Go.ChangeShapes Go.WideShapes Go.ChangeAt Go.RowKit Go.Joins
open Go.Proofs.Ytklfmlbokedbdaa.join Go.Proofs.Ytklfmlbokedbdaa.strokes Go.Proofs.Ytklfmlbokedbdaa.valid Go.Proofs.Ytklfmlbokedbdaa.inks
set_option linter.unusedVariables false

/-- What a round of l02Own's loop finds: the result's cell, the ink so far, its k strokes. -/
structure Owning (w : World) (A : Option Addr) (c k : Nat) (F : Nat → List P3) (gs cs : Nat → Nat) (W : World) : Prop where
  below : Below w.heap.size w W
  res : W.heap[w.heap.size]? = some (.cells #[.slice none 0 0] 40 (0, 0))
  out : W.heap[w.heap.size + 1]? = some (.cells #[.slice A k c] 40 (0, 0))
  bld : Building (w.heap.size + 1 + 1) W (.slice A k c) k F gs cs
section
variable {w : World} {A : Option Addr} {c k : Nat} {F : Nat → List P3} {gs cs : Nat → Nat} {W W1 W' : World}
theorem Owning.drew (h : Owning w A c k F gs cs W) : Owning w A c k F gs cs W.drew := ⟨h.below.drew, h.res, h.out, ⟨h.bld.bz, h.bld.own, h.bld.inj, h.bld.pts⟩⟩
theorem Owning.cell (h : Owning w A c k F gs cs W) : W.cell? ⟨w.heap.size + 1, 0, none⟩ = some (.slice A k c) := by rw [cell_of_block h.out]; rfl
theorem Owning.start : Owning w none 0 0 F gs cs ((w.alloc (.cells #[.slice none 0 0] 40)).alloc (.cells #[.slice none 0 0] 40)) := by
  refine ⟨below_alloc2 _ _ _, ?_, ?_, Building.none_ (by simp)⟩
  · rw [Below.heap_alloc _ _ _ (by simp)]
    exact heap_alloc_new w _
  · have h := heap_alloc_new (w.alloc (.cells #[.slice none 0 0] 40)) (.cells #[.slice none 0 0] 40)
    have e : (w.alloc (.cells #[.slice none 0 0] 40)).heap.size = w.heap.size + 1 := by simp
    rw [e] at h
    exact h
theorem Owning.more {g g' c' cap : Nat} {o : Obj} (h : Owning w A c k F gs cs W) (hb : Below W.heap.size W W1) (hg : W.heap.size ≤ g) (hp : OwnPts W1 g (F k))
    (hown : W'.ownsRow (w.heap.size + 1 + 1) 29 1 (.slice (some ⟨g', 0, none⟩) (k + 1) cap) (k + 1) (rowL gs cs F k ++ [.slice (some ⟨g, 0, none⟩) (F k).length c'])) (hgr : (W1.alloc o).grownBy W' (Value.slice A k c).ownBlock) :
    Owning w (some ⟨g', 0, none⟩) cap (k + 1) F (fun i => if i = k then g else gs i) (fun i => if i = k then c' else cs i) (W'.setCell ⟨w.heap.size + 1, 0, none⟩ (.slice (some ⟨g', 0, none⟩) (k + 1) cap)) ∧ W'.cell? ⟨w.heap.size + 1, 0, none⟩ = some (.slice A k c) ∧ (∀ i, W'.frozen? ⟨w.heap.size + 1, i, none⟩ = false) ∧ w.heap.size + 1 < W'.heap.size := by
  have hm := h.bld.more hb hg hp hown hgr
  have hu := h.bld.under hb hgr
  have bz := h.bld.bz
  have bz' := hm.bz
  have ho : W'.heap[w.heap.size + 1]? = some (.cells #[.slice A k c] 40 (0, 0)) := (hu.block _ (by omega)).trans h.out
  have hr : W'.heap[w.heap.size]? = some (.cells #[.slice none 0 0] 40 (0, 0)) := (hu.block _ (by omega)).trans h.res
  have hB : Below w.heap.size w W' := h.below.trans (hu.mono (by omega))
  refine ⟨⟨hB.setCell (show w.heap.size ≤ w.heap.size + 1 by omega) _, ?_, ?_, ?_⟩, by rw [cell_of_block ho]; rfl, unfrozen_of_block ho, by omega⟩
  · rw [Below.heap_setCell _ _ _ _ (by simp)]; exact hr
  · rw [block_setCell ho]; rfl
  · refine ⟨by simpa [World.setCell] using hm.bz, ownsRow_same hm.own fun j hj => ?_, hm.inj, fun i hi => ⟨(hm.pts i hi).1, (hm.pts i hi).2.same ?_⟩⟩
    · have := (ownsRow_block hm.own hj).1
      exact Below.heap_setCell _ _ _ _ (by simp; omega)
    · have := (hm.pts i hi).1
      exact Below.heap_setCell _ _ _ _ (by simp only; omega)
end

set_option maxRecDepth 100000 in
set_option maxHeartbeats 4000000 in
theorem l02Own_calls {o C : Nat} (b n : Nat) (B : Option Addr) (F : Nat → List P3) (w : World) (hcap : n ≤ 1048576) (hbz : b < w.heap.size) (hs : w.cell? ⟨b, o, none⟩ = some (.slice B n C)) (hp : SrcRows w B n F) :
    Calls Try.prog 67 #[.pointer (some ⟨b, o, none⟩)] w fun e w' => ∃ A' c' gs cs, e = .returned (.agg #[.slice A' n c']) ∧ Building w.heap.size w' (.slice A' n c') n F gs cs ∧ Below w.heap.size w w' := by
  have HP := Lib.hid hp
  have HS := Lib.hid hs
  clear hp hs
  obtain ⟨i0, hi0, hz0, hz1, hz2⟩ := info_parts infoS
  go_enter Try.func67, Try.ntmps67
  go_wp2
  go_loopw [4] (fun i w' => ∃ (k : Nat) (A : Option Addr) (c : Nat) (gs cs : Nat → Nat), k ≤ n ∧ i = .int .i64 (k : Int) ∧ Hid (Owning w A c k F gs cs w')) (fun i _ => n - (intOf i).toNat)
  case atStart => exact ⟨0, none, 0, fun _ => 0, fun _ => 0, Nat.zero_le _, rfl, Lib.hid Owning.start⟩
  case round =>
    obtain ⟨k, A, c, gs, cs, hk, rfl, HG⟩ := hrel
    have hs := (HG.out.below.cell hbz).trans HS.out
    have hbz' : b < wr.heap.size := Nat.lt_of_lt_of_le hbz HG.out.below.size
    have ht := HG.out.cell
    have hz : w.heap.size + 1 < wr.heap.size := by have := HG.out.bld.bz; omega
    by_cases hlt : k < n
    · obtain ⟨G, o', g, d, rfl, hG, p0, hgz, hpt, hl1, hl2⟩ := HP.out k hlt
      have HR := Lib.hid ((HG.out.below.cell (p := ⟨G, o' + k, none⟩) hG).trans p0)
      have HPT := Lib.hid (hpt.below HG.out.below hgz)
      have hG' : G < wr.heap.size := Nat.lt_of_lt_of_le hG HG.out.below.size
      have hgz' : g < wr.heap.size := Nat.lt_of_lt_of_le hgz HG.out.below.size
      have hli : (k : Int) < (n : Int) := by omega
      clear p0 hpt
      go_wp2
      go_region_law (first
        | (refine step_append_lies _ rfl (.tmp 16) (.tmp 24) _ rfl (w.heap.size + 1 + 1) 29 i0 _ 1 24 Try.underlying38 hi0 hz0 hz1 hz2 rfl (by omega) (.slice A k c) k _ (by simp [Act.eval]) (HD2.out.kept (below_alloc1 _ _)).own ⟨w2.heap.size, 0, none⟩ 1 1 [.slice (some ⟨g2, 0, none⟩) (F k).length c2] (by simp [Act.eval]) (by simp) one_new (by simp [Value.oneCell']) (by omega) (by simp only [maxLen]; omega) (by omega) (Nat.le_trans HD2.out.bz (by simp)) _ rfl ?_; intro g3 cap3 w3 hown hgr hat hlt3; obtain ⟨hO, kc, kf, kz⟩ := HG.out.drew.more HB2.out hg2 HO2.out hown hgr; have HO := Lib.hid hO; clear hO hown hgr hat)
        | (go_simp; go_at_call 68; refine (l02OwnStroke_calls (c := d) (o := o' + k) G g (F k).length (F k) _ rfl hl1 hl2 (by exact hgz') (by exact hG') (by exact HR.out) (by exact HPT.out)).mono ?_; rintro e w2 ⟨g2, c2, rfl, hg2, ho2, hb2⟩; have HB2 := Lib.hid hb2; have HO2 := Lib.hid ho2; have HD2 := Lib.hid (HG.out.drew.bld.kept hb2); have ht2 := (hb2.cell (p := ⟨w.heap.size + 1, 0, none⟩) (by exact hz)).trans (show wr.drew.cell? _ = _ from ht); have hz2' := Nat.lt_of_lt_of_le (show w.heap.size + 1 < wr.drew.heap.size from hz) hb2.size; clear hb2 ho2))
      all_goals
        go_wp2
        go_roundw
        case rel => exact ⟨k + 1, _, _, _, _, by omega, by go_num, HO⟩
        case measure => simp [intOf]; omega
    · obtain rfl : k = n := by omega
      have r0 : wr.cell? ⟨w.heap.size, 0, none⟩ = some (.slice none 0 0) := by rw [cell_of_block HG.out.res]; rfl
      have rf := unfrozen_of_block HG.out.res
      have hz0' : w.heap.size < wr.heap.size := by omega
      go_wp2
      refine bodyPost_ret (v := .agg #[.slice A k c]) (by simp [results, Try.results67, go_sem, r0]) rfl ⟨A, c, gs, cs, rfl, ?_, HG.out.below.setCell (by simp) _⟩
      have hb := HG.out.bld
      refine ⟨by have := hb.bz; simp [World.setCell]; omega, ?_, hb.inj, fun i hi => ⟨by have := (hb.pts i hi).1; omega, (hb.pts i hi).2.same (Below.heap_setCell _ _ _ _ (by have := (hb.pts i hi).1; simp only; omega))⟩⟩
      have ho := ownsRow_same (w' := wr.setCell ⟨w.heap.size, 0, none⟩ (.slice A k c)) hb.own fun j hj => Below.heap_setCell _ _ _ _ (by have := (ownsRow_block hb.own hj).1; simp only; omega)
      obtain ⟨hl, ho⟩ := ho
      refine ⟨hl, ?_⟩
      rcases ho with ho | ⟨j, cap, cur, hv, h1, h2⟩
      · exact .inl ho
      · exact .inr ⟨j, cap, cur, hv, by omega, h2⟩
end Go.Proofs.Ytklfmlbokedbdaa.owned
