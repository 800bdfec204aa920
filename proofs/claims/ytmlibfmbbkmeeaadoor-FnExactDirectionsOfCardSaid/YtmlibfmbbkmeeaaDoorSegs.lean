/-
  Proved: what the functions that make and walk a stroke's list of segments return.
  Conditions: the points are in their range, and no more than 60.
-/
import Derived.Test.YtmlibfmbbkmeeaaDoorLenS
namespace Go.Proofs.YtmlibfmbbkmeeaaDoor.segs
open Go.ChangeShapes Go.WideShapes Go.ChangeAt Go.RowKit Go.Joins
open Go.Proofs.YtmlibfmbbkmeeaaDoor.core Go.Proofs.YtmlibfmbbkmeeaaDoor.geoM Go.Proofs.YtmlibfmbbkmeeaaDoor.stk Go.Proofs.YtmlibfmbbkmeeaaDoor.seg Go.Proofs.YtmlibfmbbkmeeaaDoor.side Go.Proofs.YtmlibfmbbkmeeaaDoor.all Go.Proofs.YtmlibfmbbkmeeaaDoor.lenS
set_option linter.unusedVariables false
set_option linter.unusedSimpArgs false

theorem infoSeg : (Tryd.prog.info? 58).map (fun i => (i.zero, i.size, i.bytes)) = some (some (.agg #[.int .i64 0, .int .i64 0, .int .i64 0, .int .i64 0, .int .i64 0, .int .i64 0]), 6, 48) := by kernel_rfl
theorem info_get {t : TypeId} {z : Value} {s b : Nat} (h : (Tryd.prog.info? t).map (fun i => (i.zero, i.size, i.bytes)) = some (some z, s, b)) : ∃ i, Tryd.prog.info? t = some i ∧ i.zero = some z ∧ i.size = s ∧ i.bytes = b := by
  cases hi : Tryd.prog.info? t with
  | none => rw [hi] at h; cases h
  | some i =>
    rw [hi] at h
    simp only [Option.map_some, Option.some.injEq, Prod.mk.injEq] at h
    exact ⟨i, rfl, h.1, h.2.1, h.2.2⟩
theorem add_at (g j : Nat) : (⟨g, 0, none⟩ : Addr).add j = ⟨g, j, none⟩ := by unfold Addr.add; split <;> simp_all
theorem ownsRow_block {w : World} {base : Nat} {e : TypeId} {size : Nat} {v : Value} {n : Nat} {xs : List Value} (h : w.ownsRow base e size v n xs) {g : Nat} (hg : v.ownBlock = some g) : base ≤ g ∧ ∃ cur, w.heap[g]? = some (.cells cur e (0, 0)) := by
  obtain ⟨hl, h⟩ := h
  rcases h with ⟨rfl, _⟩ | ⟨g', cap, cur, rfl, h1, h2, h3⟩
  · cases hg
  · injection hg with hg
    subst hg
    exact ⟨h1, cur, h2⟩
theorem ownsRow_same {w w' : World} {base : Nat} {e : TypeId} {size : Nat} {v : Value} {n : Nat} {xs : List Value} (h : w.ownsRow base e size v n xs) (hb : ∀ g, v.ownBlock = some g → w'.heap[g]? = w.heap[g]?) : w'.ownsRow base e size v n xs := by
  obtain ⟨hl, h⟩ := h
  refine ⟨hl, ?_⟩
  rcases h with h | ⟨g, cap, cur, rfl, h1, h2, h3⟩
  · exact .inl h
  · exact .inr ⟨g, cap, cur, rfl, h1, (hb g rfl).trans h2, h3⟩
theorem ownsRow_kept {w w' : World} {base : Nat} {e : TypeId} {size : Nat} {v : Value} {n : Nat} {xs : List Value} (h : w.ownsRow base e size v n xs) (hb : Below w.heap.size w w') : w'.ownsRow base e size v n xs :=
  ownsRow_same h fun g hg => by
    obtain ⟨_, cur, hc⟩ := ownsRow_block h hg
    exact hb.block _ (Array.getElem?_eq_some_iff.1 hc).1
theorem under {W W' : World} {base n size : Nat} {o : Obj} {v : Value} {xs : List Value} {E : TypeId} (hown : W.ownsRow base E size v n xs) (hbz : base ≤ W.heap.size) (hgr : (W.alloc o).grownBy W' v.ownBlock) : Below base W W' := by
  have hz := hgr.size
  simp at hz
  refine ⟨hgr.os, hgr.tape, hgr.output, by omega, fun j hj => ?_⟩
  rw [hgr.block j (by simp; omega) ?_, Below.heap_alloc _ _ _ (by omega)]
  intro e
  have := (ownsRow_block hown e.symm).1
  omega

def seg6 (a b : P3) : List Value := [.int .i64 a.1, .int .i64 a.2.1, .int .i64 a.2.2, .int .i64 b.1, .int .i64 b.2.1, .int .i64 b.2.2]
def cellsS (pts : Nat → P3) : Nat → List Value
  | 0 => []
  | k + 1 => cellsS pts k ++ seg6 (pts k) (pts (k + 1))
theorem cellsS_len (pts : Nat → P3) : ∀ k, (cellsS pts k).length = k * 6
  | 0 => rfl
  | k + 1 => by
    have e : (seg6 (pts k) (pts (k + 1))).length = 6 := rfl
    rw [cellsS, List.length_append, cellsS_len pts k, e]
    omega
theorem cellsS_get (pts : Nat → P3) (i q : Nat) (hq : q < 6) : ∀ m, i < m → (cellsS pts m)[i * 6 + q]? = (seg6 (pts i) (pts (i + 1)))[q]? := by
  intro m
  induction m with
  | zero => intro h; omega
  | succ m ih =>
    intro h
    rw [cellsS]
    rcases Nat.lt_or_ge i m with g | g
    · rw [List.getElem?_append_left (by rw [cellsS_len]; omega)]
      exact ih g
    · obtain rfl : i = m := by omega
      rw [List.getElem?_append_right (by rw [cellsS_len]; omega), cellsS_len]
      congr 1
      omega
theorem six_new {w : World} {a b : P3} {E : TypeId} : ∀ j u, (seg6 a b)[j]? = some u → (w.alloc (.cells #[.int .i64 a.1, .int .i64 a.2.1, .int .i64 a.2.2, .int .i64 b.1, .int .i64 b.2.1, .int .i64 b.2.2] E)).cell? ((⟨w.heap.size, 0, none⟩ : Addr).add j) = some u := by
  intro j u hu
  rw [add_at, cell_of_block (heap_alloc_new w _)]
  unfold seg6 at hu
  rw [← hu]
  simp
theorem seg6_one (a b : P3) : ∀ u ∈ seg6 a b, u.oneCell' = true := by
  intro u hu
  unfold seg6 at hu
  simp at hu
  rcases hu with rfl | rfl | rfl | rfl | rfl | rfl <;> rfl
/-- The list's cells hold the segments. -/
def SegsAt (w : World) (A : Option Addr) (m : Nat) (pts : Nat → P3) : Prop :=
  ∀ i, i < m → ∃ b : Nat, A = some ⟨b, 0, none⟩ ∧ b < w.heap.size ∧ w.cell? ⟨b, i * 6, none⟩ = some (.int .i64 (pts i).1) ∧ w.cell? ⟨b, i * 6 + 1, none⟩ = some (.int .i64 (pts i).2.1) ∧ w.cell? ⟨b, i * 6 + 2, none⟩ = some (.int .i64 (pts i).2.2) ∧ w.cell? ⟨b, i * 6 + 3, none⟩ = some (.int .i64 (pts (i + 1)).1) ∧ w.cell? ⟨b, i * 6 + 4, none⟩ = some (.int .i64 (pts (i + 1)).2.1) ∧ w.cell? ⟨b, i * 6 + 5, none⟩ = some (.int .i64 (pts (i + 1)).2.2)
theorem SegsAt.kept {w w' : World} {A : Option Addr} {m : Nat} {pts : Nat → P3} (h : SegsAt w A m pts) (hb : Below w.heap.size w w') : SegsAt w' A m pts := fun i hi => by
  obtain ⟨b, e, h1, c0, c1, c2, c3, c4, c5⟩ := h i hi
  exact ⟨b, e, Nat.lt_of_lt_of_le h1 hb.size, (hb.cell (p := ⟨b, _, none⟩) h1).trans c0, (hb.cell (p := ⟨b, _, none⟩) h1).trans c1, (hb.cell (p := ⟨b, _, none⟩) h1).trans c2, (hb.cell (p := ⟨b, _, none⟩) h1).trans c3, (hb.cell (p := ⟨b, _, none⟩) h1).trans c4, (hb.cell (p := ⟨b, _, none⟩) h1).trans c5⟩
theorem segs_of_row {w : World} {base m c : Nat} {A : Option Addr} {pts : Nat → P3} (h : w.ownsRow base 58 6 (.slice A m c) m (cellsS pts m)) : SegsAt w A m pts := fun i hi => by
  obtain ⟨_, h'⟩ := id h
  rcases h' with ⟨_, hm⟩ | ⟨g, cap, cur, hv, _⟩
  · omega
  · injection hv with hv
    subst hv
    obtain ⟨_, cur', hb⟩ := ownsRow_block h (g := g) rfl
    have key : ∀ q (v : Value), q < 6 → (seg6 (pts i) (pts (i + 1)))[q]? = some v → w.cell? ⟨g, i * 6 + q, none⟩ = some v := fun q v hq hv => by
      have := h.cells (g := g) rfl (i * 6 + q) v (by rw [cellsS_get pts i q hq m hi]; exact hv)
      rwa [add_at] at this
    exact ⟨g, rfl, (Array.getElem?_eq_some_iff.1 hb).1, key 0 _ (by omega) rfl, key 1 _ (by omega) rfl, key 2 _ (by omega) rfl, key 3 _ (by omega) rfl, key 4 _ (by omega) rfl, key 5 _ (by omega) rfl⟩

set_option maxRecDepth 100000 in
set_option maxHeartbeats 4000000 in
theorem segs_calls {c : Nat} (A : Option Addr) (n : Nat) (pts : Nat → P3) (w : World) (h1 : 1 ≤ n) (h60 : n ≤ 60) (hp : PtsAt w A n pts) :
    Calls Tryd.prog 26 #[.agg #[.slice A n c]] w fun e w' => ∃ B d, e = .returned (.slice B (n - 1) d) ∧ SegsAt w' B (n - 1) pts ∧ Below w.heap.size w w' := by
  obtain ⟨i0, hi0, hz0, hz1, hz2⟩ := info_get infoSeg
  have hz3 : (Value.agg #[.int .i64 0, .int .i64 0, .int .i64 0, .int .i64 0, .int .i64 0, .int .i64 0]).cells.size = 6 := rfl
  have B0 := Lib.hid (below_alloc1 w (.cells #[.slice A n c] 31))
  have HP := Lib.hid (hp.kept B0.out)
  have C0 := Lib.hid (show (w.alloc (.cells #[.slice A n c] 31)).cell? ⟨w.heap.size, 0, none⟩ = some (.slice A n c) by simp)
  have Z0 := Lib.hid (show (w.alloc (.cells #[.slice A n c] 31)).heap.size = w.heap.size + 1 by simp)
  clear hp
  go_enter Tryd.func26, Tryd.ntmps26
  go_wp2
  generalize w.alloc (.cells #[.slice A n c] 31) = w1 at *
  go_loopw [3, 4] (fun s i w' => ∃ (k d : Nat) (B : Option Addr), k + 1 ≤ n ∧ i = .int .i64 ((k + 1 : Nat) : Int) ∧ s = .slice B k d ∧ Hid (w'.ownsRow (w.heap.size + 1) 58 6 (.slice B k d) k (cellsS pts k)) ∧ Hid (Below (w.heap.size + 1) w1 w')) (fun _ i _ => n - (intOf i).toNat)
  case atStart => exact ⟨0, 0, none, h1, rfl, rfl, Lib.hid ⟨rfl, .inl ⟨rfl, rfl⟩⟩, Lib.hid (Z0.out ▸ Below.refl _ _)⟩
  case round =>
    obtain ⟨k, d, B, hk, rfl, rfl, HO, HB⟩ := hrel
    have hzr : w.heap.size + 1 ≤ wr.heap.size := by have := HB.out.size; have := Z0.out; omega
    have hs := (HB.out.cell (p := ⟨w.heap.size, 0, none⟩) (show w.heap.size < w.heap.size + 1 by omega)).trans C0.out
    by_cases hlt : k + 1 < n
    · have HPK := Lib.hid (HP.out.kept (Z0.out ▸ HB.out))
      obtain ⟨g, o', rfl, hg, p0, p1, p2⟩ := HPK.out k (by omega)
      obtain ⟨g2, o2, e2, -, q0, q1, q2⟩ := HPK.out (k + 1) hlt
      injection e2 with e2
      injection e2 with e2 e3
      subst e2 e3
      have HOD := Lib.hid (show wr.drew.ownsRow (w.heap.size + 1) 58 6 (.slice B k d) k (cellsS pts k) from ownsRow_kept HO.out (Below.refl _ _).drew)
      have HCS := Lib.hid (show cellsS pts (k + 1) = cellsS pts k ++ seg6 (pts k) (pts (k + 1)) from rfl)
      obtain ⟨p, hpk⟩ : ∃ p, pts k = p := ⟨_, rfl⟩
      obtain ⟨q, hqk⟩ : ∃ q, pts (k + 1) = q := ⟨_, rfl⟩
      rw [hpk] at p0 p1 p2 HCS
      rw [hqk] at q0 q1 q2 HCS
      clear hpk hqk HPK
      have hli : ((k + 1 : Nat) : Int) < (n : Int) := by omega
      have hw1 : IntKind.i64.wrap (k : Int) = (k : Int) := IntWalk.i64_in _ (by omega)
      have hkn : k < n := by omega
      have hk0 : (0 : Int) ≤ (k : Int) + 1 := by omega
      go_wp2
      go_region_law (refine step_append_lies _ rfl (.tmp 12) (.tmp 25) _ rfl (w.heap.size + 1) 58 i0 _ 6 48 Tryd.underlying55 hi0 hz0 hz1 hz2 hz3 (by omega) (.slice B k d) k _ (by simp [Act.eval]) (ownsRow_kept HOD.out (below_alloc1 _ _)) ⟨wr.heap.size, 0, none⟩ 1 1 (seg6 p q) (by simp [Act.eval]) (by rfl) six_new (seg6_one p q) (by omega) (by simp only [maxLen]; omega) (by omega) (Nat.le_trans hzr (by simp)) _ rfl ?_; intro g3 cap3 w3 hown hgr hat hlt3; have HO3 := Lib.hid hown; have HB3 := Lib.hid (HB.out.trans ((Below.refl _ _).drew.trans (under HOD.out hzr hgr))); clear hown hgr hat)
      all_goals
        clear p0 p1 p2 q0 q1 q2 hs hw1
        go_wp2
        go_roundw
        case rel => exact ⟨k + 1, cap3, some ⟨g3, 0, none⟩, by omega, by go_num, rfl, Lib.hid (by rw [HCS.out]; exact HO3.out), HB3⟩
        case measure => simp [intOf]; omega
    · obtain rfl : n = k + 1 := by omega
      go_wp2
      go_ret
      exact ⟨B, d, rfl, segs_of_row HO.out, B0.out.trans (HB.out.mono (by omega))⟩
end Go.Proofs.YtmlibfmbbkmeeaaDoor.segs
