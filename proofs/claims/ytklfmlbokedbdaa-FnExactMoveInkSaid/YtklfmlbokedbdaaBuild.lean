/-
  Proved: both functions that copy all strokes leave them in blocks of their own (contracts of callees of the laws on functions that return ink).
  Conditions: each stroke has points, which lie in a row of their own.
-/
import Derived.Test.YtklfmlbokedbdaaClone
import Derived.Deep.RegionLaw
namespace Go.Proofs.Ytklfmlbokedbdaa.owned
open Go.ChangeShapes Go.WideShapes Go.ChangeAt Go.RowKit Go.Joins
open Go.Proofs.Ytklfmlbokedbdaa.join Go.Proofs.Ytklfmlbokedbdaa.strokes Go.Proofs.Ytklfmlbokedbdaa.valid Go.Proofs.Ytklfmlbokedbdaa.inks
open Go.Proofs.Ytklfmlbokedbdaa.fnExactValidStroke (add_none)
set_option linter.unusedVariables false

/-- n strokes that can be read at A. -/
def SrcRows (w : World) (A : Option Addr) (n : Nat) (F : Nat → List P3) : Prop :=
  ∀ i, i < n → ∃ G o g c, A = some ⟨G, o, none⟩ ∧ G < w.heap.size ∧ w.cell? ⟨G, o + i, none⟩ = some (.slice (some ⟨g, 0, none⟩) (F i).length c) ∧ g < w.heap.size ∧ Pts w g (F i) ∧ 1 ≤ (F i).length ∧ (F i).length ≤ 1048576
theorem SrcRows.below {w w' : World} {A : Option Addr} {n : Nat} {F : Nat → List P3} (h : SrcRows w A n F) (hb : Below w.heap.size w w') : SrcRows w' A n F := fun i hi => by
  obtain ⟨G, o, g, c, hA, hG, hc, hg, hp, h1, h2⟩ := h i hi
  exact ⟨G, o, g, c, hA, Nat.lt_of_lt_of_le hG hb.size, (hb.cell (p := ⟨G, o + i, none⟩) hG).trans hc, Nat.lt_of_lt_of_le hg hb.size, hp.below hb hg, h1, h2⟩

def rowL (gs cs : Nat → Nat) (F : Nat → List P3) (k : Nat) : List Value := (List.range k).map fun i => Value.slice (some ⟨gs i, 0, none⟩) (F i).length (cs i)
theorem rowL_succ (gs cs : Nat → Nat) (F : Nat → List P3) (k : Nat) : rowL gs cs F (k + 1) = rowL gs cs F k ++ [.slice (some ⟨gs k, 0, none⟩) (F k).length (cs k)] := by
  simp [rowL, List.range_succ]
theorem rowL_congr {gs cs gs' cs' : Nat → Nat} {F : Nat → List P3} {k : Nat} (h : ∀ i, i < k → gs i = gs' i ∧ cs i = cs' i) : rowL gs cs F k = rowL gs' cs' F k := by
  unfold rowL
  apply List.map_congr_left
  intro i hi
  have := h i (by simpa using hi)
  rw [this.1, this.2]
theorem rowL_at {gs cs : Nat → Nat} {F : Nat → List P3} {k i : Nat} (h : i < k) : (rowL gs cs F k)[i]? = some (.slice (some ⟨gs i, 0, none⟩) (F i).length (cs i)) := by
  simp [rowL, h]

/-- k strokes of the row v, each with points in a block of its own; nothing of it lies below base. -/
structure Building (base : Nat) (W : World) (v : Value) (k : Nat) (F : Nat → List P3) (gs cs : Nat → Nat) : Prop where
  bz : base ≤ W.heap.size
  own : W.ownsRow base 29 1 v k (rowL gs cs F k)
  inj : ∀ i j, i < k → j < k → gs i = gs j → i = j
  pts : ∀ i, i < k → base ≤ gs i ∧ OwnPts W (gs i) (F i)
theorem ownsRow_same {w w' : World} {base : Nat} {e : TypeId} {size : Nat} {v : Value} {n : Nat} {xs : List Value} (h : w.ownsRow base e size v n xs) (hb : ∀ g, v.ownBlock = some g → w'.heap[g]? = w.heap[g]?) : w'.ownsRow base e size v n xs := by
  obtain ⟨hl, h⟩ := h
  refine ⟨hl, ?_⟩
  rcases h with h | ⟨g, cap, cur, hv, h1, h2, h3⟩
  · exact .inl h
  · exact .inr ⟨g, cap, cur, hv, h1, (hb g (by rw [hv]; rfl)).trans h2, h3⟩
theorem ownsRow_block {w : World} {base : Nat} {e : TypeId} {size : Nat} {v : Value} {n : Nat} {xs : List Value} (h : w.ownsRow base e size v n xs) {g : Nat} (hg : v.ownBlock = some g) : base ≤ g ∧ ∃ cur, w.heap[g]? = some (.cells cur e (0, 0)) := by
  obtain ⟨hl, h⟩ := h
  rcases h with ⟨rfl, _⟩ | ⟨g', cap, cur, rfl, h1, h2, h3⟩
  · cases hg
  · injection hg with hg
    subst hg
    exact ⟨h1, cur, h2⟩
theorem lt_of_cells {w : World} {g : Nat} {o : Obj} (h : w.heap[g]? = some o) : g < w.heap.size := (Array.getElem?_eq_some_iff.1 h).1
section
variable {base : Nat} {W W1 W' : World} {v v' : Value} {k : Nat} {F : Nat → List P3} {gs cs : Nat → Nat}
theorem Building.kept (h : Building base W v k F gs cs) (hb : Below W.heap.size W W') : Building base W' v k F gs cs := by
  refine ⟨Nat.le_trans h.bz hb.size, ownsRow_same h.own fun g hg => ?_, h.inj, fun i hk => ⟨(h.pts i hk).1, (h.pts i hk).2.same (hb.block _ (h.pts i hk).2.lt)⟩⟩
  obtain ⟨_, cur, hc⟩ := ownsRow_block h.own hg
  exact hb.block _ (lt_of_cells hc)
/-- One more stroke, whose points lie in a block that was laid after all the others. -/
theorem Building.more {g c : Nat} {o : Obj} (h : Building base W v k F gs cs) (hb : Below W.heap.size W W1) (hg : W.heap.size ≤ g) (hp : OwnPts W1 g (F k))
    (hown : W'.ownsRow base 29 1 v' (k + 1) (rowL gs cs F k ++ [.slice (some ⟨g, 0, none⟩) (F k).length c])) (hgr : (W1.alloc o).grownBy W' v.ownBlock) :
    Building base W' v' (k + 1) F (fun i => if i = k then g else gs i) (fun i => if i = k then c else cs i) := by
  have hz := hgr.size
  have hz1 := hb.size
  simp at hz
  have keep : ∀ j, j < W1.heap.size → (∃ cur, W1.heap[j]? = some (.cells cur 71 (0, 0))) → W'.heap[j]? = W1.heap[j]? := by
    intro j hj ⟨cur, hc⟩
    rw [hgr.block j (by simp; omega) ?_, Below.heap_alloc _ _ _ hj]
    intro e
    obtain ⟨_, cur', hc'⟩ := ownsRow_block h.own e.symm
    rw [hb.block _ (lt_of_cells hc'), hc'] at hc
    cases hc
  refine ⟨by have := h.bz; omega, ?_, ?_, ?_⟩
  · rw [rowL_succ]
    simp only [if_true]
    rw [rowL_congr (gs' := gs) (cs' := cs) fun i hik => by simp [show i ≠ k by omega]]
    exact hown
  · intro i j hi1 hj1 e
    by_cases ei : i = k <;> by_cases ej : j = k
    · omega
    · simp only [ei, ej, if_true, if_false] at e
      have := (h.pts j (by omega)).2.lt
      omega
    · simp only [ei, ej, if_true, if_false] at e
      have := (h.pts i (by omega)).2.lt
      omega
    · simp only [ei, ej, if_false] at e
      exact h.inj i j (by omega) (by omega) e
  · intro i hi1
    by_cases e : i = k
    · subst e
      simp only [if_true]
      exact ⟨Nat.le_trans h.bz hg, hp.same (keep g hp.lt hp.2)⟩
    · simp only [if_neg e]
      have hpi := h.pts i (by omega)
      have h1 := hpi.2.same (hb.block _ hpi.2.lt)
      exact ⟨hpi.1, h1.same (keep _ h1.lt h1.2)⟩
/-- What lies below base is as it was. -/
theorem Building.under {o : Obj} (h : Building base W v k F gs cs) (hb : Below W.heap.size W W1) (hgr : (W1.alloc o).grownBy W' v.ownBlock) : Below base W W' := by
  have hz := hgr.size
  have hz1 := hb.size
  have := h.bz
  simp at hz
  refine ⟨hgr.os.trans hb.os, hgr.tape.trans hb.tape, hgr.output.trans hb.output, by omega, fun j hj => ?_⟩
  rw [hgr.block j (by simp; omega) ?_, Below.heap_alloc _ _ _ (by omega), hb.block _ (by omega)]
  intro e
  have := (ownsRow_block h.own e.symm).1
  omega
theorem Building.none_ (h : base ≤ W.heap.size) : Building base W (.slice none 0 0) 0 F gs cs :=
  ⟨h, ⟨by simp [rowL], .inl ⟨rfl, rfl⟩⟩, fun i j hi => absurd hi (by omega), fun i hi => absurd hi (by omega)⟩
theorem Building.ink {A : Option Addr} {c : Nat} (h : Building base W (.slice A k c) k F gs cs) : OwnInk base W.heap.size W A k F := by
  obtain ⟨hl, ho⟩ := h.own
  rcases ho with ⟨_, hk⟩ | ⟨g, cap, cur, hv, h1, h2, h3, h4, h5, h6⟩
  · exact .inl hk
  · injection hv with hv
    subst hv
    refine .inr ⟨g, gs, rfl, ⟨Nat.le_refl _, ⟨cur, h2⟩, h1, lt_of_cells h2, h.inj, fun i hk => ⟨(h.pts i hk).1, (h.pts i hk).2.lt⟩, fun i hk => (h.pts i hk).2, fun i hk => ⟨cs i, ?_⟩⟩⟩
    have hr := rowL_at (gs := gs) (cs := cs) (F := F) hk
    rw [← h6, List.getElem?_take, if_pos (by omega)] at hr
    rw [cell_of_block h2]
    simpa using hr
end
theorem infoS : (Try.prog.info? 29).map (fun i => (i.zero, i.size, i.bytes)) = some (some (.agg #[.slice none 0 0]), 1, 24) := infoStroke

theorem one_new {w : World} {v : Value} : ∀ j u, [v][j]? = some u → (w.alloc (.cells #[v] 29)).cell? ((⟨w.heap.size, 0, none⟩ : Addr).add j) = some u := by
  intro j u hu
  rw [add_none rfl j]
  match j, hu with
  | 0, hu => simp at hu; subst hu; simp

theorem make_room (n : Nat) (hn : n ≤ 1048576) (w : World) : ∃ cur : Array Value, cur.size = n ∧
    (Instr.makeSlice 38 (.int .i64 0) (.int .i64 (n : Int))).run Try.prog w = .ok (.slice (some ⟨w.heap.size, 0, none⟩) 0 n) (w.alloc (.cells cur 29)) := by
  obtain ⟨i0, hi, hz0, hz1, hz2⟩ := info_parts infoStroke
  have hr := run_make (P := Try.prog) w 38 29 i0 _ Try.underlying38 hi hz0 .i64 .i64 0 n (by omega) (by omega) (by rw [hz2]; omega) (by omega)
  simp only [Int.toNat_natCast, Int.toNat_zero] at hr
  refine ⟨_, ?_, hr⟩
  rw [hz1]
  simp [madeCells]
theorem Building.room {w : World} {cur : Array Value} {n : Nat} {F : Nat → List P3} {gs cs : Nat → Nat} (hc : cur.size = n) (hn : n ≤ 1048576) : Building w.heap.size (w.alloc (.cells cur 29)) (.slice (some ⟨w.heap.size, 0, none⟩) 0 n) 0 F gs cs :=
  ⟨by simp, ⟨by simp [rowL], .inr ⟨w.heap.size, n, cur, rfl, Nat.le_refl _, heap_alloc_new _ _, by omega, by simp [maxLen]; omega, by omega, by simp [rowL]⟩⟩, fun i j hi => absurd hi (by omega), fun i hi => absurd hi (by omega)⟩

set_option maxRecDepth 100000 in
set_option maxHeartbeats 2000000 in
theorem copyStrokes_calls {C : Nat} (A : Option Addr) (n : Nat) (F : Nat → List P3) (w : World) (hcap : n ≤ 1048576) (hp : SrcRows w A n F) :
    Calls Try.prog 69 #[.slice A n C] w fun e w' => ∃ A' c' gs cs, e = .returned (.slice A' n c') ∧ Building w.heap.size w' (.slice A' n c') n F gs cs ∧ Below w.heap.size w w' := by
  have HP := Lib.hid hp
  clear hp
  obtain ⟨i0, hi0, hz0, hz1, hz2⟩ := info_parts infoS
  obtain ⟨cur, hcs, hmk⟩ := make_room n hcap w
  have HC := Lib.hid hcs
  clear hcs
  go_enter Try.func69, Try.ntmps69
  go_wp2
  go_loopw [3, 11] (fun s i w' => ∃ (k : Nat) (A' : Option Addr) (c' : Nat), k ≤ n ∧ i = .int .i64 (k : Int) ∧ s = .slice A' k c' ∧ Hid (∃ gs cs, Building w.heap.size w' (.slice A' k c') k F gs cs) ∧ Hid (Below w.heap.size w w')) (fun _ i _ => n - (intOf i).toNat)
  case atStart => exact ⟨0, _, _, Nat.zero_le _, rfl, rfl, Lib.hid ⟨fun _ => 0, fun _ => 0, Building.room HC.out hcap⟩, Lib.hid (below_alloc1 _ _)⟩
  case round =>
    clear hmk
    obtain ⟨k, A', c', hk, rfl, rfl, HG, HB⟩ := hrel
    by_cases hlt : k < n
    · obtain ⟨G, o, g, c, rfl, hG, p0, hgz, hpt, hl1, hl2⟩ := HP.out k hlt
      have q0 := (HB.out.cell (p := ⟨G, o + k, none⟩) hG).trans p0
      have HPT := Lib.hid (hpt.below HB.out hgz)
      have hG' : G < wr.heap.size := Nat.lt_of_lt_of_le hG HB.out.size
      have hgz' : g < wr.heap.size := Nat.lt_of_lt_of_le hgz HB.out.size
      have hli : (k : Int) < (n : Int) := by omega
      clear p0 hpt
      obtain ⟨gs, cs, hbd⟩ := HG.out
      have HD := Lib.hid hbd
      clear hbd HG
      go_wp2_with (first
        | (go_at_call 70
           refine (copyStroke_calls g (F k).length (F k) _ rfl hl1 hl2 (by simp; omega) (HPT.out.below (below_alloc1 _ _) hgz')).mono ?_
           rintro e w2 ⟨g2, c2, rfl, hg2, ho2, hb2⟩
           have HB2 := Lib.hid ((below_alloc1 wr _).trans (hb2.mono (below_alloc1 wr _).size))
           have HO2 := Lib.hid ho2
           have HD2 := Lib.hid (HD.out.kept HB2.out)
           clear hb2 ho2)
        | (at_builtin
           refine wpList_append_lies _ rfl (.tmp 15) (.tmp 18) _ rfl w.heap.size 29 i0 _ 1 24 Try.underlying38 hi0 hz0 hz1 hz2 rfl (by omega) (.slice A' k c') k _ (by first | rfl | simp) (HD2.out.kept (below_alloc1 _ _)).own ⟨w2.heap.size, 0, none⟩ 1 1 [.slice (some ⟨g2, 0, none⟩) (F k).length c2] (by first | rfl | simp) (by simp) one_new (by simp [Value.oneCell']) (by omega) (by simp only [maxLen]; omega) (by omega) (Nat.le_trans HD2.out.bz (by simp)) _ rfl ?_
           intro g3 cap3 w3 hown hgr hat hlt3
           have HM := Lib.hid (HD.out.more HB2.out (by simp at hg2; omega) HO2.out hown hgr)
           have HU := Lib.hid (HB.out.trans (HD.out.under HB2.out hgr))
           clear hown hgr hat))
      go_roundw
      case rel => exact ⟨k + 1, _, _, by omega, by go_num, rfl, Lib.hid ⟨_, _, HM.out⟩, HU⟩
      case measure => simp [intOf]; omega
    · obtain rfl : k = n := by omega
      obtain ⟨gs, cs, hbd⟩ := HG.out
      have HD := Lib.hid hbd
      clear hbd HG
      go_wp2
      go_ret
      exact ⟨A', c', gs, cs, rfl, HD.out, HB.out⟩
end Go.Proofs.Ytklfmlbokedbdaa.owned
