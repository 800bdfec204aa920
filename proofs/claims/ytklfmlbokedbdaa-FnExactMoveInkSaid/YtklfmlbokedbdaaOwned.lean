/-
  Proved: what the functions that mark points and look for the marks do to ink in blocks of its own (contracts of callees of the laws on functions that return ink).
  Conditions: the ink lies in blocks of its own.
-/
import Derived.Test.YtklfmlbokedbdaaInkLaw
namespace Go.Proofs.Ytklfmlbokedbdaa.owned
open Go.ChangeShapes Go.WideShapes Go.ChangeAt Go.RowKit Go.Joins
open Go.Proofs.Ytklfmlbokedbdaa.join Go.Proofs.Ytklfmlbokedbdaa.strokes Go.Proofs.Ytklfmlbokedbdaa.valid Go.Proofs.Ytklfmlbokedbdaa.inks
set_option linter.unusedVariables false

/-- Of what was there, at most the blocks from lo up to hi have turned. -/
structure Only (lo hi : Nat) (w w' : World) : Prop where
  os : w'.os = w.os
  tape : w'.tape = w.tape
  output : w'.output = w.output
  size : w.heap.size ≤ w'.heap.size
  block : ∀ k, k < w.heap.size → (k < lo ∨ hi ≤ k) → w'.heap[k]? = w.heap[k]?
section
variable {lo hi lo' hi' : Nat} {w w' w2 : World}
theorem Only.refl (lo hi : Nat) (w : World) : Only lo hi w w := ⟨rfl, rfl, rfl, Nat.le_refl _, fun _ _ _ => rfl⟩
theorem Only.trans (h : Only lo hi w w') (h' : Only lo hi w' w2) : Only lo hi w w2 :=
  ⟨h'.os.trans h.os, h'.tape.trans h.tape, h'.output.trans h.output, Nat.le_trans h.size h'.size, fun k hk ho => (h'.block k (Nat.lt_of_lt_of_le hk h.size) ho).trans (h.block k hk ho)⟩
theorem Only.of_below (h : Below w.heap.size w w') : Only lo hi w w' := ⟨h.os, h.tape, h.output, h.size, fun k hk _ => h.block k hk⟩
theorem Only.below {B : Nat} (h : Only lo hi w w') (hB : B ≤ lo) (hz : B ≤ w.heap.size) : Below B w w' := ⟨h.os, h.tape, h.output, h.size, fun k hk => h.block k (by omega) (.inl (by omega))⟩
theorem Only.mono (h : Only lo hi w w') (h1 : lo' ≤ lo) (h2 : hi ≤ hi') : Only lo' hi' w w' := ⟨h.os, h.tape, h.output, h.size, fun k hk ho => h.block k hk (by omega)⟩
theorem Only.cell (h : Only lo hi w w') {p : Addr} (hp : p.block < w.heap.size) (ho : p.block < lo ∨ hi ≤ p.block) : w'.cell? p = w.cell? p := World.cell?_of_block (h.block _ hp ho)
theorem Only.setCell (h : Only lo hi w w') {g i : Nat} (h1 : lo ≤ g) (h2 : g < hi) (v : Value) : Only lo hi w (w'.setCell ⟨g, i, none⟩ v) :=
  ⟨h.os, h.tape, h.output, by simpa [World.setCell] using h.size, fun k hk ho => by
    rw [Below.heap_setCell _ _ _ _ (by simp; omega)]
    exact h.block k hk ho⟩
theorem Only.drew (h : Only lo hi w w') : Only lo hi w w'.drew := ⟨h.os, h.tape, h.output, h.size, h.block⟩
end

def OwnPts (w : World) (g : Nat) (pts : List P3) : Prop := Pts w g pts ∧ ∃ cur, w.heap[g]? = some (.cells cur 71 (0, 0))
theorem OwnPts.lt {w : World} {g : Nat} {pts : List P3} (h : OwnPts w g pts) : g < w.heap.size := by
  obtain ⟨cur, hc⟩ := h.2
  exact (Array.getElem?_eq_some_iff.1 hc).1
theorem OwnPts.same {w w' : World} {g : Nat} {pts : List P3} (h : OwnPts w g pts) (he : w'.heap[g]? = w.heap[g]?) : OwnPts w' g pts := by
  obtain ⟨cur, hc⟩ := h.2
  refine ⟨fun i p hi => ?_, cur, he.trans hc⟩
  obtain ⟨h0, h1, h2⟩ := h.1 i p hi
  exact ⟨(World.cell?_of_block (a := ⟨g, i * 3, none⟩) he).trans h0, (World.cell?_of_block (a := ⟨g, i * 3 + 1, none⟩) he).trans h1, (World.cell?_of_block (a := ⟨g, i * 3 + 2, none⟩) he).trans h2⟩

/-- Block G holds n strokes, the points of stroke i in block gs i, all of them different blocks from lo up to hi. -/
structure Own (lo hi : Nat) (w : World) (G : Nat) (gs : Nat → Nat) (n : Nat) (F : Nat → List P3) : Prop where
  top : hi ≤ w.heap.size
  row : ∃ cur, w.heap[G]? = some (.cells cur 29 (0, 0))
  glo : lo ≤ G
  ghi : G < hi
  inj : ∀ i j, i < n → j < n → gs i = gs j → i = j
  inn : ∀ i, i < n → lo ≤ gs i ∧ gs i < hi
  pts : ∀ i, i < n → OwnPts w (gs i) (F i)
  at_ : ∀ i, i < n → ∃ c, w.cell? ⟨G, i, none⟩ = some (.slice (some ⟨gs i, 0, none⟩) (F i).length c)
def OwnInk (lo hi : Nat) (w : World) (A : Option Addr) (n : Nat) (F : Nat → List P3) : Prop := n = 0 ∨ ∃ G gs, A = some ⟨G, 0, none⟩ ∧ Own lo hi w G gs n F
section
variable {lo hi lo' hi' : Nat} {w w' : World} {G : Nat} {gs : Nat → Nat} {n : Nat} {F F' : Nat → List P3} {A : Option Addr}
theorem Own.ne (h : Own lo hi w G gs n F) {i : Nat} (hi_ : i < n) : gs i ≠ G := by
  obtain ⟨cur, hc⟩ := h.row
  obtain ⟨_, cur', hc'⟩ := h.pts i hi_
  intro e
  rw [e, hc] at hc'
  cases hc'
theorem Own.only (h : Own lo hi w G gs n F) (ho : Only lo' hi' w w') (hd : hi ≤ lo' ∨ hi' ≤ lo) : Own lo hi w' G gs n F := by
  have top := h.top
  have hb : ∀ k, lo ≤ k → k < hi → w'.heap[k]? = w.heap[k]? := fun k h1 h2 => ho.block k (by omega) (by omega)
  have hGb := hb G h.glo h.ghi
  obtain ⟨cur, hc⟩ := h.row
  refine ⟨Nat.le_trans top ho.size, ⟨cur, hGb.trans hc⟩, h.glo, h.ghi, h.inj, h.inn, fun i hi_ => (h.pts i hi_).same (hb _ (h.inn i hi_).1 (h.inn i hi_).2), fun i hi_ => ?_⟩
  obtain ⟨c, hcell⟩ := h.at_ i hi_
  exact ⟨c, (World.cell?_of_block (a := ⟨G, i, none⟩) hGb).trans hcell⟩
theorem Own.kept (h : Own lo hi w G gs n F) (hb : Below w.heap.size w w') : Own lo hi w' G gs n F := h.only (lo' := 0) (hi' := 0) (Only.of_below hb) (.inr (Nat.zero_le _))
theorem OwnInk.only (h : OwnInk lo hi w A n F) (ho : Only lo' hi' w w') (hd : hi ≤ lo' ∨ hi' ≤ lo) : OwnInk lo hi w' A n F := by
  rcases h with h | ⟨G, gs, e, h⟩
  · exact .inl h
  · exact .inr ⟨G, gs, e, h.only ho hd⟩
theorem OwnInk.kept (h : OwnInk lo hi w A n F) (hb : Below w.heap.size w w') : OwnInk lo hi w' A n F := h.only (lo' := 0) (hi' := 0) (Only.of_below hb) (.inr (Nat.zero_le _))
theorem OwnInk.mono (h : OwnInk lo hi w A n F) (h1 : lo' ≤ lo) (h2 : hi ≤ hi') (h3 : hi' ≤ w.heap.size) : OwnInk lo' hi' w A n F := by
  rcases h with h | ⟨G, gs, e, h⟩
  · exact .inl h
  · exact .inr ⟨G, gs, e, ⟨h3, h.row, Nat.le_trans h1 h.glo, Nat.lt_of_lt_of_le h.ghi h2, h.inj, fun i hi_ => ⟨Nat.le_trans h1 (h.inn i hi_).1, Nat.lt_of_lt_of_le (h.inn i hi_).2 h2⟩, h.pts, h.at_⟩⟩
/-- The points of one stroke are others now, in the same block. -/
theorem Own.turn (h : Own lo hi w G gs n F) {k : Nat} (hk : k < n) (ho : Only (gs k) (gs k + 1) w w') {q : List P3} (hq : OwnPts w' (gs k) q) (hl : q.length = (F k).length) : Own lo hi w' G gs n (fun i => if i = k then q else F i) := by
  have top := h.top
  have hGb := ho.block G (by have := h.ghi; omega) (by have := h.ne hk; omega)
  obtain ⟨cur, hc⟩ := h.row
  refine ⟨Nat.le_trans top ho.size, ⟨cur, hGb.trans hc⟩, h.glo, h.ghi, h.inj, h.inn, fun i hi_ => ?_, fun i hi_ => ?_⟩
  · by_cases e : i = k
    · subst e
      simpa using hq
    · simp only [if_neg e]
      have hne : gs i ≠ gs k := fun hh => e (h.inj i k hi_ hk hh)
      exact (h.pts i hi_).same (ho.block _ (h.pts i hi_).lt (by omega))
  · obtain ⟨c, hcell⟩ := h.at_ i hi_
    refine ⟨c, ?_⟩
    by_cases e : i = k
    · subst e
      simp only [if_true, hl]
      exact (World.cell?_of_block (a := ⟨G, i, none⟩) hGb).trans hcell
    · simp only [if_neg e]
      exact (World.cell?_of_block (a := ⟨G, i, none⟩) hGb).trans hcell
theorem Own.cast (h : Own lo hi w G gs n F) (he : ∀ i, i < n → F' i = F i) : Own lo hi w G gs n F' :=
  ⟨h.top, h.row, h.glo, h.ghi, h.inj, h.inn, fun i hi_ => by rw [he i hi_]; exact h.pts i hi_, fun i hi_ => by rw [he i hi_]; exact h.at_ i hi_⟩
end

/-- The marks from k on. -/
def mP (k : Nat) (n : Nat) : List P3 := (List.range n).map fun (i : Nat) => (((k + 3 * i : Nat) : Int), ((k + 3 * i + 1 : Nat) : Int), ((k + 3 * i + 2 : Nat) : Int))
theorem mP_len (k n : Nat) : (mP k n).length = n := by simp [mP]
theorem mP_at {k n i : Nat} (h : i < n) : (mP k n)[i]? = some (((k + 3 * i : Nat) : Int), ((k + 3 * i + 1 : Nat) : Int), ((k + 3 * i + 2 : Nat) : Int)) := by
  simp [mP, h]
def pre (F : Nat → List P3) : Nat → Nat
  | 0 => 0
  | i + 1 => pre F i + (F i).length
def mI (k : Nat) (F : Nat → List P3) (i : Nat) : List P3 := mP (k + 3 * pre F i) (F i).length

/-- What a round of the marking loop finds: the block has its first j marks. -/
structure Marking (w : World) (g n k j : Nat) (w' : World) : Prop where
  only : Only g (g + 1) w w'
  row : ∃ cur : Array Value, w'.heap[g]? = some (.cells cur 71 (0, 0)) ∧ n * 3 ≤ cur.size ∧
    ∀ (i : Nat), i < j → cur[i * 3]? = some (.int .i64 ((k + 3 * i : Nat) : Int)) ∧ cur[i * 3 + 1]? = some (.int .i64 ((k + 3 * i + 1 : Nat) : Int)) ∧ cur[i * 3 + 2]? = some (.int .i64 ((k + 3 * i + 2 : Nat) : Int))
theorem Marking.lt {w : World} {g n k j : Nat} {w' : World} (h : Marking w g n k j w') : g < w'.heap.size := by
  obtain ⟨cur, hc, _⟩ := h.row
  exact (Array.getElem?_eq_some_iff.1 hc).1
theorem Marking.at_ {w : World} {g n k j : Nat} {w' : World} (h : Marking w g n k j w') (hj : j < n) :
    (∃ v0 v1 v2, w'.cell? ⟨g, j * 3, none⟩ = some v0 ∧ w'.cell? ⟨g, j * 3 + 1, none⟩ = some v1 ∧ w'.cell? ⟨g, j * 3 + 2, none⟩ = some v2) ∧ ∀ o, w'.frozen? ⟨g, o, none⟩ = false := by
  obtain ⟨cur, hc, hs, _⟩ := h.row
  refine ⟨⟨cur[j * 3]'(by omega), cur[j * 3 + 1]'(by omega), cur[j * 3 + 2]'(by omega), ?_, ?_, ?_⟩, unfrozen_of_block hc⟩
  · rw [cell_of_block hc]; exact Array.getElem?_eq_getElem _
  · rw [cell_of_block hc]; exact Array.getElem?_eq_getElem _
  · rw [cell_of_block hc]; exact Array.getElem?_eq_getElem _
theorem Marking.step {w : World} {g n k j : Nat} {w2 : World} (h : Marking w g n k j w2) (hj : j < n) {x y t : Int} (hx : x = ((k + 3 * j : Nat) : Int)) (hy : y = ((k + 3 * j + 1 : Nat) : Int)) (ht : t = ((k + 3 * j + 2 : Nat) : Int)) :
    Marking w g n k (j + 1) (((w2.setCell ⟨g, j * 3, none⟩ (.int .i64 x)).setCell ⟨g, j * 3 + 1, none⟩ (.int .i64 y)).setCell ⟨g, j * 3 + 2, none⟩ (.int .i64 t)) := by
  subst hx hy ht
  obtain ⟨cur, hc, hs, hpt⟩ := h.row
  have s1 := block_setCell (i := j * 3) hc (.int .i64 ((k + 3 * j : Nat) : Int))
  have s2 := block_setCell (i := j * 3 + 1) s1 (.int .i64 ((k + 3 * j + 1 : Nat) : Int))
  have s3 := block_setCell (i := j * 3 + 2) s2 (.int .i64 ((k + 3 * j + 2 : Nat) : Int))
  refine ⟨((h.only.setCell (Nat.le_refl _) (by omega) _).setCell (Nat.le_refl _) (by omega) _).setCell (Nat.le_refl _) (by omega) _, _, s3, by simpa using hs, ?_⟩
  intro i hi
  by_cases e : i = j
  · subst e
    simp [Array.getElem?_setIfInBounds]
    omega
  · obtain ⟨h1, h2, h3⟩ := hpt i (by omega)
    rw [Array.getElem?_setIfInBounds_ne (by omega), Array.getElem?_setIfInBounds_ne (by omega), Array.getElem?_setIfInBounds_ne (by omega), Array.getElem?_setIfInBounds_ne (by omega), Array.getElem?_setIfInBounds_ne (by omega), Array.getElem?_setIfInBounds_ne (by omega), Array.getElem?_setIfInBounds_ne (by omega), Array.getElem?_setIfInBounds_ne (by omega), Array.getElem?_setIfInBounds_ne (by omega)]
    exact ⟨h1, h2, h3⟩
theorem Marking.pts {w : World} {g n k j : Nat} {w' : World} (h : Marking w g n k j w') (hj : n ≤ j) : OwnPts w' g (mP k n) := by
  obtain ⟨cur, hc, hs, hp⟩ := h.row
  refine ⟨fun i p hi => ?_, cur, hc⟩
  have hlt : i < n := by have := (List.getElem?_eq_some_iff.1 hi).1; rw [mP_len] at this; exact this
  rw [mP_at hlt] at hi
  injection hi with hi
  subst hi
  rw [cell_of_block hc, cell_of_block hc, cell_of_block hc]
  exact hp i (by omega)
theorem Marking.start {w : World} {g n k : Nat} {pts : List P3} (h : OwnPts w g pts) (hn : pts.length = n) : Marking w g n k 0 w := by
  obtain ⟨cur, hc⟩ := h.2
  refine ⟨Only.refl _ _ _, cur, hc, ?_, fun i hi => absurd hi (by omega)⟩
  rcases Nat.eq_zero_or_pos n with h0 | h0
  · omega
  · have hl : n - 1 < pts.length := by omega
    have := (h.1 (n - 1) _ (List.getElem?_eq_getElem hl)).2.2
    rw [cell_of_block hc] at this
    have := (Array.getElem?_eq_some_iff.1 this).1
    omega

set_option maxRecDepth 100000 in
set_option maxHeartbeats 2000000 in
theorem markPointS_calls {c : Nat} (g n k : Nat) (pts : List P3) (w : World) (hn : pts.length = n) (hcap : k + 3 * n ≤ 9000000000000000000) (hp : OwnPts w g pts) :
    Calls Try.prog 72 #[.slice (some ⟨g, 0, none⟩) n c, .int .i64 (k : Int)] w fun e w' => e = .returned (.int .i64 ((k + 3 * n : Nat) : Int)) ∧ OwnPts w' g (mP k n) ∧ Only g (g + 1) w w' := by
  have HM0 := Lib.hid (Marking.start (k := k) hp hn)
  clear hn hp
  go_enter Try.func72, Try.ntmps72
  go_wp2
  go_loopw [1, 5] (fun m i w' => ∃ j : Nat, j ≤ n ∧ i = .int .i64 (j : Int) ∧ m = .int .i64 ((k + 3 * j : Nat) : Int) ∧ Hid (Marking w g n k j w')) (fun _ i _ => n - (intOf i).toNat)
  case atStart => exact ⟨0, Nat.zero_le _, rfl, rfl, HM0⟩
  case round =>
    clear HM0
    obtain ⟨j, hj, rfl, rfl, HG⟩ := hrel
    by_cases hlt : j < n
    · obtain ⟨⟨v0, v1, v2, c0, c1, c2⟩, hfz⟩ := HG.out.at_ hlt
      have hgz := HG.out.lt
      have hli : (j : Int) < (n : Int) := by omega
      go_wp2
      go_roundw
      case rel => exact ⟨j + 1, by omega, by go_num, by go_num, Lib.hid (HG.out.step hlt (by go_num) (by go_num) (by go_num))⟩
      case measure => simp [intOf]; omega
    · obtain rfl : j = n := by omega
      go_wp2
      go_ret
      exact ⟨rfl, HG.out.pts (Nat.le_refl _), HG.out.only⟩
end Go.Proofs.Ytklfmlbokedbdaa.owned
